package tests

import (
	"slices"

	"loop.example/g00325/impl"
)

// verdict is what each of the four judges tells of a page.
type verdict struct{ back, sound, words, said bool }

var allTrue = verdict{back: true, sound: true, words: true, said: true}

// judgedAs is what the program tells.
func judgedAs(s string) verdict {
	return verdict{impl.JudgeBack(s), impl.JudgeSound(s), impl.JudgeWords(s), impl.JudgeSaid(s)}
}

// plainJudged is the document's rule, by the other chapters' functions.
func plainJudged(s string) verdict {
	text, how := impl.Turn(s)
	if how != 0 {
		return allTrue
	}
	list := impl.Html(s)
	doc, said := impl.DocOf(list), impl.PageText(list)
	read, ok := impl.Read(text)
	told := verdict{back: ok && sameEls(read, doc), sound: impl.Sound(list), words: true, said: true}
	if impl.Deep(list) <= 58 {
		told.words = impl.WordsOf(doc) == impl.TextsOf(list)
	}
	if impl.Sayable(list) && !slices.Contains(impl.Bare(list), "table") && impl.Deep(list) <= 20 && len(said) <= 20000 {
		told.said = impl.SameTree(impl.Html(said), list)
	}
	return told
}

// plainJudgedThrough is the rule by the rules of all chapters that come into it, for pages that are not long: nothing of the program
// comes into it but how a page is scanned.
func plainJudgedThrough(s string) verdict {
	treeOfPage := func(s string) []impl.Item { return plainFinish(plainMake(impl.Scan(s))).Items }
	list := treeOfPage(s)
	doc, said := plainDocOf(list), plainSaid(list, 0)
	text := plainWrite(doc)
	if len(s) > 20000 || len(list) == 3000 || len(text) > 200000 {
		return allTrue
	}
	read, ok := plainRead(text)
	told := verdict{back: ok && sameEls(read, doc), sound: plainSound(list), words: true, said: true}
	if plainDeep(list, 0) <= 58 {
		told.words = plainWordsOf(doc) == plainTextsOf(list)
	}
	if plainSayable(list) && !slices.Contains(plainBare(list), "table") && plainDeep(list, 0) <= 20 && len(said) <= 20000 {
		told.said = branches(treeOfPage(said), 0) == branches(list, 0)
	}
	return told
}
