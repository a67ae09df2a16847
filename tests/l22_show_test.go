package tests

import (
	"fmt"
	"math"
	"slices"
	"strconv"
	"strings"
	"testing"

	"loop.example/g00325/impl"
)

// linesOf are the lines of what is shown, each of which ends with a byte 10.
func linesOf(t *testing.T, shown string) []string {
	t.Helper()
	if shown == "" {
		return nil
	}
	rest, ok := strings.CutSuffix(shown, "\n")
	if !ok {
		t.Fatalf("%s does not end its last line", shortText(shown))
	}
	return strings.Split(rest, "\n")
}

func isOneLine(name, text string) bool { return !strings.Contains(name+text, "\n") }

// checkTokens holds what is shown of words against the rule, and promise 22: each has its line.
func checkTokens(t *testing.T, list []impl.Token) {
	t.Helper()
	each := ""
	for _, word := range list {
		got := impl.TokenText(word)
		if want := plainTokenText(word); got != want {
			t.Fatalf("TokenText(%s) = %s, want %s", shownWords(wordsOf(word)), shortText(got), shortText(want))
		}
		each += got + "\n"
	}
	got := impl.TokensText(list)
	if want := plainTokensText(list); got != want || got != each {
		t.Fatalf("TokensText(%s) = %s, want %s", shownWords(list), shortText(got), shortText(want))
	}
	if slices.ContainsFunc(list, func(word impl.Token) bool { return !isOneLine(word.Name, word.Text) }) {
		return
	}
	lines := linesOf(t, got)
	if len(lines) != len(list) {
		t.Fatalf("TokensText(%s) has %d lines", shownWords(list), len(lines))
	}
	for k, word := range list {
		if lines[k] != impl.TokenText(word) {
			t.Fatalf("line %d of TokensText(%s) is %q", k, shownWords(list), lines[k])
		}
	}
}

// checkTreeText holds what is shown of items against the rule, and promise 22.
func checkTreeText(t *testing.T, list []impl.Item) string {
	t.Helper()
	got := impl.TreeText(list)
	if want := plainTreeText(list); got != want {
		t.Fatalf("TreeText(%s) = %s, want %s", shownItems(list), shortText(got), shortText(want))
	}
	if slices.ContainsFunc(list, func(it impl.Item) bool { return !isOneLine(it.Name, it.Text) }) {
		return got
	}
	lines, order := linesOf(t, got), impl.Order(list)
	if len(lines) != len(order) {
		t.Fatalf("TreeText(%s) has %d lines", shownItems(list), len(lines))
	}
	for k, i := range order {
		said := list[i].Name
		if said == "" {
			said = list[i].Text
		}
		behind, ok := strings.CutPrefix(lines[k], strings.Repeat(" ", len(impl.Way(list, i))-1))
		if !ok || behind[0] == ' ' || !strings.HasSuffix(behind, " "+said) {
			t.Fatalf("line %d of TreeText(%s) is %q", k, shownItems(list), lines[k])
		}
	}
	return got
}

// checkDocText holds what is shown of elements against the rule, and promise 22.
func checkDocText(t *testing.T, list []impl.El) string {
	t.Helper()
	got := impl.DocText(list)
	if want := plainDocText(list); got != want {
		t.Fatalf("DocText(%s) = %s, want %s", shownEls(list...), shortText(got), shortText(want))
	}
	many, broken := 0, false
	for _, e := range list {
		many += plainElSize(e)
		changedEls(e, func(at *impl.El) bool {
			broken = broken || !isOneLine(at.Name, at.Text)
			return false
		})
	}
	if lines := linesOf(t, got); !broken && len(lines) != many {
		t.Fatalf("DocText(%s) has %d lines, and there are %d elements", shownEls(list...), len(lines), many)
	}
	return got
}

// checkShown holds all that is shown of a page, and of what it becomes, against the rules; what is turned is read as it was.
func checkShown(t *testing.T, s string) {
	t.Helper()
	checkTokens(t, impl.Scan(s))
	list := impl.Html(s)
	checkTreeText(t, list)
	doc := checkDocText(t, impl.DocOf(list))
	text, how := impl.Turn(s)
	if how != impl.CvDone {
		return
	}
	read, ok := impl.Read(text)
	if again := checkDocText(t, read); !ok || again != doc {
		t.Fatalf("of %s is shown %s, and when it was read %s", shortText(s), shortText(doc), shortText(again))
	}
	if again, _ := impl.Again(text); again != text {
		t.Fatalf("of %s is turned %s, and again %s", shortText(s), shortText(text), shortText(again))
	}
}

func TestTokenTextByHand(t *testing.T) {
	for _, c := range []struct {
		word impl.Token
		want string
	}{
		{impl.Token{}, "none  =0"},
		{textWord("x"), "text x =0"}, {textWord(""), "text  =0"}, {textWord(" "), "text   =0"}, {textWord("a b"), "text a b =0"}, {textWord("\n"), "text \n =0"}, {textWord("\xff\x00"), "text \xff\x00 =0"}, {textWord("é😀"), "text é😀 =0"}, {textWord(" self"), "text  self =0"},
		{startWord("p"), "start p =0"}, {startWord("p", "a", "1"), "start p =1"}, {startWord("p", "a", "1", "b", "", "c", "x"), "start p =3"}, {selfWord("br"), "start br =0 self"}, {selfWord("br", "a", "\n"), "start br =1 self"}, {startWord(""), "start  =0"}, {startWord("P"), "start P =0"},
		{endWord("p"), "end p =0"}, {endWord(""), "end  =0"}, {noteWord("n"), "note n =0"}, {noteWord(""), "note  =0"}, {kindWord("html"), "kind html =0"}, {kindWord(""), "kind  =0"},
		// What the Kind does not name is shown as the rest is.
		{impl.Token{Kind: impl.TkText, Name: "p", Text: "x"}, "text p =0"}, {impl.Token{Kind: impl.TkText, Text: "x", Self: true}, "text x =0 self"}, {impl.Token{Kind: impl.TkEnd, Text: "x", Attrs: attrsOf("a", "1")}, "end x =1"}, {impl.Token{Kind: impl.TkNote, Name: "p", Attrs: attrsOf("a", "1", "a", "1"), Self: true}, "note p =2 self"}, {impl.Token{Kind: impl.TkStart, Text: "x"}, "start x =0"}, {impl.Token{Kind: impl.TkStart, Name: " ", Text: "x"}, "start   =0"}, {impl.Token{Kind: impl.TkKind, Name: "\x00", Text: "x"}, "kind \x00 =0"},
		{impl.Token{Kind: 6, Name: "p", Self: true}, "none p =0 self"}, {impl.Token{Kind: -1, Text: "x"}, "none x =0"}, {impl.Token{Kind: math.MaxInt, Attrs: attrsOf("", "")}, "none  =1"}, {impl.Token{Kind: math.MinInt}, "none  =0"}, {impl.Token{Self: true}, "none  =0 self"}, {impl.Token{Kind: 257, Name: "p"}, "none p =0"},
	} {
		if got := impl.TokenText(c.word); got != c.want {
			t.Errorf("TokenText(%s) = %q, want %q", shownWords(wordsOf(c.word)), got, c.want)
		}
		checkTokens(t, wordsOf(c.word))
	}
}

// numberedAttrs are so many, all of them unlike.
func numberedAttrs(many int) []impl.Attr {
	var list []impl.Attr
	for k := range many {
		list = append(list, impl.Attr{Name: "a" + strconv.Itoa(k)})
	}
	return list
}

// textsToShow are names and texts as they may be: empty, one line, several, no right signs.
var textsToShow = []string{"", "x", " ", "  ", "\n", "a\nb", "x\n", "\r", "\x00", "\xff", "\xe2\x82", "é", "=1", " self", "none", "none  =0\n", strings.Repeat("long", 5000)}

func TestTokenTextOfEachPart(t *testing.T) {
	for _, kind := range []int{math.MinInt, -1, 0, 1, 2, 3, 4, 5, 6, 7, 10, math.MaxInt} {
		for _, name := range textsToShow {
			for _, text := range textsToShow {
				for _, self := range []bool{false, true} {
					checkTokens(t, wordsOf(impl.Token{Kind: kind, Name: name, Text: text, Self: self}))
				}
			}
		}
	}
	for _, c := range []struct {
		many int
		want string
	}{{0, "0"}, {1, "1"}, {2, "2"}, {9, "9"}, {10, "10"}, {11, "11"}, {99, "99"}, {100, "100"}, {101, "101"}, {999, "999"}, {1000, "1000"}, {12345, "12345"}, {100000, "100000"}} {
		word := impl.Token{Kind: impl.TkStart, Name: "p", Attrs: numberedAttrs(c.many), Self: true}
		if got := impl.TokenText(word); got != "start p ="+c.want+" self" {
			t.Errorf("TokenText of %d attributes = %q", c.many, got)
		}
		// With room behind it, a list is no longer.
		word.Attrs = append(word.Attrs, attrsOf("a", "1", "b", "2")...)[:c.many]
		if got := impl.TokensText(wordsOf(word, endWord("p"))); got != "start p ="+c.want+" self\nend p =0\n" {
			t.Errorf("TokensText of %d attributes = %q", c.many, got)
		}
	}
}

func TestTokensTextByHand(t *testing.T) {
	for _, c := range []struct {
		list []impl.Token
		want string
	}{
		{nil, ""}, {wordsOf(), ""}, {wordsOf(textWord("spare"))[:0], ""},
		{wordsOf(textWord("x")), "text x =0\n"}, {wordsOf(impl.Token{}), "none  =0\n"}, {wordsOf(textWord("")), "text  =0\n"},
		{wordsOf(selfWord("br", "a", "1"), textWord("x")), "start br =1 self\ntext x =0\n"}, {wordsOf(textWord("x"), selfWord("br")), "text x =0\nstart br =0 self\n"}, {wordsOf(textWord("a\n"), textWord("\nb")), "text a\n =0\ntext \nb =0\n"},
		{impl.Scan("<!doctype html><p a=1 b>x&lt;<br/></P><!--n-->"), "kind html =0\nstart p =2\ntext x< =0\nstart br =0 self\nend p =0\nnote n =0\n"}, {impl.Scan("a\r\nb"), "text a\nb =0\n"}, {impl.Scan("<!><!-->"), "note  =0\nnote  =0\n"},
	} {
		if got := impl.TokensText(c.list); got != c.want {
			t.Errorf("TokensText(%s) = %q, want %q", shownWords(c.list), got, c.want)
		}
		checkTokens(t, c.list)
	}
}

// TestAllShortRowsOfWords: no word is shown otherwise by those about it.
func TestAllShortRowsOfWords(t *testing.T) {
	words := wordsOf(impl.Token{}, textWord("x"), textWord(""), startWord("p", "a", "1", "b", "2"), selfWord("br"), endWord("p"), noteWord("a\nb"), kindWord("k"), impl.Token{Kind: 9, Name: "q", Text: "x", Attrs: numberedAttrs(10), Self: true})
	var grow func(list []impl.Token)
	grow = func(list []impl.Token) {
		checkTokens(t, list)
		if len(list) == 4 {
			return
		}
		for _, word := range words {
			grow(append(slices.Clone(list), word))
		}
	}
	grow(nil)
	many := slices.Repeat(wordsOf(selfWord("br", "a", "1"), textWord("x")), 10000)
	if got := impl.TokensText(many); got != strings.Repeat("start br =1 self\ntext x =0\n", 10000) {
		t.Errorf("TokensText of %d words = %s", len(many), shortText(got))
	}
}

func TestTreeTextByHand(t *testing.T) {
	for _, c := range []struct {
		list []impl.Item
		want string
	}{
		{itemsOf(pageItem()), "page \n"},
		{itemsOf(impl.Item{Kind: impl.ItPage, Up: -1, Text: "x"}), "page x\n"}, {itemsOf(impl.Item{Kind: impl.ItPage, Up: -1, Name: "p", Text: "x", Attrs: attrsOf("a", "1")}), "page p\n"},
		{itemsOf(pageItem(1), tagItem("p", 0)), "page \n tag p\n"}, {itemsOf(pageItem(1, 2), tagItem("p", 0), tagItem("q", 0)), "page \n tag p\n tag q\n"}, {itemsOf(pageItem(2, 1), tagItem("p", 0), tagItem("q", 0)), "page \n tag q\n tag p\n"},
		{itemsOf(pageItem(1, 2, 3), textItem("", 0), noteItem("", 0), kindItem("", 0)), "page \n text \n note \n kind \n"}, {itemsOf(pageItem(1, 2, 3), textItem(" x", 0), noteItem("n ", 0), kindItem("html", 0)), "page \n text  x\n note n \n kind html\n"},
		{itemsOf(pageItem(2), textItem("x", 2), tagItem("p", 0, 1)), "page \n tag p\n  text x\n"}, {itemsOf(pageItem(1), tagItem(" ", 0)), "page \n tag  \n"}, {itemsOf(pageItem(1), tagItem("\n", 0, 2), textItem("a\nb", 1)), "page \n tag \n\n  text a\nb\n"}, {itemsOf(pageItem(1), tagItem("\xff\x00", 0, 2), textItem("\xe2\x82", 1)), "page \n tag \xff\x00\n  text \xe2\x82\n"},
		{treeToTry(), "page \n kind html\n tag body\n  text b\n  text a\n  tag svg\n   text d\n   text c\n note n\n"},
		{impl.Html(""), "page \n tag html\n  tag head\n  tag body\n"}, {impl.Html("<!doctype html><!--n--><p a=1>x<b>y<p>z"), "page \n kind html\n note n\n tag html\n  tag body\n   tag p\n    text x\n    tag b\n     text y\n   tag p\n    tag b\n     text z\n"},
	} {
		checkTreeOk(t, true, c.list...)
		if got := checkTreeText(t, c.list); got != c.want {
			t.Errorf("TreeText(%s) = %q, want %q", shownItems(c.list), got, c.want)
		}
	}
}

func TestTreeTextOfTextsAndNames(t *testing.T) {
	for _, s := range textsToShow {
		list := itemsOf(pageItem(1, 2, 3), textItem(s, 0), noteItem(s, 0), kindItem(s, 0))
		list[0].Name = s
		if s != "" {
			list[0].Kids = append(list[0].Kids, 4)
			list = append(list, tagItem(s, 0))
		}
		checkTreeOk(t, true, list...)
		checkTreeText(t, list)
		list[0].Text = "t"
		checkTreeText(t, list)
	}
}

func TestTreeTextOfWhatIsNoTree(t *testing.T) {
	for _, list := range append(wrongTrees(), faultyTrees()...) {
		if got := impl.TreeText(list); got != "" {
			t.Errorf("TreeText(%s) = %q", shownItems(list), got)
		}
	}
	for many, right := range map[int]bool{impl.MaxItems - 1: true, impl.MaxItems: true, impl.MaxItems + 1: false} {
		if got := checkTreeText(t, flatTree(many)); (got == "page \n"+strings.Repeat(" text x\n", many-1)) != right || (got == "") == right {
			t.Errorf("of %d items is shown %s", many, shortText(got))
		}
	}
}

func TestSmallTreesShown(t *testing.T) {
	t.Parallel()
	right := 0
	check := func(list []impl.Item) {
		if checkTreeText(t, list) != "" {
			right++
		}
	}
	listsOfItems(2, numberLists([]int{-1, 0, 1, 2}, 2), []int{0, 1, 2, 3, 4, 5, 6}, []int{-2, -1, 0, 1, 2}, numberLists([]int{-1, 0, 1, 2}, 2), check)
	listsOfItems(3, numberLists([]int{0, 1, 2}, 2), []int{impl.ItPage, impl.ItTag, impl.ItNote}, []int{-1, 0, 1, 2, 3}, numberLists([]int{1, 2}, 2), check)
	listsOfItems(4, numberLists([]int{1, 2, 3}, 3), []int{impl.ItTag}, []int{0, 1, 2, 3}, numberLists([]int{1, 2, 3}, 2), check)
	if right < 40 {
		t.Errorf("only %d lists were right", right)
	}
	eachTree(5, func(list []impl.Item) { checkTreeText(t, list) })
	for _, list := range [][]impl.Item{impl.Html("<p>a<b>c"), itemsOf(pageItem(3, 4), textItem("x", 3), noteItem("n", 3), tagItem("p", 0, 2, 1), textItem("z", 0))} {
		want := checkTreeText(t, list)
		eachOrder(len(list), func(to []int) {
			if got := checkTreeText(t, renumbered(list, to)); got != want {
				t.Fatalf("with other numbers of %s is shown %q, want %q", shownItems(list), got, want)
			}
		})
	}
	for seed := range 60 {
		c := chance(seed + 1)
		list := chanceTree(&c, 10+seed*5, 1+seed%9)
		want := checkTreeText(t, list)
		to := []int{0}
		for k := 1; k < len(list); k++ {
			to = slices.Insert(to, 1+c.below(len(to)), k)
		}
		if got := checkTreeText(t, renumbered(list, to)); got != want {
			t.Fatalf("with other numbers of %s is shown %s, want %s", shownItems(list), shortText(got), shortText(want))
		}
	}
}

func TestDeepTreesShown(t *testing.T) {
	t.Parallel()
	for _, many := range []int{1, 2, impl.MaxDeep - 1, impl.MaxDeep, impl.MaxDeep + 1, 500} {
		list := deepTree(many)
		want := "page \n"
		for k := 1; k < many; k++ {
			want += strings.Repeat(" ", k) + "tag p\n"
		}
		if got := impl.TreeText(list); got != want {
			t.Errorf("of items %d deep is shown %s", many, shortText(got))
		}
	}
	// What comes behind all that is deep is shown at its own place again.
	deep := deepWith(70, true, textItem("y", 0), noteItem("z", 0))
	lines := linesOf(t, checkTreeText(t, deep))
	if !slices.Contains(lines, strings.Repeat(" ", 71)+"text y") || !slices.Contains(lines, strings.Repeat(" ", 70)+"tag p") {
		t.Error("of what is deepest is shown", lines[len(lines)-4:])
	}
	list := impl.Html(strings.Repeat("<div>", impl.MaxOpen+5) + "x")
	checkTreeText(t, list)
	for page := range deepPages() {
		checkShown(t, page)
	}
	long := impl.TreeText(deepTree(impl.MaxItems))
	if many := impl.MaxItems; len(long) != len("page \n")+(many-1)*len("tag p\n")+many*(many-1)/2 || strings.Count(long, "\n") != many || !strings.HasSuffix(long, "\n"+strings.Repeat(" ", many-1)+"tag p\n") {
		t.Errorf("of the deepest tree there is are shown %d bytes", len(long))
	}
}

func TestDocTextByHand(t *testing.T) {
	x := textEl("x")
	for _, c := range []struct {
		list []impl.El
		want string
	}{
		{nil, ""}, {elsOf(), ""}, {elsOf(x)[:0], ""},
		{elsOf(x), "text x\n"}, {elsOf(tagEl("p")), "tag p\n"}, {elsOf(noteEl("n")), "note n\n"}, {elsOf(impl.El{}), "none \n"}, {elsOf(textEl("")), "text \n"}, {elsOf(noteEl("")), "note \n"}, {elsOf(tagEl("")), "tag \n"},
		{elsOf(tagEl("p", x)), "tag p\n text x\n"}, {elsOf(tagEl("p", x), x), "tag p\n text x\ntext x\n"}, {elsOf(x, tagEl("p", x)), "text x\ntag p\n text x\n"}, {elsOf(tagEl("p", tagEl("q", x), noteEl("n")), noteEl("m")), "tag p\n tag q\n  text x\n note n\nnote m\n"}, {elsOf(tagEl("p", tagEl("q"), tagEl("r", tagEl("s")), x)), "tag p\n tag q\n tag r\n  tag s\n text x\n"},
		// A Name goes ahead of a Text, whatever the Kind; neither Space nor attributes are shown.
		{elsOf(impl.El{Kind: impl.ElText, Name: "p", Text: "x"}, impl.El{Kind: impl.ElTag, Text: "x"}, impl.El{Kind: impl.ElNote, Name: "p"}, impl.El{Name: "p", Text: "x"}, impl.El{Text: "x"}), "text p\ntag x\nnote p\nnone p\nnone x\n"}, {elsOf(withAttrs(impl.El{Kind: impl.ElTag, Space: 1, Name: "svg"}, "a", "1")), "tag svg\n"},
		{elsOf(impl.El{Kind: 4, Text: "x"}, impl.El{Kind: 5}, impl.El{Kind: -1}, impl.El{Kind: math.MaxInt, Name: "p"}, impl.El{Kind: math.MinInt}), "none x\nnone \nnone \nnone p\nnone \n"},
		// What may have no kids shows those that it has.
		{elsOf(impl.El{Kind: impl.ElText, Text: "x", Kids: elsOf(tagEl("p", x))}, impl.El{Kind: impl.ElNote, Kids: elsOf(x)}, impl.El{Kids: elsOf(impl.El{Kids: elsOf(x)}, x)}, x), "text x\n tag p\n  text x\nnote \n text x\nnone \n none \n  text x\n text x\ntext x\n"},
		{elsOf(tagEl("a\nb", textEl("\n"))), "tag a\nb\n text \n\n"}, {elsOf(tagEl(" ", textEl(" "))), "tag  \n text  \n"}, {elsOf(tagEl("\xff", textEl("\x00\xe2\x82"))), "tag \xff\n text \x00\xe2\x82\n"},
		{elsOf(elToTry()), "tag p\n text a\n note \n text b\n tag svg\n  tag g\n   text c\r\n   note n-n\n text  \n tag math\n  note \n  note m\n  text d\n tag xmlns\n tag q\n  tag q\n   text ]]>\n"},
		{impl.DocOf(impl.Html("<!--a--b--><p x:y=1>x<br>y")), "note a- -b\ntag html\n tag body\n  tag p\n   text x\n   tag br\n   text y\n"}, {impl.DocOf(nil), ""},
	} {
		if got := checkDocText(t, c.list); got != c.want {
			t.Errorf("DocText(%s) = %q, want %q", shownEls(c.list...), got, c.want)
		}
	}
}

func TestDocTextOfTextsAndNames(t *testing.T) {
	for _, kind := range []int{math.MinInt, -1, 0, 1, 2, 3, 4, 5, 6, math.MaxInt} {
		for _, name := range textsToShow {
			for _, text := range textsToShow {
				e := impl.El{Kind: kind, Name: name, Text: text, Kids: elsOf(impl.El{Kind: kind, Text: name})}
				checkDocText(t, elsOf(e, impl.El{Kind: kind}))
			}
		}
	}
}

func TestSmallDocumentsShown(t *testing.T) {
	eachSmallEl(5, elsOf(textEl("x"), noteEl("")), func(e impl.El) { checkDocText(t, elsOf(e)) })
	// Each other kind has kids, too.
	for _, kind := range []int{0, impl.ElText, impl.ElNote, 4} {
		eachSmallEl(4, elsOf(textEl("x")), func(e impl.El) {
			for _, other := range changedEls(e, func(at *impl.El) bool { at.Kind = kind; return true }) {
				checkDocText(t, elsOf(other))
			}
		})
	}
	for _, e := range wrongEls() {
		checkDocText(t, elsOf(e, tagEl("p", e, e), impl.El{Kids: elsOf(e)}))
	}
	pieces := elsOf(noteEl(""), textEl("x"), tagEl("p"), tagEl("p", textEl("x")), tagEl("p", tagEl("q", textEl("y")), noteEl("n")), impl.El{Kids: elsOf(textEl("z"))})
	var grow func(list []impl.El)
	grow = func(list []impl.El) {
		checkDocText(t, list)
		if len(list) < 4 {
			for _, e := range pieces {
				grow(append(slices.Clone(list), e))
			}
		}
	}
	grow(nil)
	for seed := range 60 {
		c := chance(seed + 1)
		e := chanceEl(&c, 1+seed*3, 60)
		checkDocText(t, elsOf(noteEl("n"), chanceSigns(&c, e), e))
	}
	for _, s := range textsToRead() {
		read, _ := impl.Read(s)
		checkDocText(t, read)
	}
}

// docLines are a line each for elements so deep, of which each has one kid.
func docLines(many int, line string) string {
	var all strings.Builder
	for k := range many {
		all.WriteString(strings.Repeat(" ", k) + line)
	}
	return all.String()
}

func TestDeepDocumentsShown(t *testing.T) {
	t.Parallel()
	for _, many := range []int{1, 2, impl.MaxDeep - 1, impl.MaxDeep, impl.MaxDeep + 1, 1000, 4000} {
		for kind, line := range map[int]string{0: "none \n", impl.ElTag: "tag \n", impl.ElText: "text \n", impl.ElNote: "note \n"} {
			got := impl.DocText(elsOf(unkindly(many-1, kind, impl.El{Kind: kind}), textEl("x")))
			if want := docLines(many, line) + "text x\n"; got != want {
				t.Errorf("of elements %d deep is shown %s", many, shortText(got))
			}
		}
	}
	checkDocText(t, elsOf(nestedEl(70, textEl("x"), elsOf(noteEl("n"), tagEl("q")), elsOf(textEl("y"))), noteEl("")))
	if got := impl.DocText(elsOf(nestedEl(300, textEl("x"), nil, elsOf(noteEl("n"))))); strings.Count(got, "\n") != 601 || !strings.HasSuffix(got, "\n   note n\n  note n\n note n\n") {
		t.Errorf("of notes behind what is deep is shown %s", shortText(got))
	}
	const many = 200000
	if got := impl.DocText(timesEl(many, tagEl("p", textEl("x")))); got != strings.Repeat("tag p\n text x\n", many) {
		t.Errorf("of %d elements side by side is shown %s", many, shortText(got))
	}
	twice := tagEl("p", textEl("x"))
	for range 10 {
		twice = tagEl("p", twice, twice)
	}
	checkDocText(t, elsOf(twice, twice))
}

func TestPagesShown(t *testing.T) {
	for _, c := range []struct {
		what   string
		ahead  string
		long   int
		pieces []string
	}{
		{"tables", "<table>", 3, []string{"<table>", "</table>", "<tr>", "<td>", "x", " ", "<b>", "<p>", "<!doctype k>", "<!--n-->"}},
		{"spaces", "<svg>", 3, []string{"<svg>", "</svg>", "<g:h>", "<math/>", "<p>", "x", "&#12;", "<!-->"}},
		{"notes", "", 4, []string{"<!--", "-->", "-", "x", "<p>", "<!", ">", "\r"}},
		{"formats", "", 4, []string{"<b>", "</b>", "<i a:=1>", "<p>", "x", "<a>"}},
		{"heads", "", 3, []string{"<title>", "</title>", "<script/>", "</script>", "<meta>", "x", " ", "<body>", "<html xmlns=1>", "<head>"}},
		{"attributes", "<p", 4, []string{" a", " b=1", "/", ">", "'", "=", "x", "\n"}},
		{"signs", "x", 3, []string{"\xe2", "\x82", "\xac", "\x00", "\ufeff", "\xf0\x9f", "<", "]", ">", "&"}},
	} {
		t.Run(c.what, func(t *testing.T) {
			t.Parallel()
			eachText(c.pieces, c.long, func(s string) { checkShown(t, c.ahead+s) })
		})
	}
	t.Run("long pages", func(t *testing.T) {
		t.Parallel()
		var all []string
		for _, word := range everyWord() {
			all = append(all, impl.Spell(wordsOf(word)))
		}
		all = append(all, "&#13;", "\r", "\xff", "<?", "</", ">", "<!", "&lt;", "<x:y a:b=\x01 xmlns>", "<!doctype k>", "\x00", "]]>")
		for seed := range 150 {
			checkShown(t, longPage(all, 1+seed%70, seed))
		}
		for _, page := range append(pagesToJudge(), ordinaryPages()...) {
			checkShown(t, page)
		}
	})
}

// spareWords is a list of words with room behind it and behind each of its lists, with something in it.
func spareWords(list []impl.Token) []impl.Token {
	var spare []impl.Token
	for _, word := range list {
		word.Attrs = append(append([]impl.Attr(nil), word.Attrs...), attrsOf("spare", "1", "room", "2")...)[:len(word.Attrs)]
		spare = append(spare, word)
	}
	return append(spare, textWord("spare"), selfWord("room"))[:len(list)]
}

func sameSpareWords(a, b []impl.Token) bool {
	more := func(list []impl.Token) []impl.Token {
		list = slices.Clone(list[:len(list)+2])
		for k := range list[:len(list)-2] {
			list[k].Attrs = list[k].Attrs[:len(list[k].Attrs)+2]
		}
		return list
	}
	return sameWords(more(a), more(b))
}

func TestShowingWritesIntoNothing(t *testing.T) {
	for _, list := range [][]impl.Token{everyWord(), nil, wordsOf(impl.Token{}), impl.Scan("<p a=1 b>x<!--n--><br/>"), wordsOf(impl.Token{Kind: 9, Name: "q", Text: "x", Attrs: numberedAttrs(9), Self: true})} {
		given := spareWords(list)
		impl.TokensText(given)
		for _, word := range given {
			impl.TokenText(word)
		}
		if !sameSpareWords(given, spareWords(list)) {
			t.Errorf("%s became %s", shownWords(list), shownWords(given))
		}
	}
	for _, list := range treesToSpoil() {
		given := roomyItems(list)
		impl.TreeText(given)
		if !sameRoom(given, roomyItems(list)) {
			t.Errorf("%s became %s", shownItems(list), shownItems(given))
		}
	}
	for _, e := range append(wrongEls(), elToTry(), nestedEl(70, textEl("x"), elsOf(noteEl("")), elsOf(tagEl("q")))) {
		given, was := roomyEls(elsOf(noteEl(""), e, e)), shownRoom(roomyEls(elsOf(noteEl(""), e, e)))
		impl.DocText(given)
		if shownRoom(given) != was {
			t.Errorf("DocText writes into %s", shownEls(e))
		}
	}
}

// TestShownAtOnceAndAgain: what stood in a line of one call is in no line of another one.
func TestShownAtOnceAndAgain(t *testing.T) {
	shown := func(s string) string {
		words, list := impl.Scan(s), impl.Html(s)
		one := ""
		for _, word := range words {
			one += impl.TokenText(word)
		}
		return fmt.Sprintf("%s\n%s\n%s\n%s", one, impl.TokensText(words), impl.TreeText(list), impl.DocText(impl.DocOf(list)))
	}
	pages := []string{"", "x", "<p x:y=1>a<br/>b", "<!--n--><svg>x<p>y", "\x00\xff", strings.Repeat("<b>x<p>", 50), "<!doctype k><br a b c/>", longPage([]string{"<p a>", "x", "<b/>", "</b>", "<td>", "<table>"}, 300, 1)}
	for k, page := range pages {
		want := shown(page)
		t.Run(fmt.Sprint(k), func(t *testing.T) {
			t.Parallel()
			for round := range 20 {
				shown(pages[(k*5+round)%len(pages)])
				if shown(page) != want {
					t.Fatalf("of %s is shown otherwise when it is asked again", shortText(page))
				}
			}
		})
	}
}
