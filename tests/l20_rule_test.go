package tests

import (
	"slices"

	"loop.example/g00325/impl"
)

// plainTurn is the document's rule: one reason behind the other, without any storeys.
func plainTurn(s string) (string, int) {
	if len(s) > 20000 {
		return "", 1
	}
	list := impl.Html(s)
	if len(list) == 3000 {
		return "", 2
	}
	doc := impl.DocOf(list)
	if text := impl.Write(doc); impl.DocOk(doc) && len(text) <= 200000 {
		return text, 0
	}
	return "", 3
}

func plainAgain(s string) (string, bool) {
	list, ok := impl.Read(s)
	return impl.Write(list), ok
}

func plainWordsOf(list []impl.El) string {
	words := ""
	for _, e := range list {
		if e.Kind == 2 {
			words += e.Text
		}
		words += plainWordsOf(e.Kids)
	}
	return words
}

func plainTextsOf(list []impl.Item) string {
	if !plainTreeOk(list) {
		return ""
	}
	texts := ""
	for _, i := range plainOrder(list, 0) {
		if list[i].Kind == 3 && !slices.Contains(list[0].Kids, i) {
			texts += plainTextOf(impl.Signs(list[i].Text))
		}
	}
	return texts
}
