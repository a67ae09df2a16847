package tests

import (
	"strings"

	"loop.example/g00325/impl"
)

// plainFinish is the document's rule, by that of chapter 10.
func plainFinish(p impl.Page) impl.Page {
	if !plainRight(p) {
		return p
	}
	p = plainHtml(p)
	if p.Body == 0 && p.Head == 0 {
		p = plainHead(p, nil)
	}
	if p.Body == 0 {
		p = plainBody(p)
	}
	return p
}

func plainEscaped(s string, refs map[byte]string) string {
	var all strings.Builder
	for k := 0; k < len(s); k++ {
		if ref, ok := refs[s[k]]; ok {
			all.WriteString(ref)
		} else {
			all.WriteByte(s[k])
		}
	}
	return all.String()
}

// plainSaid tells what item i says, with all that is in it; of lists that are right only.
func plainSaid(list []impl.Item, i int) string {
	it := list[i]
	said := ""
	switch it.Kind {
	case 3:
		if up := list[it.Up]; up.Kind == 2 && among(up.Name, "script style") {
			return it.Text
		}
		return plainEscaped(it.Text, map[byte]string{38: "&amp;", 60: "&lt;", 62: "&gt;", 13: "&#13;"})
	case 4:
		return "<!--" + it.Text + "-->"
	case 5:
		return "<!doctype " + it.Text + ">"
	case 2:
		said = "<" + it.Name
		for _, attr := range it.Attrs {
			said += " " + attr.Name + `="` + plainEscaped(attr.Value, map[byte]string{38: "&amp;", 34: "&quot;", 13: "&#13;"}) + `"`
		}
		said += ">"
	}
	for _, k := range it.Kids {
		said += plainSaid(list, k)
	}
	if it.Kind == 2 && !(plainIs("Void", it.Name) && it.Space == 0) {
		said += "</" + it.Name + ">"
	}
	return said
}

// plainSayable is the document's rule; of lists that are right only.
func plainSayable(list []impl.Item) bool {
	for _, it := range list {
		switch {
		case it.Kind == 4 && !impl.TokensOk(wordsOf(noteWord(it.Text))):
			return false
		case it.Kind == 5 && !impl.TokensOk(wordsOf(kindWord(it.Text))):
			return false
		case it.Kind != 2 || !among(it.Name, "script style title textarea") || len(it.Kids) == 0:
			continue
		case len(it.Kids) > 1 || list[it.Kids[0]].Kind != 3:
			return false
		}
		if text := list[it.Kids[0]].Text; among(it.Name, "script style") && plainRawEnd(text, 0, it.Name) < len(text) {
			return false
		}
	}
	return true
}

// plainDeep is how many are within each other in item i, itself too.
func plainDeep(list []impl.Item, i int) int {
	most := 0
	for _, k := range list[i].Kids {
		most = max(most, plainDeep(list, k))
	}
	return most + 1
}

// plainMostOpen is how many are open at most while those words make a page; one more where the end of a `p` may begin one for a moment.
func plainMostOpen(list []impl.Token) int {
	p, most := impl.PageNew(), 0
	for _, word := range list {
		p = impl.Step(p, word)
		most = max(most, len(p.Open))
	}
	return most + 1
}

// withinAlike tells how many tags of item i's Name, itself too, it is within, all of them of Space 0.
func withinAlike(list []impl.Item, i int) int {
	many := 0
	for k := i; k > 0; k = list[k].Up {
		if list[k].Name == list[i].Name && list[k].Space == 0 {
			many++
		}
	}
	return many
}

// hearable tells whether the rules of chapter 10 bring a tree back from what it says. They do not where a tree is not Sayable, has a table,
// came to a limit (one that is that deep has had MaxOpen open), or says more than a page may have; and further on not where
//   - an `a` is within an `a`: its start ends the other one (the page had its end further out, beyond a block);
//   - four formats of a name are within each other: the outermost one does not wait any more, so that its end is taken for another one's;
//   - a script or a style has a byte 13, which it tells as it is: that is a line's end to a page.
func hearable(list []impl.Item) bool {
	if len(list) >= impl.MaxItems || plainDeep(list, 0) > impl.MaxOpen || !plainSayable(list) || len(plainSaid(list, 0)) > impl.MaxPage {
		return false
	}
	for i, it := range list {
		switch {
		case it.Name == "table":
			return false
		case it.Kind == 3 && among(list[it.Up].Name, "script style") && strings.Contains(it.Text, "\r"):
			return false
		case plainIs("Format", it.Name) && it.Space == 0 && (withinAlike(list, i) > 3 || it.Name == "a" && withinAlike(list, i) > 1):
			return false
		}
	}
	return true
}
