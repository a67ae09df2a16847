package tests

import (
	"fmt"
	"strings"

	"loop.example/g00325/impl"
)

// plainNamed is a kind by its number among those, and what stands behind it.
func plainNamed(kinds []string, kind int, name, text string) string {
	told := "none"
	for k, said := range kinds {
		if kind == k+1 {
			told = said
		}
	}
	if name == "" {
		name = text
	}
	return told + " " + name
}

func plainTokenText(t impl.Token) string {
	self := ""
	if t.Self {
		self = " self"
	}
	return fmt.Sprintf("%s =%d%s", plainNamed([]string{"text", "start", "end", "note", "kind"}, t.Kind, t.Name, t.Text), len(t.Attrs), self)
}

func plainTokensText(list []impl.Token) string {
	all := ""
	for _, t := range list {
		all += plainTokenText(t) + "\n"
	}
	return all
}

func plainTreeText(list []impl.Item) string {
	if !plainTreeOk(list) {
		return ""
	}
	return plainItemText(list, 0, "")
}

func plainItemText(list []impl.Item, i int, ahead string) string {
	it := list[i]
	var all strings.Builder
	all.WriteString(ahead + plainNamed([]string{"page", "tag", "text", "note", "kind"}, it.Kind, it.Name, it.Text) + "\n")
	for _, k := range it.Kids {
		all.WriteString(plainItemText(list, k, ahead+" "))
	}
	return all.String()
}

func plainDocText(list []impl.El) string { return plainElsText(list, "") }

func plainElsText(list []impl.El, ahead string) string {
	var all strings.Builder
	for _, e := range list {
		all.WriteString(ahead + plainNamed([]string{"tag", "text", "note"}, e.Kind, e.Name, e.Text) + "\n")
		all.WriteString(plainElsText(e.Kids, ahead+" "))
	}
	return all.String()
}
