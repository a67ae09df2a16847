package tests

import (
	"slices"
	"strings"

	"loop.example/g00325/impl"
)

// plainKinds holds for each name of the document's lists the kinds that it is of.
var plainKinds = func() map[string]string {
	kinds := map[string]string{}
	for _, name := range listedTags() {
		kinds[name] = " " + plainKindsOfTag(name) + " "
	}
	return kinds
}()

func plainIs(kind, name string) bool { return strings.Contains(plainKinds[name], " "+kind+" ") }

// among tells whether that name is one of those, which stand between blanks.
func among(name, names string) bool { return slices.Contains(strings.Fields(names), name) }

func onlyBlanks(s string) bool { return strings.Trim(s, "\t\n\f\r ") == "" }

// plainLast is the innermost open one; the zero Item where none is.
func plainLast(p impl.Page) impl.Item {
	if len(p.Open) == 0 {
		return impl.Item{}
	}
	return p.Items[p.Open[len(p.Open)-1]]
}

func plainInTable(p impl.Page) bool { return among(plainLast(p).Name, "table tbody tr") }

func plainInRaw(p impl.Page) bool {
	return plainLast(p).Space == 0 && among(plainLast(p).Name, "script style title textarea")
}

func plainPopName(p impl.Page, name string) impl.Page { return plainPopTo(p, plainOpenNamed(p, name)) }

// plainHtml is the skeleton.
func plainHtml(p impl.Page) impl.Page {
	if len(p.Open) > 0 || plainTagNamed(p, "html") > 0 {
		return p
	}
	return plainPutTag(p, "html", nil, 0, true)
}

func plainTagNamed(p impl.Page, name string) int {
	for i, it := range p.Items {
		if it.Kind == 2 && it.Name == name {
			return i
		}
	}
	return -1
}

// plainHead puts the head into the html, be something else open further in; where there is no html, where any tag comes.
func plainHead(p impl.Page, attrs []impl.Attr) impl.Page {
	p = plainHtml(p)
	up, at := plainTagNamed(p, "html"), -1
	if up < 0 {
		up, at = plainPlace(p)
	}
	q := plainPut(p, up, at, impl.Item{Kind: 2, Name: "head", Attrs: attrs})
	if q == nil {
		return p
	}
	q.Head = len(p.Items)
	if len(p.Open) < 40 {
		q.Open = append(q.Open, q.Head)
	}
	return *q
}

func plainBody(p impl.Page) impl.Page {
	p = plainHtml(p)
	q := plainPutTag(plainPopTo(p, plainOpenNamed(p, "html")+1), "body", nil, 0, true)
	if len(q.Items) > len(p.Items) {
		q.Body = len(p.Items)
	}
	return q
}

// plainMoreAttrs is the page whose item i has those attributes, too, that it has not yet.
func plainMoreAttrs(p impl.Page, i int, attrs []impl.Attr) impl.Page {
	if i <= 0 {
		return p
	}
	p = copiedPage(p)
	has := map[string]bool{}
	for _, attr := range p.Items[i].Attrs {
		has[attr.Name] = true
	}
	for _, attr := range attrs {
		if !has[attr.Name] {
			p.Items[i].Attrs = append(p.Items[i].Attrs, attr)
		}
	}
	return p
}

func plainReopenOutside(p impl.Page) impl.Page {
	if plainInTable(p) {
		return p
	}
	return plainReopen(p)
}

func plainTakeText(p impl.Page, s string) impl.Page {
	switch {
	case s == "" || !plainRight(p):
		return p
	case plainInRaw(p):
		return plainPutText(p, s)
	case p.Body == 0 && onlyBlanks(s):
		return p
	case p.Body == 0:
		p = plainBody(p)
	}
	if plainInTable(p) && onlyBlanks(s) {
		kids := plainLast(p).Kids
		if len(kids) == 0 || p.Items[kids[len(kids)-1]].Kind != 3 {
			return plainPutIn(p, textItem(s, 0))
		}
		p = copiedPage(p)
		if len(p.Items) < 3000 {
			p.Items[kids[len(kids)-1]].Text += s
		}
		return p
	}
	if !plainInTable(p) && plainLast(p).Space == 0 {
		p = plainReopen(p)
	}
	return plainPutText(p, s)
}

func plainStart(p impl.Page, name string, attrs []impl.Attr, self bool) impl.Page {
	names := map[string]int{}
	for _, attr := range attrs {
		names[attr.Name]++
	}
	if name == "" || len(names) < len(attrs) || !plainRight(p) || plainInRaw(p) {
		return p
	}
	switch name {
	case "html":
		p = plainHtml(p)
		return plainMoreAttrs(p, plainTagNamed(p, "html"), attrs)
	case "head":
		if p.Head != 0 || p.Body != 0 {
			return p
		}
		return plainHead(p, attrs)
	case "body":
		if p.Body == 0 {
			p = plainBody(p)
		}
		return plainMoreAttrs(p, p.Body, attrs)
	}
	if plainIs("OfHead", name) && p.Body == 0 {
		p = plainHtml(p)
		if p.Head == 0 {
			p = plainHead(p, nil)
		}
		for k, i := range p.Open {
			if i == p.Head {
				p = plainPopTo(p, k+1)
				break
			}
		}
		return plainPutTag(p, name, attrs, 0, !plainIs("Void", name))
	}
	if p.Body == 0 {
		p = plainBody(p)
	}
	return plainStartInBody(p, name, attrs, self)
}

func plainStartInBody(p impl.Page, name string, attrs []impl.Attr, self bool) impl.Page {
	if space := plainLast(p).Space; space != 0 {
		if !plainIs("Block", name) && !plainIs("Part", name) {
			return plainPutTag(p, name, attrs, space, !self)
		}
		for k, i := range p.Open {
			if p.Items[i].Space != 0 {
				p = plainPopTo(p, k)
				break
			}
		}
	}
	switch {
	case name == "svg":
		return plainPutTag(plainReopenOutside(p), name, attrs, 1, !self)
	case name == "math":
		return plainPutTag(plainReopenOutside(p), name, attrs, 2, !self)
	case plainIs("Part", name):
		return plainStartPart(p, name, attrs)
	case plainIs("Block", name):
		if name == "li" && plainInScope(p, "li", true) {
			p = plainPopName(p, "li")
		}
		if plainInScope(p, "p", false) {
			p = plainPopName(p, "p")
		}
		if plainIs("Head", name) && plainIs("Head", plainLast(p).Name) {
			p = plainPopTo(p, len(p.Open)-1)
		}
		return plainPutTag(p, name, attrs, 0, !plainIs("Void", name))
	case plainIs("Format", name):
		if at := plainLastForm(p, name); name == "a" && at >= 0 {
			link := p.Forms[at]
			p = copiedPage(plainEnd(p, "a"))
			p.Forms = slices.DeleteFunc(p.Forms, func(i int) bool { return i == link })
			p.Open = slices.DeleteFunc(p.Open, func(i int) bool { return i == link })
		}
		p = plainReopenOutside(p)
		q := plainPutTag(p, name, attrs, 0, true)
		if len(q.Items) > len(p.Items) {
			q = plainPutForm(q, len(p.Items))
		}
		return q
	}
	return plainPutTag(plainReopenOutside(p), name, attrs, 0, !plainIs("Void", name) && !self)
}

// plainStartPart puts what is not there between the innermost of the wholes and the part, then the part.
func plainStartPart(p impl.Page, name string, attrs []impl.Attr) impl.Page {
	if plainOpenNamed(p, "table") < 0 {
		return p
	}
	row := []string{"table", "tbody", "tr", name}
	if name == "tbody" || name == "tr" {
		row = row[:slices.Index(row, name)+1]
	}
	wholes := row[:len(row)-1]
	at := len(p.Open) - 1
	for !slices.Contains(wholes, p.Items[p.Open[at]].Name) {
		at--
	}
	p = plainPopTo(p, at+1)
	opened := false
	for k := slices.Index(wholes, plainLast(p).Name) + 1; k < len(row); k++ {
		it := tagItem(row[k], 0)
		if k == len(row)-1 {
			it.Attrs = attrs
		}
		q := plainPutIn(p, it)
		opened = len(q.Items) > len(p.Items) && len(p.Open) < 40
		if opened {
			q = copiedPage(q)
			q.Open = append(q.Open, len(p.Items))
		}
		p = q
	}
	if opened && (name == "td" || name == "th") {
		return plainMark(p)
	}
	return p
}

// plainLastForm is the place in Forms of the last one of that name behind the last -1.
func plainLastForm(p impl.Page, name string) int {
	for at := len(p.Forms) - 1; at >= 0 && p.Forms[at] != -1; at-- {
		if p.Items[p.Forms[at]].Name == name {
			return at
		}
	}
	return -1
}

func plainEnd(p impl.Page, name string) impl.Page {
	if name == "" || !plainRight(p) {
		return p
	}
	if plainInRaw(p) {
		if plainLast(p).Name == name {
			return plainPopTo(p, len(p.Open)-1)
		}
		return p
	}
	if among(name, "html body head") || p.Body == 0 {
		return p
	}
	for k := len(p.Open) - 1; k >= 0 && p.Items[p.Open[k]].Space != 0; k-- {
		if p.Items[p.Open[k]].Name == name {
			return plainPopTo(p, k)
		}
	}
	table := plainOpenNamed(p, "table")
	switch {
	case plainIs("Void", name):
		return p
	case name == "table":
		return plainPopTo(p, table)
	case plainIs("Part", name):
		if k := plainOpenNamed(p, name); table >= 0 && k > table {
			return plainPopTo(p, k)
		}
		return p
	case name == "p":
		if !plainInScope(p, "p", false) {
			p = plainStart(p, "p", nil, false)
		}
		return plainPopName(p, "p")
	case plainIs("Head", name):
		for k := len(p.Open) - 1; k >= 0 && !plainIs("Wall", p.Items[p.Open[k]].Name); k-- {
			if plainIs("Head", p.Items[p.Open[k]].Name) {
				return plainPopTo(p, k)
			}
		}
		return p
	case plainIs("Block", name):
		if plainInScope(p, name, name == "li") {
			return plainPopName(p, name)
		}
		return p
	}
	if at := plainLastForm(p, name); plainIs("Format", name) && at >= 0 {
		return plainEndFormat(p, at)
	}
	for k := len(p.Open) - 1; k >= 0; k-- {
		open := p.Items[p.Open[k]].Name
		if open == name {
			return plainPopTo(p, k)
		}
		if plainIs("Block", open) || plainIs("Wall", open) {
			return p
		}
	}
	return p
}

func plainEndFormat(p impl.Page, at int) impl.Page {
	p = copiedPage(p)
	k := slices.Index(p.Open, p.Forms[at])
	p.Forms = append(p.Forms[:at], p.Forms[at+1:]...)
	if k < 0 {
		return p
	}
	for _, i := range p.Open[k+1:] {
		if plainIs("Block", p.Items[i].Name) || plainIs("Wall", p.Items[i].Name) {
			return p
		}
	}
	return plainPopTo(p, k)
}

func plainStep(p impl.Page, word impl.Token) impl.Page {
	switch word.Kind {
	case 1:
		return plainTakeText(p, word.Text)
	case 2:
		return plainStart(p, word.Name, word.Attrs, word.Self)
	case 3:
		return plainEnd(p, word.Name)
	case 4:
		return plainPutIn(p, noteItem(word.Text, 0))
	case 5:
		if plainRight(p) && !slices.ContainsFunc(p.Items[1:], func(it impl.Item) bool { return it.Kind != 4 }) {
			return plainPutIn(p, kindItem(word.Text, 0))
		}
	}
	return p
}

func plainMake(list []impl.Token) impl.Page {
	p := impl.Page{Items: itemsOf(pageItem())}
	for _, word := range list {
		p = plainStep(p, word)
	}
	return p
}
