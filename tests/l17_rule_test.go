package tests

import (
	"encoding/xml"
	"errors"
	"io"
	"slices"
	"strings"

	"loop.example/g00325/impl"
)

const (
	htmlSpace = "http://www.w3.org/1999/xhtml"
	svgSpace  = "http://www.w3.org/2000/svg"
	mathSpace = "http://www.w3.org/1998/Math/MathML"
)

func plainSpaceName(n int) string {
	return map[int]string{0: htmlSpace, 1: svgSpace, 2: mathSpace}[n]
}

func plainEscape(s string, value bool) string {
	refs := map[byte]string{38: "&amp;", 60: "&lt;", 62: "&gt;", 13: "&#13;"}
	if value {
		refs[34], refs[9], refs[10] = "&quot;", "&#9;", "&#10;"
	}
	return plainEscaped(s, refs)
}

// plainElSaid is the document's rule.
func plainElSaid(e impl.El, about int) string {
	if !plainElOk(e) {
		return ""
	}
	return plainElWritten(e, about)
}

// plainElWritten is plainElSaid of what is right.
func plainElWritten(e impl.El, about int) string {
	switch e.Kind {
	case 2:
		return plainEscape(e.Text, false)
	case 3:
		return "<!--" + e.Text + "-->"
	}
	said := "<" + e.Name
	if e.Space != about {
		said += ` xmlns="` + plainSpaceName(e.Space) + `"`
	}
	for _, attr := range e.Attrs {
		said += " " + attr.Name + `="` + plainEscape(attr.Value, true) + `"`
	}
	if len(e.Kids) == 0 {
		return said + "/>"
	}
	inner := make([]string, len(e.Kids))
	for k, kid := range e.Kids {
		inner[k] = plainElWritten(kid, e.Space)
	}
	return said + ">" + strings.Join(inner, "") + "</" + e.Name + ">"
}

func plainWrite(list []impl.El) string {
	if !plainDocOk(list) {
		return ""
	}
	written := []string{"<?xml version=\"1.0\"?>"}
	for _, e := range list {
		written = append(written, plainElWritten(e, -1))
	}
	return strings.Join(written, "\n") + "\n"
}

// readable tells whether the library's reader has all names of the element, and takes them as they are.
func readable(e impl.El) bool {
	plain := func(name string) bool {
		return !strings.HasPrefix(name, "xml") && !strings.ContainsFunc(name, func(r rune) bool { return r > 127 })
	}
	other := func(e impl.El) bool { return !readable(e) }
	return plain(e.Name) && !slices.ContainsFunc(e.Attrs, func(attr impl.Attr) bool { return !plain(attr.Name) }) && !slices.ContainsFunc(e.Kids, other)
}

// libraryEls are the elements that the library's reader finds in a strict text, and its error.
func libraryEls(s string) ([]impl.El, error) {
	reader := xml.NewDecoder(strings.NewReader(s))
	open := elsOf(impl.El{})
	for {
		token, err := reader.Token()
		if errors.Is(err, io.EOF) {
			return open[0].Kids, nil
		}
		if err != nil {
			return nil, err
		}
		last := &open[len(open)-1]
		switch token := token.(type) {
		case xml.StartElement:
			open = append(open, libraryTag(token))
		case xml.EndElement:
			whole := *last
			open = open[:len(open)-1]
			open[len(open)-1].Kids = append(open[len(open)-1].Kids, whole)
		case xml.CharData:
			last.Kids = append(last.Kids, textEl(string(token)))
		case xml.Comment:
			last.Kids = append(last.Kids, noteEl(string(token)))
		}
	}
}

func libraryTag(start xml.StartElement) impl.El {
	e := tagEl(start.Name.Local)
	e.Space = slices.Index([]string{htmlSpace, svgSpace, mathSpace}, start.Name.Space)
	for _, attr := range start.Attr {
		if attr.Name.Local != "xmlns" {
			e.Attrs = append(e.Attrs, impl.Attr{Name: attr.Name.Space + attr.Name.Local, Value: attr.Value})
		}
	}
	return e
}

// spacedEl is a tag of that Space.
func spacedEl(space int, name string, kids ...impl.El) impl.El {
	e := tagEl(name, kids...)
	e.Space = space
	return e
}

// eachSpaced visits copies of the element with each Space at each of its tags.
func eachSpaced(e impl.El, visit func(e impl.El)) {
	whole := copiedEl(e)
	var tags []*impl.El
	var look func(e *impl.El)
	look = func(e *impl.El) {
		if e.Kind == impl.ElTag {
			tags = append(tags, e)
		}
		for k := range e.Kids {
			look(&e.Kids[k])
		}
	}
	look(&whole)
	var next func(k int)
	next = func(k int) {
		if k == len(tags) {
			visit(copiedEl(whole))
			return
		}
		for space := range 3 {
			tags[k].Space = space
			next(k + 1)
		}
	}
	next(0)
}

// escapePieces are what is escaped, what looks as if it was, and what stands as it is.
var escapePieces = []string{
	"&", "<", ">", "\r", "\"", "\t", "\n", "a", "'", "amp;", "&amp;", "#13;", "&#13", "lt", "]]>", "-->", "/>", " ", "é", badBytes,
}

// chanceSigns is a copy of a strict tree with more of what is escaped in its texts and values, and with what looks so in its notes.
func chanceSigns(c *chance, e impl.El) impl.El {
	e = copiedEl(e)
	more := longPage(escapePieces, c.below(5), c.below(1000))
	switch e.Kind {
	case impl.ElText:
		e.Text += more
	case impl.ElNote:
		e.Text = impl.NoteOf(e.Text + more)
	}
	for k := range e.Attrs {
		e.Attrs[k].Value += longPage(escapePieces, c.below(5), c.below(1000))
	}
	for k := range e.Kids {
		e.Kids[k] = chanceSigns(c, e.Kids[k])
	}
	return e
}
