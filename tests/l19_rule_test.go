package tests

import (
	"regexp"
	"slices"
	"strings"

	"loop.example/g00325/impl"
)

// What begins a tag and what ends one, written so that only their names and values are still to be asked for.
var (
	tagBegun    = regexp.MustCompile(`^<([^\s"=<>/&!]+)((?: [^\s"=<>/&!]+="[^"]*")*)(/?)>`)
	attrWritten = regexp.MustCompile(` ([^=]+)="([^"]*)"`)
	tagEnded    = regexp.MustCompile(`^</([^>]*)>`)
)

// plainReadEl is the document's rule: tags that are not ended yet stand in a list, the first of which stands for what is about all.
func plainReadEl(s string, at int, about int) (impl.El, int) {
	if !isPlace(s, at) || !tagBegun.MatchString(s[at:]) {
		return impl.El{}, -1
	}
	open := elsOf(spacedEl(about, ""))
	put := func(e impl.El) {
		last := &open[len(open)-1]
		last.Kids = append(last.Kids, e)
	}
	for len(open) > 1 || len(open[0].Kids) == 0 {
		last := open[len(open)-1]
		if ended := tagEnded.FindStringSubmatch(s[at:]); ended != nil {
			if len(open) == 1 || ended[1] != last.Name {
				return impl.El{}, -1
			}
			open = open[:len(open)-1]
			put(last)
			at += len(ended[0])
			continue
		}
		if begun := tagBegun.FindStringSubmatch(s[at:]); begun != nil {
			e, ok := plainBegunTag(begun, last.Space)
			if !ok {
				return impl.El{}, -1
			}
			if begun[3] == "" {
				open = append(open, e)
			} else {
				put(e)
			}
			at += len(begun[0])
			continue
		}
		if note, behind := plainXmlNote(s, at); behind >= 0 {
			put(noteEl(note))
			at = behind
			continue
		}
		text, behind := plainXmlText(s, at, "<")
		if behind <= at {
			return impl.El{}, -1
		}
		put(textEl(text))
		at = behind
	}
	if !plainElOk(open[0].Kids[0]) {
		return impl.El{}, -1
	}
	return open[0].Kids[0], at
}

// plainBegunTag is the tag that was found to be begun, without its kids; ElOk is still to be asked of it.
func plainBegunTag(begun []string, about int) (impl.El, bool) {
	e := spacedEl(about, begun[1])
	named := map[string]bool{}
	for _, found := range attrWritten.FindAllStringSubmatch(begun[2], -1) {
		value, end := plainXmlText(found[2], 0, "")
		if end < 0 || strings.ContainsAny(found[2], "\t\n") || named[found[1]] {
			return e, false
		}
		named[found[1]] = true
		if found[1] != "xmlns" {
			e.Attrs = append(e.Attrs, impl.Attr{Name: found[1], Value: value})
			continue
		}
		e.Space = slices.Index([]string{htmlSpace, svgSpace, mathSpace}, value)
		if e.Space == about || e.Space < 0 {
			return e, false
		}
	}
	return e, true
}

func plainRead(s string) ([]impl.El, bool) {
	const head = "<?xml version=\"1.0\"?>\n"
	if len(s) > 200000 || !strings.HasPrefix(s, head) {
		return nil, false
	}
	var list []impl.El
	for at := len(head); at < len(s); at++ {
		e, behind := plainReadEl(s, at, -1)
		if behind < 0 {
			e.Kind = impl.ElNote
			e.Text, behind = plainXmlNote(s, at)
		}
		if behind < 0 || behind == len(s) || s[behind] != '\n' {
			return nil, false
		}
		list = append(list, e)
		at = behind
	}
	if !plainDocOk(list) {
		return nil, false
	}
	return list, true
}
