package tests

import (
	"fmt"
	"slices"

	"loop.example/g00325/impl"
)

// plainAttrsOf looks at all that stand ahead, for each one anew.
func plainAttrsOf(list []impl.Attr) []impl.Attr {
	var kept []impl.Attr
	for k, attr := range list {
		name := plainNameOf(impl.Signs(attr.Name))
		again := slices.ContainsFunc(list[:k], func(ahead impl.Attr) bool { return plainNameOf(impl.Signs(ahead.Name)) == name })
		if name != "xmlns" && !again {
			kept = append(kept, impl.Attr{Name: name, Value: plainTextOf(impl.Signs(attr.Value))})
		}
	}
	return kept
}

// plainElOf is the document's rule, of an item of what is TreeOk.
func plainElOf(list []impl.Item, i int) impl.El {
	if i < 0 || i >= len(list) || list[i].Kind != 2 {
		return impl.El{}
	}
	return plainMade(list, i, 1)[0]
}

// plainMade is what an item becomes that is so deep: one element, or none.
func plainMade(list []impl.Item, i, deep int) []impl.El {
	it := list[i]
	switch {
	case deep > 60:
		return nil
	case it.Kind == 3:
		return elsOf(textEl(plainTextOf(impl.Signs(it.Text))))
	case it.Kind == 4:
		return elsOf(noteEl(plainNoteOf(impl.Signs(it.Text))))
	case it.Kind == 2:
		var kids []impl.El
		for _, k := range it.Kids {
			kids = append(kids, plainMade(list, k, deep+1)...)
		}
		return elsOf(impl.El{Kind: 1, Space: it.Space, Name: plainNameOf(impl.Signs(it.Name)), Attrs: plainAttrsOf(it.Attrs), Kids: plainJoined(kids)})
	}
	return nil
}

// plainJoined leaves away texts of nothing first, and then makes one text of two, as long as there are two beside each other.
func plainJoined(kids []impl.El) []impl.El {
	kids = slices.DeleteFunc(kids, func(e impl.El) bool { return e.Kind == 2 && e.Text == "" })
	for k := len(kids) - 2; k >= 0; k-- {
		if kids[k].Kind == 2 && kids[k+1].Kind == 2 {
			kids[k].Text += kids[k+1].Text
			kids = slices.Delete(kids, k+1, k+2)
		}
	}
	return kids
}

// plainDocOf is the document's rule, of what is TreeOk.
func plainDocOf(list []impl.Item) []impl.El {
	var doc []impl.El
	tags := 0
	for _, k := range list[0].Kids {
		if list[k].Kind == 2 {
			tags++
		}
		if list[k].Kind == 4 || list[k].Kind == 2 && tags == 1 {
			doc = append(doc, plainMade(list, k, 1)...)
		}
	}
	return doc
}

// sameEls holds two lists of elements against each other without the program.
func sameEls(a, b []impl.El) bool {
	return slices.EqualFunc(a, b, func(a, b impl.El) bool { return plainElShown(a) == plainElShown(b) })
}

// chanceTree is a tree of so many items of every kind, with any texts and names, strict or not. Each comes to one of the last few tags,
// so that some are deep, at any place among what is there already.
func chanceTree(c *chance, many int, few int) []impl.Item {
	list, tags := itemsOf(pageItem()), []int{0}
	piece := func(pieces []string, most int) string { return longPage(pieces, c.below(most+1), c.below(1000)) }
	for n := 1; n < many; n++ {
		up := tags[max(0, len(tags)-1-c.below(few))]
		it := impl.Item{Kind: impl.ItTag + c.below(4), Up: up}
		if it.Kind == impl.ItTag {
			it.Name, it.Space = "n"+piece(namePieces, 2), c.below(3)
			if c.below(2) == 0 {
				it.Name = it.Name[1:] + "n"
			}
			it.Attrs = unlikeAttrs(c, piece)
			tags = append(tags, n)
		} else {
			it.Text = piece(mildPieces, 3)
		}
		list[up].Kids = slices.Insert(list[up].Kids, c.below(len(list[up].Kids)+1), n)
		list = append(list, it)
	}
	return list
}

// unlikeAttrs are attributes whose names are not alike yet, though some become so.
func unlikeAttrs(c *chance, piece func(pieces []string, most int) string) []impl.Attr {
	var attrs []impl.Attr
	names := []string{"", "U", ":", "U00003A", "x:y", "xU00003Ay", "xmlns", "xmlns:a", "\xff", badBytes, "1", "U000031"}
	for range c.below(6) {
		name := names[c.below(len(names))]
		if c.below(4) == 0 {
			name = piece(namePieces, 2)
		}
		if !slices.ContainsFunc(attrs, func(a impl.Attr) bool { return a.Name == name }) {
			attrs = append(attrs, impl.Attr{Name: name, Value: piece(mildPieces, 2)})
		}
	}
	return attrs
}

func shownAttrs(list []impl.Attr) string { return shortText(fmt.Sprintf("%q", list)) }
