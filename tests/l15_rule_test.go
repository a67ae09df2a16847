package tests

import (
	"fmt"
	"slices"
	"strings"

	"loop.example/g00325/impl"
)

func plainElSize(e impl.El) int {
	many := 1
	for _, kid := range e.Kids {
		many += plainElSize(kid)
	}
	return many
}

func plainElDeep(e impl.El) int {
	most := 0
	for _, kid := range e.Kids {
		most = max(most, plainElDeep(kid))
	}
	return 1 + most
}

// plainElOk is the document's rule, for trees that are not so deep that it runs out of room.
func plainElOk(e impl.El) bool { return plainElDeep(e) <= 60 && plainElRight(e) }

// plainElRight is plainElOk without how deep it is.
func plainElRight(e impl.El) bool {
	right := func(s string) bool { return plainTextOk(s, impl.Signs(s)) }
	switch e.Kind {
	case 1:
		for k, kid := range e.Kids {
			if !plainElRight(kid) || k > 0 && kid.Kind == 2 && e.Kids[k-1].Kind == 2 {
				return false
			}
		}
		for k, attr := range e.Attrs {
			if !plainNameOk(attr.Name, impl.Signs(attr.Name)) || attr.Name == "xmlns" || !right(attr.Value) {
				return false
			}
			for _, ahead := range e.Attrs[:k] {
				if ahead.Name == attr.Name {
					return false
				}
			}
		}
		return (e.Space == 0 || e.Space == 1 || e.Space == 2) && plainNameOk(e.Name, impl.Signs(e.Name)) && e.Text == ""
	case 2:
		return right(e.Text) && e.Text != "" && plainElBare(e)
	case 3:
		return plainNoteOk(e.Text, impl.Signs(e.Text)) && plainElBare(e)
	}
	return false
}

func plainElBare(e impl.El) bool {
	return e.Space == 0 && e.Name == "" && len(e.Attrs) == 0 && len(e.Kids) == 0
}

func plainDocOk(list []impl.El) bool {
	many, kinds := 0, map[int]int{}
	for _, e := range list {
		if !plainElOk(e) {
			return false
		}
		many += plainElSize(e)
		kinds[e.Kind]++
	}
	return kinds[1] == 1 && kinds[1]+kinds[3] == len(list) && many <= 3000
}

// plainElShown tells all that two elements that are alike have alike.
func plainElShown(e impl.El) string {
	var all strings.Builder
	fmt.Fprintf(&all, "%d %d %q %q %q %d(", e.Kind, e.Space, e.Name, e.Attrs, e.Text, len(e.Kids))
	for _, kid := range e.Kids {
		all.WriteString(plainElShown(kid))
	}
	return all.String() + ")"
}

func tagEl(name string, kids ...impl.El) impl.El {
	return impl.El{Kind: impl.ElTag, Name: name, Kids: kids}
}

func textEl(s string) impl.El { return impl.El{Kind: impl.ElText, Text: s} }

func noteEl(s string) impl.El { return impl.El{Kind: impl.ElNote, Text: s} }

func elsOf(list ...impl.El) []impl.El { return list }

func withAttrs(e impl.El, pairs ...string) impl.El {
	e.Attrs = attrsOf(pairs...)
	return e
}

func shownEls(list ...impl.El) string {
	all := ""
	for _, e := range list {
		if len(all) < 1000 {
			all += plainElShown(e)
		}
	}
	return shortText(all)
}

// copiedEl is an element of its own: what is written into one is not seen in the other.
func copiedEl(e impl.El) impl.El {
	e.Attrs = append([]impl.Attr(nil), e.Attrs...)
	e.Kids = copiedEls(e.Kids)
	return e
}

func copiedEls(list []impl.El) []impl.El {
	var whole []impl.El
	for _, e := range list {
		whole = append(whole, copiedEl(e))
	}
	return whole
}

// nestedEl is an element with that many tags about it, each of them with these ahead of what it is about, and these behind it.
func nestedEl(many int, inner impl.El, ahead, behind []impl.El) impl.El {
	for range many {
		inner = tagEl("p", slices.Concat(ahead, elsOf(inner), behind)...)
	}
	return inner
}

// timesEl is a list of that element so many times.
func timesEl(many int, e impl.El) []impl.El { return slices.Repeat(elsOf(e), many) }

// elToTry is a strict tree of every kind of element, with attributes, every Space, and each kind ahead of and behind each other one that may be.
func elToTry() impl.El {
	svg := withAttrs(tagEl("svg", tagEl("g", textEl("c\r"), noteEl("n-n"))), "x", "1")
	svg.Space = 1
	math := tagEl("math", noteEl(""), noteEl("m"), textEl("d"))
	math.Space = 2
	return withAttrs(tagEl("p", textEl("a"), noteEl(""), textEl("b"), svg, textEl(" "), math, tagEl("xmlns"), tagEl("q", tagEl("q", textEl("]]>")))), "b", "1\t\n\r", "a", "")
}

// changedEls are copies of the tree, each with that change at another one of its elements, where it tells that it did something.
func changedEls(e impl.El, change func(at *impl.El) bool) []impl.El {
	var places [][]int
	var look func(e impl.El, way []int)
	look = func(e impl.El, way []int) {
		places = append(places, way)
		for k, kid := range e.Kids {
			look(kid, append(slices.Clone(way), k))
		}
	}
	look(e, nil)
	var all []impl.El
	for _, way := range places {
		whole := copiedEl(e)
		at := &whole
		for _, k := range way {
			at = &at.Kids[k]
		}
		if change(at) {
			all = append(all, whole)
		}
	}
	return all
}
