package tests

import (
	"fmt"
	"slices"
	"strings"
	"testing"

	"loop.example/g00325/impl"
)

// checkEl holds all five functions against the document's rules, for that element and for a document of it alone.
func checkEl(t *testing.T, e impl.El) {
	t.Helper()
	if got, want := impl.ElSize(e), plainElSize(e); got != want {
		t.Fatalf("ElSize(%s) = %d, want %d", shownEls(e), got, want)
	}
	if got, want := impl.ElDeep(e), plainElDeep(e); got != want {
		t.Fatalf("ElDeep(%s) = %d, want %d", shownEls(e), got, want)
	}
	if got, want := impl.ElOk(e), plainElOk(e); got != want {
		t.Fatalf("ElOk(%s) = %v", shownEls(e), got)
	}
	if got, want := impl.DocOk(elsOf(e)), plainDocOk(elsOf(e)); got != want {
		t.Fatalf("DocOk(%s) = %v", shownEls(e), got)
	}
	if !impl.SameEl(e, e) || !impl.SameEl(e, copiedEl(e)) || !impl.SameEl(copiedEl(e), e) {
		t.Fatalf("%s is not like itself", shownEls(e))
	}
}

// checkElOk asks for what is wanted of the element by itself, and of tags about it, in the middle of others.
func checkElOk(t *testing.T, want bool, e impl.El) {
	t.Helper()
	if got := impl.ElOk(e); got != want {
		t.Errorf("ElOk(%s) = %v", shownEls(e), got)
	}
	checkEl(t, e)
	for _, about := range elsOf(
		tagEl("p", e), tagEl("q", tagEl("p", e)), tagEl("p", noteEl("n"), e, noteEl("n")), tagEl("p", tagEl("q"), e, tagEl("q", textEl("x"))), nestedEl(30, e, elsOf(noteEl("")), elsOf(tagEl("q"))),
	) {
		if got := impl.ElOk(about); got != want {
			t.Errorf("ElOk(%s) = %v", shownEls(about), got)
		}
		checkEl(t, about)
	}
}

func checkDocOk(t *testing.T, want bool, list ...impl.El) {
	t.Helper()
	if got := impl.DocOk(list); got != want {
		t.Errorf("DocOk(%s) = %v", shownEls(list...), got)
	}
	if rule := plainDocOk(list); rule != want {
		t.Errorf("the rule has %v for %s", rule, shownEls(list...))
	}
}

func checkSameEl(t *testing.T, want bool, a, b impl.El) {
	t.Helper()
	if impl.SameEl(a, b) != want || impl.SameEl(b, a) != want {
		t.Fatalf("SameEl(%s, %s) is %v, and turned round %v", shownEls(a), shownEls(b), impl.SameEl(a, b), impl.SameEl(b, a))
	}
	if rule := plainElShown(a) == plainElShown(b); rule != want {
		t.Fatalf("the rule has %v for %s and %s", rule, shownEls(a), shownEls(b))
	}
}

func TestNumbersOfElements(t *testing.T) {
	if impl.ElTag != 1 || impl.ElText != 2 || impl.ElNote != 3 || impl.MaxDeep != 60 || impl.MaxEls != 3000 {
		t.Error(impl.ElTag, impl.ElText, impl.ElNote, impl.MaxDeep, impl.MaxEls)
	}
}

func TestElementsByHand(t *testing.T) {
	x, note := textEl("x"), noteEl("")
	p := withAttrs(tagEl("p", x, note, x), "k", "\n")
	twice := withAttrs(tagEl("p", x, x), "k", "\n")
	for _, c := range []struct {
		e          impl.El
		size, deep int
		ok         bool
	}{
		{x, 1, 1, true}, {note, 1, 1, true}, {tagEl("p"), 1, 1, true}, {tagEl("p", x), 2, 2, true}, {p, 4, 2, true}, {tagEl("q", p), 5, 3, true}, {tagEl("q", p, p), 9, 3, true}, {tagEl("q", x, p, note), 7, 3, true},
		{elToTry(), 17, 4, true}, {twice, 3, 2, false}, {tagEl("q", twice), 4, 3, false}, {tagEl("q", tagEl("r", twice, note)), 6, 4, false},
		{impl.El{}, 1, 1, false}, {textEl(""), 1, 1, false}, {tagEl(""), 1, 1, false}, {tagEl("a:b"), 1, 1, false}, {impl.El{Kids: elsOf(impl.El{Kids: elsOf(impl.El{}, impl.El{})})}, 4, 3, false},
		// What may have no kids and has them counts with them.
		{impl.El{Kind: impl.ElText, Text: "x", Kids: elsOf(p)}, 5, 3, false}, {impl.El{Kind: impl.ElNote, Kids: elsOf(x)}, 2, 2, false}, {impl.El{Kind: 4, Kids: elsOf(x)}, 2, 2, false},
	} {
		if size, deep, ok := impl.ElSize(c.e), impl.ElDeep(c.e), impl.ElOk(c.e); size != c.size || deep != c.deep || ok != c.ok {
			t.Errorf("%s: ElSize %d, want %d; ElDeep %d, want %d; ElOk %v", shownEls(c.e), size, c.size, deep, c.deep, ok)
		}
		checkEl(t, c.e)
	}
	checkDocOk(t, true, p)
	checkDocOk(t, true, note, p)
	checkDocOk(t, true, p, note)
	checkDocOk(t, true, note, noteEl("n"), p, note, note)
	checkDocOk(t, false)
	checkDocOk(t, false, elsOf()...)
	checkDocOk(t, false, p, p)
	checkDocOk(t, false, p, note, p)
	checkDocOk(t, false, x, p)
	checkDocOk(t, false, p, x)
	checkDocOk(t, false, p, note, x)
	checkDocOk(t, false, x)
	checkDocOk(t, false, note)
	checkDocOk(t, false, note, note)
	checkDocOk(t, false, twice)
	checkDocOk(t, false, note, twice)
	checkDocOk(t, false, p, twice)
	checkDocOk(t, false, p, impl.El{})
	checkDocOk(t, false, impl.El{}, p)
	checkDocOk(t, false, p, noteEl("-"))
	checkDocOk(t, false, noteEl("--"), p)
	checkDocOk(t, false, noteEl("\r"), note, p)
	checkDocOk(t, false, p, impl.El{Kind: impl.ElNote, Kids: elsOf(note)})
	checkDocOk(t, false, p, impl.El{Kind: impl.ElTag})
}

func TestElOkOfKinds(t *testing.T) {
	for _, kind := range []int{0, 1, 2, 3, 4, 5, -1, -2, -3, 1 << 32, 1<<32 + 1, 1<<32 + 2, 1<<32 + 3, 1 << 40, -1 << 63, 1<<63 - 1} {
		checkElOk(t, kind == 1, impl.El{Kind: kind, Name: "p"})
		checkElOk(t, kind == 1, impl.El{Kind: kind, Name: "p", Space: 1, Attrs: attrsOf("a", "b"), Kids: elsOf(textEl("x"))})
		checkElOk(t, kind == 2 || kind == 3, impl.El{Kind: kind, Text: "x"})
		checkElOk(t, kind == 2, impl.El{Kind: kind, Text: "--"})
		checkElOk(t, kind == 3, impl.El{Kind: kind})
		checkElOk(t, false, impl.El{Kind: kind, Name: "p", Text: "x"})
		checkDocOk(t, kind == 3, impl.El{Kind: kind}, tagEl("p"))
		checkDocOk(t, kind == 3, tagEl("p"), impl.El{Kind: kind, Text: "x"})
		checkDocOk(t, kind == 1, impl.El{Kind: kind, Name: "p"})
	}
}

func TestElOkOfSpaces(t *testing.T) {
	for _, space := range []int{0, 1, 2, 3, 4, -1, -2, 1 << 32, 1<<32 + 1, 1<<32 + 2, 1 << 40, -1 << 63, 1<<63 - 1} {
		tag, text, note := tagEl("svg", textEl("x")), textEl("x"), noteEl("x")
		tag.Space, text.Space, note.Space = space, space, space
		checkElOk(t, space >= 0 && space <= 2, tag)
		checkElOk(t, space == 0, text)
		checkElOk(t, space == 0, note)
		checkDocOk(t, space == 0, note, tagEl("p"))
		checkDocOk(t, space >= 0 && space <= 2, tag)
	}
}

// namesToTry has names with whether they are strict.
func namesToTry() map[string]bool {
	return map[string]bool{
		"p": true, "P": true, "_": true, "a-b.1": true, "é": true, "xmlnsx": true, "xmln": true, "Xmlns": true, "XMLNS": true, badBytes: true, "·": false, "U": true, "a·": true,
		"": false, " ": false, "1": false, "-": false, "a:b": false, ":": false, "xmlns:a": false, "a b": false, "a ": false, "a\x00": false, "a=": false, "<": false, "a\xff": false, "\xff": false, "\xe2\x82": false, "a\xe2\x82b": false, "a\ufffe": false,
	}
}

func TestElOkOfNames(t *testing.T) {
	for name, ok := range namesToTry() {
		checkElOk(t, ok, tagEl(name))
		checkElOk(t, ok, withAttrs(tagEl(name, textEl("x")), "a", "b"))
		checkElOk(t, ok, withAttrs(tagEl("p"), name, "v"))
		checkElOk(t, ok, withAttrs(tagEl("p", noteEl("")), name, "", "other", ""))
		checkElOk(t, ok, withAttrs(tagEl("p"), "other", "", name, ""))
		checkElOk(t, ok, withAttrs(tagEl("p"), "other", "", name, "", "one", ""))
		checkElOk(t, name == "", impl.El{Kind: impl.ElText, Text: "x", Name: name})
		checkElOk(t, name == "", impl.El{Kind: impl.ElNote, Text: "x", Name: name})
	}
	// A tag may have this name; an attribute may not.
	checkElOk(t, true, tagEl("xmlns"))
	checkElOk(t, true, withAttrs(tagEl("xmlns"), "a", "xmlns"))
	checkElOk(t, false, withAttrs(tagEl("p"), "xmlns", ""))
	checkElOk(t, false, withAttrs(tagEl("p"), "xmlns", "http://www.w3.org/1999/xhtml"))
	checkElOk(t, false, withAttrs(tagEl("p"), "a", "", "xmlns", "x"))
	checkElOk(t, false, withAttrs(tagEl("p"), "a", "", "xmlns", "x", "b", ""))
	checkElOk(t, false, withAttrs(tagEl("p"), "xmlns", "x", "a", ""))
}

func TestElOkOfAttributesThatStandTwice(t *testing.T) {
	for _, c := range []struct {
		pairs []string
		want  bool
	}{
		{nil, true}, {[]string{"a", ""}, true}, {[]string{"a", "1", "b", "1"}, true}, {[]string{"b", "", "a", "", "c", ""}, true}, {[]string{"a", "1", "A", "1"}, true}, {[]string{"a", "", "aa", "", "aaa", ""}, true}, {[]string{"p", "p"}, true},
		{[]string{"a", "1", "a", "1"}, false}, {[]string{"a", "1", "a", "2"}, false}, {[]string{"a", "", "b", "", "a", ""}, false}, {[]string{"b", "", "a", "", "a", ""}, false}, {[]string{"a", "", "a", "", "b", ""}, false},
		{[]string{"b", "", "a", "", "c", "", "d", "", "b", "1"}, false}, {[]string{"a", "", "a", "", "a", ""}, false}, {[]string{"", "", "", ""}, false}, {[]string{"", ""}, false}, {[]string{"é", "", "e", "", "é", ""}, false},
	} {
		checkElOk(t, c.want, withAttrs(tagEl("p"), c.pairs...))
		checkElOk(t, c.want, withAttrs(tagEl("p", textEl("x"), tagEl("p")), c.pairs...))
	}
	// One name at two tags stands once in each.
	checkElOk(t, true, withAttrs(tagEl("p", withAttrs(tagEl("p"), "a", "1"), withAttrs(tagEl("p"), "a", "1")), "a", "1"))
	var many []string
	for k := range 2000 {
		many = append(many, fmt.Sprint("a", k), "v")
	}
	checkElOk(t, true, withAttrs(tagEl("p"), many...))
	checkElOk(t, false, withAttrs(tagEl("p"), append(many, "a0", "v")...))
	checkElOk(t, false, withAttrs(tagEl("p"), append(many, "a1999", "v")...))
}

// strictTextsToTry has texts with whether they are TextOk, and NoteOk.
func strictTextsToTry() map[string][2]bool {
	return map[string][2]bool{
		"": {true, true}, "x": {true, true}, " ": {true, true}, "\n": {true, true}, "\t": {true, true}, "<&>\"'": {true, true}, "]]>": {true, true}, "é€😀": {true, true}, badBytes: {true, true}, "a-b": {true, true}, "->": {true, true}, "\x7f": {true, true},
		"\r": {true, false}, "a\rb": {true, false}, "-": {true, false}, "a-": {true, false}, "--": {true, false}, "a--b": {true, false}, "-->": {true, false}, "a\r": {true, false},
		"\x00": {}, "a\x0c": {}, "\x0b": {}, "\x1fa": {}, "\ufffe": {}, "a\uffff": {}, "\xff": {}, "a\xff": {}, "\xe2\x82": {}, "\xed\xa0\x80": {}, "--\xff": {}, "\r\x01": {},
	}
}

func TestElOkOfTexts(t *testing.T) {
	for s, ok := range strictTextsToTry() {
		checkElOk(t, ok[0] && s != "", textEl(s))
		checkElOk(t, ok[1], noteEl(s))
		checkElOk(t, ok[0], withAttrs(tagEl("p"), "a", s))
		checkElOk(t, ok[0], withAttrs(tagEl("p", textEl("x")), "a", "", "b", s))
		checkElOk(t, ok[0], withAttrs(tagEl("p"), "a", s, "b", "", "c", s))
		checkElOk(t, s == "", impl.El{Kind: impl.ElTag, Name: "p", Text: s})
		checkElOk(t, s == "", impl.El{Kind: impl.ElTag, Name: "p", Text: s, Kids: elsOf(textEl("x")), Attrs: attrsOf("a", "b"), Space: 2})
		checkDocOk(t, ok[1], tagEl("p"), noteEl(s))
		checkDocOk(t, ok[1], noteEl(s), noteEl(""), tagEl("p"))
	}
}

func TestElOkOfWhatIsNotNamed(t *testing.T) {
	for _, e := range elsOf(textEl("x"), noteEl("x"), noteEl("")) {
		checkElOk(t, true, e)
		for _, change := range []func(e *impl.El){
			func(e *impl.El) { e.Space = 1 },
			func(e *impl.El) { e.Space = -1 },
			func(e *impl.El) { e.Name = "p" },
			func(e *impl.El) { e.Name = " " },
			func(e *impl.El) { e.Attrs = attrsOf("a", "b") },
			func(e *impl.El) { e.Attrs = attrsOf("", "") },
			func(e *impl.El) { e.Kids = elsOf(textEl("y")) },
			func(e *impl.El) { e.Kids = elsOf(noteEl("")) },
			func(e *impl.El) { e.Kids = elsOf(tagEl("p")) },
			func(e *impl.El) { e.Kids = elsOf(impl.El{}) },
			func(e *impl.El) { e.Space, e.Name, e.Attrs, e.Kids = 1, "p", attrsOf("a", "b"), elsOf(textEl("y")) },
		} {
			wrong := e
			change(&wrong)
			checkElOk(t, false, wrong)
			checkDocOk(t, false, tagEl("p"), wrong)
		}
		empty := e
		empty.Attrs, empty.Kids = []impl.Attr{}, []impl.El{}
		checkElOk(t, true, empty)
	}
	checkElOk(t, true, impl.El{Kind: impl.ElTag, Name: "p", Attrs: []impl.Attr{}, Kids: []impl.El{}})
}

func TestTextsBesideEachOther(t *testing.T) {
	x, y, note, tag := textEl("x"), textEl("y"), noteEl(""), tagEl("b", textEl("z"))
	for _, c := range []struct {
		kids []impl.El
		want bool
	}{
		{elsOf(x), true}, {elsOf(x, note), true}, {elsOf(note, x), true}, {elsOf(tag, x, tag), true}, {elsOf(x, note, x), true}, {elsOf(x, tag, y), true}, {elsOf(x, tag, note, y, note, x), true}, {elsOf(note, note, tag, tag), true}, {elsOf(x, tagEl("b"), x), true},
		// First, in the middle, last, more than two, alike or not.
		{elsOf(x, x), false}, {elsOf(x, y), false}, {elsOf(x, y, note), false}, {elsOf(note, x, y, tag), false}, {elsOf(tag, x, y), false}, {elsOf(x, y, x), false}, {elsOf(x, note, y, x), false}, {elsOf(x, tag, y, x, tag, y), false}, {elsOf(note, note, x, x), false},
		{elsOf(x, note, x, tag, x, note, x, x), false}, {elsOf(x, x, note, x, tag, x), false}, {elsOf(textEl(" "), textEl("\n")), false},
		// Where there is one with nothing in it, it is wrong by itself.
		{elsOf(x, textEl(""), y), false}, {elsOf(textEl("")), false},
	} {
		checkElOk(t, c.want, tagEl("p", c.kids...))
		checkElOk(t, c.want, tagEl("p", textEl("x"), tagEl("q", c.kids...), textEl("y")))
		for _, many := range []int{1, 2, 3, 10, 50, 56, 57} {
			for _, about := range elsOf(nestedEl(many, tagEl("p", c.kids...), nil, nil), nestedEl(many, tagEl("p", c.kids...), elsOf(x), elsOf(x))) {
				if got := impl.ElOk(about); got != c.want {
					t.Errorf("ElOk of %s, with %d tags about it, is %v", shownEls(c.kids...), many, got)
				}
				checkEl(t, about)
				checkDocOk(t, c.want, note, about)
			}
		}
	}
	// The last text of a tag and the first one behind it are not beside each other, nor are those of two tags.
	checkElOk(t, true, tagEl("p", x, tagEl("b", x), x))
	checkElOk(t, true, tagEl("p", tagEl("b", x), tagEl("b", x)))
	checkElOk(t, true, tagEl("p", tagEl("b", tagEl("b", x)), x, tagEl("b", tagEl("b", x))))
}

func TestHowDeepElementsMayBe(t *testing.T) {
	x, note, tag := textEl("x"), noteEl("n"), tagEl("q")
	for deep, want := range map[int]bool{1: true, 2: true, 30: true, 58: true, 59: true, 60: true, 61: false, 62: false, 100: false, 121: false} {
		for _, inner := range elsOf(x, note, tag) {
			for what, e := range map[string]impl.El{
				"alone":            nestedEl(deep-1, inner, nil, nil),
				"the first kid":    nestedEl(deep-1, inner, nil, elsOf(note)),
				"the last kid":     nestedEl(deep-1, inner, elsOf(note, tag), nil),
				"a kid in between": nestedEl(deep-1, inner, elsOf(tag), elsOf(note)),
			} {
				got, size := impl.ElDeep(e), impl.ElSize(e)
				if got != deep || size != plainElSize(e) || impl.ElOk(e) != want {
					t.Errorf("%s: ElDeep %d of %d, ElSize %d, ElOk %v", what, got, deep, size, impl.ElOk(e))
				}
				checkEl(t, e)
				if inner.Kind == impl.ElTag || deep > 1 {
					checkDocOk(t, want, note, e, note)
				}
			}
		}
	}
	// Beside one that is not deep, ahead of it and behind it.
	for _, flat := range elsOf(note, tag, tagEl("q", x)) {
		check := func(want bool, e impl.El) {
			t.Helper()
			if got := impl.ElOk(e); got != want {
				t.Errorf("ElOk of %d within each other is %v", impl.ElDeep(e), got)
			}
			checkEl(t, e)
		}
		check(true, tagEl("p", flat, nestedEl(58, x, nil, nil)))
		check(true, tagEl("p", nestedEl(58, x, nil, nil), flat))
		check(false, tagEl("p", flat, nestedEl(59, x, nil, nil)))
		check(false, tagEl("p", nestedEl(59, x, nil, nil), flat))
		check(false, tagEl("p", flat, nestedEl(59, x, nil, nil), flat))
	}
	// Two that are deep beside each other are no deeper.
	if both := tagEl("p", nestedEl(58, x, nil, nil), nestedEl(58, x, nil, nil)); impl.ElDeep(both) != 60 || !impl.ElOk(both) {
		t.Error("two deep ones:", impl.ElDeep(both), impl.ElOk(both))
	}
}

func TestHowManyElementsMayBe(t *testing.T) {
	note, tag := noteEl("n"), tagEl("b", textEl("x"), noteEl(""))
	for many, want := range map[int]bool{1: true, 2: true, 1500: true, 2998: true, 2999: true, 3000: true, 3001: false, 3002: false, 6000: false, 10000: false} {
		// In one tag, side by side; in one tag and its kids; over notes ahead and behind; over many tags within each other.
		flat := tagEl("p", timesEl(many-1, note)...)
		if size := impl.ElSize(flat); size != many || !impl.ElOk(flat) {
			t.Errorf("of %d: ElSize %d, ElOk %v", many, size, impl.ElOk(flat))
		}
		checkDocOk(t, want, flat)
		checkDocOk(t, want, append(timesEl(many-1, note), tagEl("p"))...)
		checkDocOk(t, want, append(elsOf(tagEl("p")), timesEl(many-1, note)...)...)
		half := tagEl("p", timesEl((many-1)/2, note)...)
		checkDocOk(t, want, append(timesEl(many-1-(many-1)/2, note), half)...)
		checkDocOk(t, want, append(elsOf(half), timesEl(many-1-(many-1)/2, note)...)...)
		if many > 100 {
			kids := append(timesEl((many-101)/3, tag), timesEl((many-101)%3, note)...)
			far := nestedEl(50, tagEl("q", kids...), elsOf(note), nil)
			if size := impl.ElSize(far); size != many || !impl.ElOk(far) {
				t.Errorf("of %d: ElSize %d, ElOk %v", many, size, impl.ElOk(far))
			}
			checkDocOk(t, want, far)
			checkDocOk(t, many+1 <= 3000, far, note)
			checkDocOk(t, many+1 <= 3000, note, far)
			checkDocOk(t, many+2 <= 3000, note, far, note)
		}
	}
	// Many notes and no tag, or two tags, are wrong however many there are.
	checkDocOk(t, false, timesEl(3000, note)...)
	checkDocOk(t, false, append(timesEl(2998, note), tagEl("p"), tagEl("p"))...)
}

// elChanges are changes of one element, each with whether a strict tree with it is strict still (0), no more (1), or that hangs on where it is (2).
func elChanges() []struct {
	what   string
	strict int
	change func(at *impl.El) bool
} {
	const still, no, hangs = 0, 1, 2
	isTag := func(at *impl.El) bool { return at.Kind == impl.ElTag }
	return []struct {
		what   string
		strict int
		change func(at *impl.El) bool
	}{
		{"Kind 0", no, func(at *impl.El) bool { at.Kind = 0; return true }},
		{"Kind 4", no, func(at *impl.El) bool { at.Kind = 4; return true }},
		{"Kind below 0", no, func(at *impl.El) bool { at.Kind = -at.Kind; return true }},
		{"another Kind", hangs, func(at *impl.El) bool { at.Kind = at.Kind%3 + 1; return true }},
		{"one more Space", hangs, func(at *impl.El) bool { at.Space++; return true }},
		{"Space 3", no, func(at *impl.El) bool { at.Space = 3; return true }},
		{"Space below 0", no, func(at *impl.El) bool { at.Space = -1; return true }},
		{"a longer Name", hangs, func(at *impl.El) bool { at.Name += "x"; return true }},
		{"another Name", still, func(at *impl.El) bool { at.Name = "other"; return isTag(at) }},
		{"a large Name", still, func(at *impl.El) bool { at.Name = strings.ToUpper(at.Name); return isTag(at) }},
		{"no Name", no, func(at *impl.El) bool { at.Name = ""; return isTag(at) }},
		{"a Name that is none", no, func(at *impl.El) bool { at.Name += ":"; return isTag(at) }},
		{"a Name of broken signs", no, func(at *impl.El) bool { at.Name += "\xff"; return isTag(at) }},
		{"a longer Text", hangs, func(at *impl.El) bool { at.Text += "x"; return true }},
		{"another Text", hangs, func(at *impl.El) bool { at.Text = "other"; return true }},
		{"no Text", no, func(at *impl.El) bool { at.Text = ""; return at.Kind == impl.ElText }},
		{"a Text that is none", no, func(at *impl.El) bool { at.Text += "\x01"; return true }},
		{"a Text of broken signs", no, func(at *impl.El) bool { at.Text += "\xff"; return true }},
		{"one more attribute", hangs, func(at *impl.El) bool { at.Attrs = append(at.Attrs, attrsOf("more", "")...); return true }},
		{"one more attribute first", hangs, func(at *impl.El) bool { at.Attrs = append(attrsOf("more", ""), at.Attrs...); return true }},
		{"an attribute xmlns", no, func(at *impl.El) bool { at.Attrs = append(at.Attrs, attrsOf("xmlns", "")...); return true }},
		{"an attribute without a name", no, func(at *impl.El) bool { at.Attrs = append(at.Attrs, impl.Attr{}); return true }},
		{"a value that is none", no, func(at *impl.El) bool { at.Attrs = append(at.Attrs, attrsOf("more", "\x01")...); return true }},
		{"an attribute twice", no, func(at *impl.El) bool { at.Attrs = append(at.Attrs, at.Attrs...); return len(at.Attrs) > 0 }},
		{"one attribute fewer", still, func(at *impl.El) bool {
			if len(at.Attrs) == 0 {
				return false
			}
			at.Attrs = at.Attrs[1:]
			return true
		}},
		{"another attribute's name", still, func(at *impl.El) bool {
			if len(at.Attrs) == 0 {
				return false
			}
			at.Attrs[len(at.Attrs)-1].Name = "other"
			return true
		}},
		{"another value", still, func(at *impl.El) bool {
			if len(at.Attrs) == 0 {
				return false
			}
			at.Attrs[len(at.Attrs)-1].Value += "x"
			return true
		}},
		{"attributes turned round", still, func(at *impl.El) bool { slices.Reverse(at.Attrs); return len(at.Attrs) > 1 }},
		{"one more note", hangs, func(at *impl.El) bool { at.Kids = append(at.Kids, noteEl("")); return true }},
		{"one more note first", hangs, func(at *impl.El) bool { at.Kids = append(elsOf(noteEl("")), at.Kids...); return true }},
		{"one more tag", hangs, func(at *impl.El) bool { at.Kids = append(at.Kids, tagEl("more")); return true }},
		{"one more text", hangs, func(at *impl.El) bool { at.Kids = append(at.Kids, textEl("x")); return true }},
		{"two more texts", no, func(at *impl.El) bool { at.Kids = append(at.Kids, textEl("x"), textEl("x")); return true }},
		{"one more of nothing", no, func(at *impl.El) bool { at.Kids = append(at.Kids, impl.El{}); return true }},
		{"one kid fewer", hangs, func(at *impl.El) bool {
			if len(at.Kids) == 0 {
				return false
			}
			at.Kids = at.Kids[:len(at.Kids)-1]
			return true
		}},
		{"no kids", still, func(at *impl.El) bool { had := len(at.Kids) > 0; at.Kids = nil; return had }},
		{"kids turned round", still, func(at *impl.El) bool {
			was := plainElShown(*at)
			slices.Reverse(at.Kids)
			return plainElShown(*at) != was
		}},
		{"two kids for each other", hangs, func(at *impl.El) bool {
			was := plainElShown(*at)
			if many := len(at.Kids); many > 1 {
				at.Kids[many-2], at.Kids[many-1] = at.Kids[many-1], at.Kids[many-2]
			}
			return plainElShown(*at) != was
		}},
		{"the kids further in", hangs, func(at *impl.El) bool {
			had := len(at.Kids) > 0
			at.Kids = elsOf(tagEl("in", at.Kids...))
			return had
		}},
		{"the last kid in the one ahead of it", hangs, func(at *impl.El) bool {
			many := len(at.Kids)
			if many < 2 {
				return false
			}
			ahead := &at.Kids[many-2]
			ahead.Kids = append(ahead.Kids, at.Kids[many-1])
			at.Kids = at.Kids[:many-1]
			return true
		}},
	}
}

// TestEveryChangeAtEveryPlace: a strict tree with one change is no more like it, and, if the change is a fault, no more strict, wherever it is.
func TestEveryChangeAtEveryPlace(t *testing.T) {
	for _, e := range elsOf(
		elToTry(), textEl("x"), noteEl(""), tagEl("p"), withAttrs(tagEl("p", textEl("x"), noteEl("n")), "a", "1", "b", "2", "c", "3"), tagEl("p", elToTry(), textEl("x"), elToTry()),
		nestedEl(20, elToTry(), elsOf(noteEl("")), elsOf(textEl("x"))), nestedEl(55, elToTry(), nil, nil),
	) {
		checkEl(t, e)
		if !impl.ElOk(e) {
			t.Fatalf("ElOk(%s) = false", shownEls(e))
		}
		for _, c := range elChanges() {
			for _, other := range changedEls(e, c.change) {
				if ok := impl.ElOk(other); ok && c.strict == 1 || !ok && c.strict == 0 {
					t.Errorf("%s: ElOk(%s) = %v", c.what, shownEls(other), ok)
				}
				checkEl(t, other)
				checkSameEl(t, false, e, other)
			}
		}
	}
}

func TestSameElByHand(t *testing.T) {
	x, y, note := textEl("x"), textEl("y"), noteEl("x")
	p := withAttrs(tagEl("p", x, note), "a", "1", "b", "2")
	checkSameEl(t, true, x, x)
	checkSameEl(t, true, x, textEl("x"))
	checkSameEl(t, true, p, withAttrs(tagEl("p", x, note), "a", "1", "b", "2"))
	checkSameEl(t, false, x, y)
	checkSameEl(t, false, x, note)
	checkSameEl(t, false, x, p)
	checkSameEl(t, false, p, tagEl("p", x, note))
	checkSameEl(t, false, p, withAttrs(tagEl("p", note, x), "a", "1", "b", "2"))
	checkSameEl(t, false, p, withAttrs(tagEl("p", x, note, x), "a", "1", "b", "2"))
	checkSameEl(t, false, p, withAttrs(tagEl("p", x), "a", "1", "b", "2"))
	checkSameEl(t, false, p, withAttrs(tagEl("p", x, note), "a", "2", "b", "1"))
	checkSameEl(t, false, p, withAttrs(tagEl("p", x, note), "a", "1", "c", "2"))
	checkSameEl(t, false, p, withAttrs(tagEl("p", x, note), "a", "1"))
	checkSameEl(t, false, p, withAttrs(tagEl("q", x, note), "a", "1", "b", "2"))
	// As many elements, in one order, but others' kids.
	checkSameEl(t, false, tagEl("p", tagEl("p", tagEl("p"))), tagEl("p", tagEl("p"), tagEl("p")))
	checkSameEl(t, false, tagEl("p", tagEl("p", tagEl("p"), tagEl("p"))), tagEl("p", tagEl("p", tagEl("p")), tagEl("p")))
	checkSameEl(t, false, tagEl("p", tagEl("p", tagEl("p")), tagEl("p")), tagEl("p", tagEl("p"), tagEl("p", tagEl("p"))))
	// One is the beginning of the other.
	checkSameEl(t, false, tagEl("p"), tagEl("p", x))
	checkSameEl(t, false, tagEl("p", x), tagEl("p", x, note))
	// Texts that are put together alike.
	checkSameEl(t, false, tagEl("p", textEl("xy")), tagEl("p", x, y))
	checkSameEl(t, false, withAttrs(tagEl("p"), "a", "bc"), withAttrs(tagEl("p"), "ab", "c"))
	checkSameEl(t, false, impl.El{Kind: impl.ElTag, Name: "x"}, impl.El{Kind: impl.ElTag, Text: "x"})
}

func TestNilListsAreLikeEmptyOnes(t *testing.T) {
	emptied := func(at *impl.El) bool {
		had := at.Attrs == nil && at.Kids == nil
		if at.Attrs == nil {
			at.Attrs = []impl.Attr{}
		}
		if at.Kids == nil {
			at.Kids = []impl.El{}
		}
		return had
	}
	for _, e := range elsOf(textEl("x"), noteEl(""), tagEl("p"), impl.El{}, elToTry(), nestedEl(30, elToTry(), nil, nil)) {
		others := changedEls(e, emptied)
		if len(others) == 0 {
			t.Fatalf("%s has no nil lists", shownEls(e))
		}
		for _, other := range others {
			checkSameEl(t, true, e, other)
			if impl.ElOk(e) != impl.ElOk(other) || impl.ElSize(e) != impl.ElSize(other) || impl.ElDeep(e) != impl.ElDeep(other) || impl.DocOk(elsOf(e)) != impl.DocOk(elsOf(other)) {
				t.Errorf("%s is told otherwise with an empty list", shownEls(e))
			}
		}
	}
	// With room behind it, a list is empty still.
	roomy := impl.El{Kind: impl.ElNote, Attrs: attrsOf("a", "b")[:0], Kids: elsOf(textEl("x"))[:0]}
	checkSameEl(t, true, roomy, noteEl(""))
	checkElOk(t, true, roomy)
}

// wrongEls are elements that are not ElOk, each for another reason.
func wrongEls() []impl.El {
	return elsOf(
		impl.El{}, impl.El{Kind: 4}, impl.El{Kind: -1, Name: "p"}, impl.El{Kind: 4, Text: "x"}, impl.El{Name: "p"}, impl.El{Text: "x"}, impl.El{Space: 1}, impl.El{Kids: elsOf(textEl("x"))}, impl.El{Attrs: attrsOf("a", "b")},
		textEl(""), textEl("\xff"), textEl("\x01"), textEl("\x0c"), textEl("\xe2\x82"), noteEl("-"), noteEl("--"), noteEl("\r"), noteEl("\xff"), tagEl(""), tagEl("\xff"), tagEl("1"), tagEl("a\xe2\x82"), tagEl("a:b"),
		impl.El{Kind: impl.ElTag, Name: "p", Text: "x"}, impl.El{Kind: impl.ElTag, Name: "p", Space: 3}, impl.El{Kind: impl.ElTag, Name: "p", Space: -1},
		impl.El{Kind: impl.ElText, Text: "x", Name: "p"}, impl.El{Kind: impl.ElText, Text: "x", Space: 1}, impl.El{Kind: impl.ElNote, Attrs: attrsOf("a", "")}, impl.El{Kind: impl.ElNote, Kids: elsOf(noteEl(""))},
		withAttrs(tagEl("p"), "xmlns", ""), withAttrs(tagEl("p"), "a", "1", "a", "2"), withAttrs(tagEl("p"), "a", "\xff"), withAttrs(tagEl("p"), "\xff", "a"), withAttrs(tagEl("p"), "", ""),
		tagEl("p", textEl("x"), textEl("y")), tagEl("p", textEl("")), tagEl("p", impl.El{}), tagEl("p", tagEl("p", noteEl("-"))), nestedEl(60, textEl("x"), nil, nil), nestedEl(100, textEl("x"), elsOf(impl.El{}), elsOf(textEl(""))),
	)
}

func TestWrongElements(t *testing.T) {
	wrong := wrongEls()
	for i, a := range wrong {
		if impl.ElOk(a) || impl.DocOk(elsOf(a)) || impl.DocOk(elsOf(tagEl("p"), a)) || impl.DocOk(elsOf(noteEl(""), tagEl("p", a))) {
			t.Errorf("%s: ElOk is %v", shownEls(a), impl.ElOk(a))
		}
		checkEl(t, a)
		checkEl(t, tagEl("p", a))
		checkEl(t, tagEl("p", a, a))
		checkEl(t, impl.El{Kind: impl.ElText, Text: "x", Kids: elsOf(a)})
		for k, b := range wrong {
			checkSameEl(t, i == k, a, b)
			checkSameEl(t, i == k, tagEl("p", noteEl(""), a), tagEl("p", noteEl(""), b))
			checkDocOk(t, false, a, b)
		}
		checkSameEl(t, false, a, elToTry())
	}
}

// eachSmallEl visits every tag with up to that many elements in it, each of those kinds: an element a time, at the end of a tag that is open.
func eachSmallEl(most int, leaves []impl.El, visit func(e impl.El)) {
	// An open tag is one to which kids still come; the last one is innermost.
	var grow func(open []impl.El, left int)
	put := func(open []impl.El, e impl.El) []impl.El {
		more := slices.Clone(open)
		last := &more[len(more)-1]
		last.Kids = append(slices.Clone(last.Kids), e)
		return more
	}
	grow = func(open []impl.El, left int) {
		if len(open) == 1 {
			visit(open[0])
		} else {
			last := len(open) - 1
			grow(put(open[:last], open[last]), left)
		}
		if left == 0 {
			return
		}
		for _, leaf := range leaves {
			grow(put(open, leaf), left-1)
		}
		grow(append(slices.Clone(open), tagEl("p")), left-1)
	}
	grow(elsOf(tagEl("p")), most)
}

func TestAllSmallTreesOfElements(t *testing.T) {
	ok, wrong := 0, 0
	eachSmallEl(6, elsOf(textEl("x"), noteEl("")), func(e impl.El) {
		checkEl(t, e)
		if impl.ElOk(e) {
			ok++
		} else {
			wrong++
		}
	})
	if ok < 1000 || wrong < 1000 {
		t.Errorf("%d are strict, %d are not", ok, wrong)
	}
	var all []impl.El
	eachSmallEl(5, elsOf(textEl("x"), noteEl("x")), func(e impl.El) { all = append(all, e) })
	shown := map[string]int{}
	for _, e := range all {
		shown[plainElShown(e)]++
	}
	if len(shown) != len(all) || len(all) < 500 {
		t.Fatalf("%d trees, %d of them unlike", len(all), len(shown))
	}
	for i, a := range all {
		for k, b := range all {
			if got := impl.SameEl(a, b); got != (i == k) {
				t.Fatalf("SameEl(%s, %s) = %v", shownEls(a), shownEls(b), got)
			}
		}
	}
}

func TestAllShortDocuments(t *testing.T) {
	pieces := elsOf(noteEl(""), noteEl("-"), tagEl("p", textEl("x")), tagEl("p", textEl("x"), textEl("x")), textEl("x"), textEl(""), impl.El{}, impl.El{Kind: impl.ElNote, Name: "p"}, nestedEl(59, noteEl(""), nil, nil), nestedEl(60, noteEl(""), nil, nil))
	right := 0
	var grow func(list []impl.El)
	grow = func(list []impl.El) {
		want := plainDocOk(list)
		checkDocOk(t, want, list...)
		if want {
			right++
		}
		if len(list) == 4 {
			return
		}
		for _, e := range pieces {
			grow(append(slices.Clone(list), e))
		}
	}
	grow(nil)
	// Of one to four, one is one of two right tags, the others are the right note.
	if right != 2*(1+2+3+4) {
		t.Error("documents that are right:", right)
	}
}

// chance tells numbers one behind the other, by a rule of its own.
type chance uint64

func (c *chance) below(many int) int {
	*c = *c*6364136223846793005 + 1442695040888963407
	return int(uint64(*c) >> 33 % uint64(many))
}

// chanceEl is a strict tag of any shape, about so many elements in it, no deeper than that.
func chanceEl(c *chance, many, deep int) impl.El {
	e := tagEl(impl.NameOf(longPage(namePieces, 1+c.below(3), c.below(1000))))
	e.Space = c.below(3)
	for k := range c.below(4) {
		e.Attrs = append(e.Attrs, impl.Attr{Name: fmt.Sprint("a", k), Value: impl.TextOf(longPage(mildPieces, c.below(4), c.below(1000)))})
	}
	behindText := false
	for many > 0 && deep > 1 {
		part := 1 + c.below(many)
		many -= part
		switch kind := c.below(4); {
		case kind == 0 && !behindText:
			e.Kids = append(e.Kids, textEl("t"+impl.TextOf(longPage(mildPieces, c.below(4), c.below(1000)))))
		case kind == 1:
			e.Kids = append(e.Kids, noteEl(impl.NoteOf(longPage(mildPieces, c.below(4), c.below(1000)))))
		default:
			e.Kids = append(e.Kids, chanceEl(c, part-1, deep-1))
		}
		behindText = e.Kids[len(e.Kids)-1].Kind == impl.ElText
	}
	return e
}

// TestStrictTreesAreLikeThemselves holds promise 15 for trees of every kind of element.
func TestStrictTreesAreLikeThemselves(t *testing.T) {
	most, deepest := 0, 0
	for seed := range 300 {
		c := chance(seed + 1)
		e := chanceEl(&c, 1+seed*2, 60)
		if !impl.ElOk(e) || !impl.DocOk(elsOf(noteEl("n"), e)) {
			t.Fatalf("%s is not strict", shownEls(e))
		}
		checkEl(t, e)
		most, deepest = max(most, impl.ElSize(e)), max(deepest, impl.ElDeep(e))
		if seed < 40 {
			for _, change := range elChanges() {
				for _, other := range changedEls(e, change.change) {
					checkSameEl(t, plainElShown(e) == plainElShown(other), e, other)
					checkEl(t, other)
				}
			}
		}
		c2 := chance(seed + 2)
		if other := chanceEl(&c2, 1+seed*2, 60); impl.SameEl(e, other) != (plainElShown(e) == plainElShown(other)) {
			t.Fatalf("SameEl(%s, %s) = %v", shownEls(e), shownEls(other), impl.SameEl(e, other))
		}
	}
	if most < 100 || deepest < 10 {
		t.Errorf("at most %d elements, %d within each other", most, deepest)
	}
}

func TestManyElements(t *testing.T) {
	const many = 500000
	made := map[string]func(inner impl.El) impl.El{
		"side by side":                   func(inner impl.El) impl.El { return tagEl("p", append(timesEl(many-2, noteEl("")), inner)...) },
		"within each other":              func(inner impl.El) impl.El { return nestedEl(many-1, inner, nil, nil) },
		"within the first of two":        func(inner impl.El) impl.El { return nestedEl(many/2, inner, nil, elsOf(noteEl(""))) },
		"within the last of two":         func(inner impl.El) impl.El { return nestedEl(many/2, inner, elsOf(noteEl("")), nil) },
		"within what may have no kids":   func(inner impl.El) impl.El { return unkindly(many-1, impl.ElText, inner) },
		"within what has no Kind at all": func(inner impl.El) impl.El { return unkindly(many-1, 0, inner) },
	}
	for what, want := range map[string]struct {
		size, deep int
		ok         bool
	}{
		"side by side": {many, 2, true}, "within each other": {many, many, false}, "within the first of two": {many + 1, many/2 + 1, false}, "within the last of two": {many + 1, many/2 + 1, false},
		"within what may have no kids": {many, many, false}, "within what has no Kind at all": {many, many, false},
	} {
		t.Run(what, func(t *testing.T) {
			e, same := made[what](textEl("x")), made[what](textEl("x"))
			if impl.ElSize(e) != want.size || impl.ElDeep(e) != want.deep || impl.ElOk(e) != want.ok {
				t.Errorf("ElSize %d, ElDeep %d, ElOk %v", impl.ElSize(e), impl.ElDeep(e), impl.ElOk(e))
			}
			if impl.DocOk(elsOf(e)) || impl.DocOk(elsOf(noteEl(""), e)) {
				t.Error("DocOk of too many")
			}
			if !impl.SameEl(e, e) || !impl.SameEl(e, same) {
				t.Error("it is not like itself")
			}
			for _, inner := range elsOf(textEl("y"), noteEl("x"), tagEl("x"), impl.El{}) {
				if other := made[what](inner); impl.SameEl(e, other) || impl.SameEl(other, e) {
					t.Errorf("it is like one with %s in it", shownEls(inner))
				}
			}
		})
	}
	if impl.DocOk(timesEl(many, noteEl(""))) || impl.DocOk(timesEl(many, tagEl("p"))) || impl.DocOk(timesEl(many, impl.El{})) {
		t.Error("DocOk of many elements")
	}
}

// unkindly is an element in so many others of that Kind.
func unkindly(many int, kind int, inner impl.El) impl.El {
	for range many {
		inner = impl.El{Kind: kind, Kids: elsOf(inner)}
	}
	return inner
}

// TestElementsThatShareTheirKids: the same list may be the kids of several, and even of one of its own elements, which no strict tree is.
func TestElementsThatShareTheirKids(t *testing.T) {
	twice := tagEl("p", noteEl("n"))
	for range 10 {
		twice = tagEl("p", twice, twice)
	}
	if impl.ElSize(twice) != 3071 || impl.ElDeep(twice) != 12 || !impl.ElOk(twice) || impl.DocOk(elsOf(twice)) || !impl.SameEl(twice, copiedEl(twice)) {
		t.Error(impl.ElSize(twice), impl.ElDeep(twice), impl.ElOk(twice))
	}
	for range 45 {
		twice = tagEl("p", twice, twice)
	}
	if impl.DocOk(elsOf(twice)) || impl.DocOk(elsOf(noteEl(""), twice, noteEl(""))) {
		t.Error("DocOk of more elements than can be counted")
	}
	for _, list := range [][]impl.El{elsOf(tagEl("p")), elsOf(tagEl("p"), noteEl("")), elsOf(noteEl(""), tagEl("p")), elsOf(tagEl("p"), tagEl("p"))} {
		for k := range list {
			if list[k].Kind == impl.ElTag {
				list[k].Kids = list
			}
		}
		if impl.ElOk(tagEl("p", list...)) || impl.DocOk(list) {
			t.Error("a list that is its own kids is strict")
		}
	}
}

// roomyEl is an element with room behind each of its lists, with something in it.
func roomyEl(e impl.El) impl.El {
	attrs := append(append([]impl.Attr(nil), e.Attrs...), attrsOf("spare", "1", "room", "2")...)
	e.Attrs, e.Kids = attrs[:len(e.Attrs)], roomyEls(e.Kids)
	return e
}

func roomyEls(list []impl.El) []impl.El {
	var roomy []impl.El
	for _, e := range list {
		roomy = append(roomy, roomyEl(e))
	}
	return append(roomy, textEl("spare"), textEl("room"))[:len(list)]
}

// shownRoom tells elements of roomyEls, with what stands in the room behind them.
func shownRoom(list []impl.El) string {
	var all strings.Builder
	for _, e := range list {
		fmt.Fprintf(&all, "%d %d %q %q %q %d(%s)", e.Kind, e.Space, e.Name, e.Attrs[:len(e.Attrs)+2], e.Text, len(e.Kids), shownRoom(e.Kids))
	}
	for _, e := range list[len(list) : len(list)+2] {
		all.WriteString(plainElShown(e))
	}
	return all.String()
}

func TestElementsAreNotWrittenInto(t *testing.T) {
	all := append(wrongEls(), elToTry(), tagEl("p", elToTry(), textEl("x"), elToTry()), nestedEl(59, textEl("x"), elsOf(noteEl("")), elsOf(tagEl("q"))), tagEl("p", timesEl(3000, noteEl(""))...), withAttrs(tagEl("p"), "c", "", "a", "", "b", ""))
	eachSmallEl(4, elsOf(textEl("x"), noteEl("")), func(e impl.El) { all = append(all, e) })
	for _, e := range all {
		given, other, was := roomyEls(elsOf(noteEl(""), e)), roomyEls(elsOf(elToTry(), e)), elsOf(noteEl(""), e)
		impl.ElSize(given[1])
		impl.ElDeep(given[1])
		impl.ElOk(given[1])
		impl.DocOk(given)
		impl.SameEl(given[1], other[1])
		impl.SameEl(given[1], other[0])
		impl.SameEl(other[0], given[1])
		if shownRoom(given) != shownRoom(roomyEls(was)) || shownRoom(other) != shownRoom(roomyEls(elsOf(elToTry(), e))) {
			t.Fatalf("%s became %s", shownEls(was...), shownEls(given...))
		}
	}
}

func TestElementsAskedAtOnceAndAgain(t *testing.T) {
	all := append(wrongEls(), elToTry(), tagEl("p", textEl("x")), noteEl(""))
	for _, e := range all {
		size, deep, ok, doc := impl.ElSize(e), impl.ElDeep(e), impl.ElOk(e), impl.DocOk(elsOf(e))
		t.Run(shownEls(e), func(t *testing.T) {
			t.Parallel()
			for range 20 {
				for _, other := range all {
					impl.ElOk(other)
					impl.SameEl(e, other)
				}
				if impl.ElSize(e) != size || impl.ElDeep(e) != deep || impl.ElOk(e) != ok || impl.DocOk(elsOf(e)) != doc || !impl.SameEl(e, e) {
					t.Fatalf("%s is told otherwise when it is asked again", shownEls(e))
				}
			}
		})
	}
}
