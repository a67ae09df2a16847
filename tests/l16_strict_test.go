package tests

import (
	"fmt"
	"slices"
	"strings"
	"testing"

	"loop.example/g00325/impl"
)

// checkAttrsOf holds AttrsOf against the rule, and what is promised of it: each name once and strict, and the same when it is made again.
func checkAttrsOf(t *testing.T, list []impl.Attr) []impl.Attr {
	t.Helper()
	got := impl.AttrsOf(list)
	if want := plainAttrsOf(list); !slices.Equal(got, want) {
		t.Fatalf("AttrsOf(%s) = %s, want %s", shownAttrs(list), shownAttrs(got), shownAttrs(want))
	}
	if tag := (impl.El{Kind: impl.ElTag, Name: "p", Attrs: got}); !impl.ElOk(tag) || !plainElOk(tag) {
		t.Fatalf("AttrsOf(%s) = %s, which is not strict", shownAttrs(list), shownAttrs(got))
	}
	if again := impl.AttrsOf(got); !slices.Equal(again, got) {
		t.Fatalf("AttrsOf(%s) = %s, and made again %s", shownAttrs(list), shownAttrs(got), shownAttrs(again))
	}
	return got
}

// checkStrict holds ElOf of each item, and of numbers that are no item's, and DocOf against the rules, and what is promised of them.
func checkStrict(t *testing.T, list []impl.Item) {
	t.Helper()
	for i := -2; i < len(list)+2; i++ {
		got, want := impl.ElOf(list, i), plainElOf(list, i)
		if plainElShown(got) != plainElShown(want) {
			t.Fatalf("ElOf(%s, %d) = %s, want %s", shownItems(list), i, shownEls(got), shownEls(want))
		}
		isTag := i >= 0 && i < len(list) && list[i].Kind == impl.ItTag
		if impl.ElOk(got) != isTag || plainElOk(got) != isTag {
			t.Fatalf("ElOf(%s, %d) = %s; that it is ElOk is %v", shownItems(list), i, shownEls(got), impl.ElOk(got))
		}
	}
	doc, want := impl.DocOf(list), plainDocOf(list)
	if !sameEls(doc, want) {
		t.Fatalf("DocOf(%s) = %s, want %s", shownItems(list), shownEls(doc...), shownEls(want...))
	}
	hasTag := slices.ContainsFunc(list[0].Kids, func(k int) bool { return list[k].Kind == impl.ItTag })
	if impl.DocOk(doc) != hasTag || plainDocOk(doc) != hasTag {
		t.Fatalf("DocOf(%s) = %s; that it is DocOk is %v", shownItems(list), shownEls(doc...), impl.DocOk(doc))
	}
}

// checkElOf asks for what is wanted of item 1, and by the rule for all others.
func checkElOf(t *testing.T, list []impl.Item, want impl.El) {
	t.Helper()
	if !impl.TreeOk(list) {
		t.Fatalf("%s is no tree", shownItems(list))
	}
	if got := impl.ElOf(list, 1); plainElShown(got) != plainElShown(want) {
		t.Errorf("ElOf(%s, 1) = %s, want %s", shownItems(list), shownEls(got), shownEls(want))
	}
	checkStrict(t, list)
}

func checkDocOf(t *testing.T, list []impl.Item, want ...impl.El) {
	t.Helper()
	if !impl.TreeOk(list) {
		t.Fatalf("%s is no tree", shownItems(list))
	}
	if got := impl.DocOf(list); !sameEls(got, want) {
		t.Errorf("DocOf(%s) = %s, want %s", shownItems(list), shownEls(got...), shownEls(want...))
	}
	checkStrict(t, list)
}

// checkNothing asks for what is told of a list that is no tree.
func checkNothing(t *testing.T, list []impl.Item) {
	t.Helper()
	for _, i := range append(farNumbers(list), 0, 1, 2, 3, len(list)-1, len(list)) {
		if got := impl.ElOf(list, i); plainElShown(got) != plainElShown(impl.El{}) {
			t.Fatalf("ElOf(%s, %d) = %s", shownItems(list), i, shownEls(got))
		}
	}
	if got := impl.DocOf(list); len(got) != 0 {
		t.Fatalf("DocOf(%s) = %s", shownItems(list), shownEls(got...))
	}
}

func TestMadeStrictByHand(t *testing.T) {
	attrs := checkAttrsOf(t, attrsOf("x:y", "1", "xU00003Ay", "2", "xmlns", "", "k", "\x01"))
	if !slices.Equal(attrs, attrsOf("xU00003Ay", "1", "k", badBytes)) {
		t.Errorf("AttrsOf = %s", shownAttrs(attrs))
	}
	list := impl.Html("<!--a--b--><p>x")
	checkDocOf(t, list, noteEl("a- -b"), tagEl("html", tagEl("body", tagEl("p", textEl("x")))))
	if !impl.DocOk(impl.DocOf(list)) {
		t.Error("DocOf is not DocOk")
	}
	p := impl.ElOf(list, impl.Tags(list, "p")[0])
	if plainElShown(p) != plainElShown(tagEl("p", textEl("x"))) || !impl.ElOk(p) {
		t.Errorf("ElOf of the p = %s", shownEls(p))
	}
	if e := impl.ElOf(list, 0); plainElShown(e) != plainElShown(impl.El{}) {
		t.Errorf("ElOf of the first item = %s", shownEls(e))
	}
	checkDocOf(t, impl.Html(""), tagEl("html", tagEl("head"), tagEl("body")))
	for _, nothing := range [][]impl.Item{nil, {}} {
		checkNothing(t, nothing)
	}
	checkDocOf(t, itemsOf(pageItem()))
}

func TestAttrsOfByHand(t *testing.T) {
	const colon, turned = "x:y", "xU00003Ay"
	for _, c := range []struct{ list, want []string }{
		{nil, nil}, {[]string{}, nil}, {[]string{"a", "1"}, []string{"a", "1"}}, {[]string{"b", "1", "a", "2", "c", ""}, []string{"b", "1", "a", "2", "c", ""}}, {[]string{"a", "1", "A", "2"}, []string{"a", "1", "A", "2"}},
		// Two that become alike, the turned one ahead and behind: first, in the middle, last.
		{[]string{colon, "1", turned, "2"}, []string{turned, "1"}}, {[]string{turned, "1", colon, "2"}, []string{turned, "1"}},
		{[]string{colon, "1", turned, "2", "a", "3"}, []string{turned, "1", "a", "3"}}, {[]string{"a", "1", turned, "2", colon, "3", "b", "4"}, []string{"a", "1", turned, "2", "b", "4"}}, {[]string{"a", "1", "b", "2", colon, "3", turned, "4"}, []string{"a", "1", "b", "2", turned, "3"}},
		{[]string{colon, "1", "a", "2", turned, "3"}, []string{turned, "1", "a", "2"}}, {[]string{turned, "1", "a", "2", "b", "3", colon, "4"}, []string{turned, "1", "a", "2", "b", "3"}},
		// Three at once, and twice two.
		{[]string{colon, "1", turned, "2", colon, "3"}, []string{turned, "1"}}, {[]string{colon, "1", "a", "2", colon, "3", "b", "4", turned, "5"}, []string{turned, "1", "a", "2", "b", "4"}}, {[]string{"\xff", "1", badBytes, "2", "\xe2\x82", "3"}, []string{badBytes, "1"}},
		{[]string{colon, "1", "", "2", turned, "3", "U", "4"}, []string{turned, "1", "U", "2"}}, {[]string{"U", "1", colon, "2", "", "3", turned, "4"}, []string{"U", "1", turned, "2"}},
		// Those that are alike already.
		{[]string{"a", "1", "a", "2"}, []string{"a", "1"}}, {[]string{"a", "1", "b", "2", "a", "3", "b", "4", "a", "5"}, []string{"a", "1", "b", "2"}}, {[]string{"a", "", "a", "1"}, []string{"a", ""}},
		// The empty name.
		{[]string{"", "1"}, []string{"U", "1"}}, {[]string{"", "1", "", "2"}, []string{"U", "1"}}, {[]string{"", "", "a", ""}, []string{"U", "", "a", ""}}, {[]string{"u", "1", "", "2", "U", "3"}, []string{"u", "1", "U", "2"}},
		// What is left away, and what only looks like it.
		{[]string{"xmlns", "1"}, nil}, {[]string{"xmlns", "1", "xmlns", "2"}, nil}, {[]string{"xmlns", "", "a", "1"}, []string{"a", "1"}}, {[]string{"a", "1", "xmlns", "2", "b", "3"}, []string{"a", "1", "b", "3"}}, {[]string{"a", "1", "xmlns", ""}, []string{"a", "1"}}, {[]string{"xmlns", "1", "a", "2", "xmlns", "3", "b", "4", "xmlns", "5"}, []string{"a", "2", "b", "4"}},
		{[]string{"XMLNS", "1", "xmlns:a", "2", "xmlns ", "3", " xmlns", "4", "xmln", "5", "xmlnss", "6"}, []string{"XMLNS", "1", "xmlnsU00003Aa", "2", "xmlnsU000020", "3", "U000020xmlns", "4", "xmln", "5", "xmlnss", "6"}},
		{[]string{"xmlns\x00", "1", "xmlns\xff", "2", "x\xffmlns", "3", "Xmlns", "4", "a", "xmlns"}, []string{"xmlnsU000000", "1", "xmlns" + badBytes, "2", "x" + badBytes + "mlns", "3", "Xmlns", "4", "a", "xmlns"}},
		// Values that are turned do not tell two apart.
		{[]string{"a", "\f\x00\xff\r\n"}, []string{"a", " " + badBytes + badBytes + "\r\n"}}, {[]string{"a", "\x01", "b", "\x01"}, []string{"a", badBytes, "b", badBytes}}, {[]string{"a", "--", "b", "<&\">"}, []string{"a", "--", "b", "<&\">"}},
	} {
		if got := checkAttrsOf(t, attrsOf(c.list...)); !slices.Equal(got, attrsOf(c.want...)) {
			t.Errorf("AttrsOf(%q) = %s, want %q", c.list, shownAttrs(got), c.want)
		}
	}
	if got := impl.AttrsOf(attrsOf("a", "b")[:0]); len(got) != 0 {
		t.Errorf("AttrsOf of an empty list with room = %s", shownAttrs(got))
	}
}

// TestAttrsOfAllShortLists: the values tell at which place each one stood.
func TestAttrsOfAllShortLists(t *testing.T) {
	names := []string{"a", "x:y", "xU00003Ay", "xmlns", "", "U", "\xff", badBytes, "1", "U000031"}
	fewer := 0
	var grow func(list []impl.Attr)
	grow = func(list []impl.Attr) {
		if got := checkAttrsOf(t, list); len(got) < len(list) {
			fewer++
		}
		if len(list) == 5 {
			return
		}
		for _, name := range names {
			grow(append(slices.Clone(list), impl.Attr{Name: name, Value: fmt.Sprint(len(list))}))
		}
	}
	grow(nil)
	if fewer < 10000 {
		t.Errorf("only %d lists became shorter", fewer)
	}
}

func TestAttrsOfNamesAndValues(t *testing.T) {
	check := func(name, value string) {
		t.Helper()
		for _, list := range [][]impl.Attr{attrsOf(name, value), attrsOf("other", value, name, value, "one", value), attrsOf(name, value, name, "x"), attrsOf(name, "x", impl.NameOf(name), value), attrsOf(impl.NameOf(name), "x", "xmlns", "y", name, value)} {
			checkAttrsOf(t, list)
		}
	}
	for name := range namesToTry() {
		for value := range strictTextsToTry() {
			check(name, value)
		}
	}
	eachText(namePieces, 3, func(s string) { check(s, s) })
	eachText(mildPieces, 3, func(s string) { check("a", s) })
	for b := range 256 {
		check(string([]byte{byte(b)}), string([]byte{byte(b)}))
		check("xmlns"+string([]byte{byte(b)}), string([]byte{'x', byte(b)}))
		check(string([]byte{byte(b)})+"xmlns", string([]byte{byte(b), 'x'}))
	}
}

func TestManyAttributes(t *testing.T) {
	const many = 100000
	var unlike, alike, both, barred []impl.Attr
	for k := range many {
		value := fmt.Sprint(k)
		unlike = append(unlike, impl.Attr{Name: fmt.Sprint("a", many-k), Value: value})
		alike = append(alike, impl.Attr{Name: []string{"x:y", "xU00003Ay"}[k%2], Value: value})
		both = append(both, impl.Attr{Name: fmt.Sprint(k%500) + ":", Value: value})
		barred = append(barred, impl.Attr{Name: "xmlns", Value: value})
	}
	if got := impl.AttrsOf(unlike); !slices.Equal(got, unlike) {
		t.Error("AttrsOf of many that are unlike is", shownAttrs(got))
	}
	if got := impl.AttrsOf(alike); !slices.Equal(got, attrsOf("xU00003Ay", "0")) {
		t.Error("AttrsOf of many that become alike is", shownAttrs(got))
	}
	if got := impl.AttrsOf(both); !slices.Equal(got, plainAttrsOf(both[:500])) || len(got) != 500 {
		t.Error("AttrsOf of many, each name of which comes again, is", shownAttrs(got))
	}
	if got := impl.AttrsOf(barred); len(got) != 0 {
		t.Error("AttrsOf of many xmlns is", shownAttrs(got))
	}
	long := strings.Repeat("x:\xff\x00", 50000)
	if got := impl.AttrsOf(attrsOf(long, long, long+"x", long)); len(got) != 2 || got[0].Name != impl.NameOf(long) || got[1].Value != impl.TextOf(long) {
		t.Error("AttrsOf of long ones is", shownAttrs(got))
	}
}

func TestElOfByHand(t *testing.T) {
	list := treeToTry()
	list[1].Attrs = attrsOf("b:", "\f", "xmlns", "", "bU00003A", "", "a", "2")
	svg := tagEl("svg", textEl("dc"))
	svg.Space = 1
	body := withAttrs(tagEl("body", textEl("ba"), svg), "bU00003A", " ", "a", "2")
	checkElOf(t, list, body)
	checkDocOf(t, list, body, noteEl("n"))
	for i, want := range elsOf(impl.El{}, body, impl.El{}, impl.El{}, svg, impl.El{}, impl.El{}, impl.El{}, impl.El{}) {
		if got := impl.ElOf(list, i); plainElShown(got) != plainElShown(want) {
			t.Errorf("ElOf of item %d = %s", i, shownEls(got))
		}
	}
	for _, i := range []int{-1, -2, 9, 10, 3000, 1 << 32, 1<<32 + 1, 1 << 40, -1 << 63, 1<<63 - 1} {
		if got := impl.ElOf(list, i); plainElShown(got) != plainElShown(impl.El{}) {
			t.Errorf("ElOf of item %d = %s", i, shownEls(got))
		}
	}
	// The last item, and the one behind it.
	last := nested("html", "body", "p")
	if got := impl.ElOf(last, 3); plainElShown(got) != plainElShown(tagEl("p")) || impl.ElOf(last, 4).Kind != 0 {
		t.Errorf("ElOf of the last item = %s", shownEls(got))
	}
	// What the first item has beside its kids is nothing's.
	first := treeOf("p", 0, textItem("x", 1))
	first[0].Name, first[0].Text, first[0].Attrs, first[0].Space = "n", "t", attrsOf("a", "b"), 1
	checkElOf(t, first, tagEl("p", textEl("x")))
	checkDocOf(t, first, tagEl("p", textEl("x")))
}

func TestElOfSpacesAndNames(t *testing.T) {
	for _, space := range []int{0, 1, 2} {
		for name := range namesToTry() {
			if name == "" {
				continue
			}
			want := tagEl(impl.NameOf(name), textEl("x"))
			want.Space = space
			list := treeOf(name, space, textItem("x", 1))
			checkElOf(t, list, want)
			checkDocOf(t, list, want)
			inner := within(nested(inSpace("p", 2-space)), tagItem(name, 1))
			inner[2].Space = space
			want.Kids = nil
			about := tagEl("p", want)
			about.Space = 2 - space
			checkElOf(t, inner, about)
		}
	}
	// A tag may be xmlns; names of tags that become alike stay.
	checkElOf(t, treeOf("xmlns", 0, tagItem("x:y", 1), tagItem("xU00003Ay", 1)), tagEl("xmlns", tagEl("xU00003Ay"), tagEl("xU00003Ay")))
	checkElOf(t, treeOf("p", 0, tagItem("xmlns", 1), textItem("x", 1), tagItem("xmlns", 1)), tagEl("p", tagEl("xmlns"), textEl("x"), tagEl("xmlns")))
	checkDocOf(t, beside(tagItem("xmlns", 0), tagItem("p", 0)), tagEl("xmlns"))
	// One attribute at two tags stands at both.
	twice := treeOf("p", 0, tagItem("b", 1), tagItem("b", 1))
	for k := range 3 {
		twice[k+1].Attrs = attrsOf("a", fmt.Sprint(k))
	}
	checkElOf(t, twice, withAttrs(tagEl("p", withAttrs(tagEl("b"), "a", "1"), withAttrs(tagEl("b"), "a", "2")), "a", "0"))
}

func TestElOfTextsBesideEachOther(t *testing.T) {
	x, y, none, note, tag, kind := textItem("x", 1), textItem("y", 1), textItem("", 1), noteItem("n", 1), tagItem("b", 1), kindItem("k", 1)
	for _, c := range []struct {
		kids []impl.Item
		want []impl.El
	}{
		{itemsOf(x), elsOf(textEl("x"))}, {itemsOf(x, y), elsOf(textEl("xy"))}, {itemsOf(y, x, y), elsOf(textEl("yxy"))}, {itemsOf(x, x, x, x), elsOf(textEl("xxxx"))},
		{itemsOf(x, note, y), elsOf(textEl("x"), noteEl("n"), textEl("y"))}, {itemsOf(x, tag, y), elsOf(textEl("x"), tagEl("b"), textEl("y"))}, {itemsOf(x, y, note, y, x), elsOf(textEl("xy"), noteEl("n"), textEl("yx"))}, {itemsOf(tag, x, y, tag), elsOf(tagEl("b"), textEl("xy"), tagEl("b"))},
		{itemsOf(none), nil}, {itemsOf(none, none), nil}, {itemsOf(x, none), elsOf(textEl("x"))}, {itemsOf(none, x), elsOf(textEl("x"))}, {itemsOf(x, none, y), elsOf(textEl("xy"))}, {itemsOf(none, note, none), elsOf(noteEl("n"))}, {itemsOf(tag, none, tag), elsOf(tagEl("b"), tagEl("b"))}, {itemsOf(x, none, note, none, y), elsOf(textEl("x"), noteEl("n"), textEl("y"))},
		// What is left away does not part them.
		{itemsOf(kind), nil}, {itemsOf(x, kind, y), elsOf(textEl("xy"))}, {itemsOf(kind, x, kind, kind, none, kind, y, kind), elsOf(textEl("xy"))}, {itemsOf(x, kind, note, kind, y), elsOf(textEl("x"), noteEl("n"), textEl("y"))}, {itemsOf(note, kind, note), elsOf(noteEl("n"), noteEl("n"))},
		// Each is made strict by itself: the bytes of a sign that stand in two texts are none.
		{itemsOf(textItem("\xe2\x82", 1), textItem("\xac", 1)), elsOf(textEl(badBytes + badBytes))}, {itemsOf(textItem("\f", 1), textItem("\x00", 1), textItem("\r\n", 1)), elsOf(textEl(" " + badBytes + "\r\n"))},
		{itemsOf(textItem("--", 1), textItem("\r", 1), noteItem("--", 1), noteItem("\r-", 1)), elsOf(textEl("--\r"), noteEl("- - "), noteEl("\n- "))},
		// Notes stay, however many and whatever is in them.
		{itemsOf(noteItem("", 1), noteItem("", 1)), elsOf(noteEl(""), noteEl(""))}, {itemsOf(noteItem("a--b-", 1), noteItem("\f\x01\xff", 1), noteItem("->", 1)), elsOf(noteEl("a- -b- "), noteEl(" "+badBytes+badBytes), noteEl("->"))},
	} {
		checkElOf(t, treeOf("p", 0, c.kids...), tagEl("p", c.want...))
	}
}

// TestAllShortRowsOfKids goes over all rows of items of every kind, in a tag and in a tag within one.
func TestAllShortRowsOfKids(t *testing.T) {
	pieces := itemsOf(textItem("x", 1), textItem("", 1), textItem("\xe2\x82", 1), textItem("\xac-", 1), noteItem("-", 1), tagItem("b:", 1), kindItem("k", 1))
	var grow func(kids []impl.Item)
	grow = func(kids []impl.Item) {
		checkStrict(t, treeOf("p", 1, kids...))
		if len(kids) == 4 {
			return
		}
		for _, it := range pieces {
			grow(append(slices.Clone(kids), it))
		}
	}
	grow(nil)
}

func TestAllSmallTreesMadeStrict(t *testing.T) {
	many := 0
	eachTree(5, func(list []impl.Item) {
		many++
		checkStrict(t, list)
	})
	if many < 1000 {
		t.Errorf("only %d trees", many)
	}
}

// deepWith is a tree of tags within each other, so many, with those items in the innermost one, and a text and a note ahead of and behind each tag but the first.
func deepWith(many int, beside bool, kids ...impl.Item) []impl.Item {
	list := itemsOf(pageItem())
	at := 0
	put := func(it impl.Item) int {
		it.Up = at
		list[at].Kids = append(list[at].Kids, len(list))
		list = append(list, it)
		return len(list) - 1
	}
	for k := range many {
		if beside && k > 0 {
			put(textItem("x", 0))
		}
		tag := put(tagItem("p", 0))
		if beside && k > 0 {
			put(noteItem("n", 0))
		}
		at = tag
	}
	for _, it := range kids {
		put(it)
	}
	return list
}

// TestHowDeepWhatIsMadeStrictIs: the kids of a tag that is MaxDeep within others are left away, all of them, and nothing else is.
func TestHowDeepWhatIsMadeStrictIs(t *testing.T) {
	x, note := textEl("x"), noteEl("n")
	for _, many := range []int{1, 2, 57, 58, 59, 60, 61, 62, 63, 119, 120, 121, 900} {
		for _, inner := range [][]impl.Item{nil, itemsOf(textItem("x", 0)), itemsOf(noteItem("n", 0), tagItem("q", 0), textItem("x", 0)), itemsOf(kindItem("k", 0)), itemsOf(textItem("", 0))} {
			list := deepWith(many, false, inner...)
			var kids []impl.El
			switch {
			case many >= 60:
			case len(inner) == 1 && inner[0].Text == "x":
				kids = elsOf(x)
			case len(inner) == 3:
				kids = elsOf(note, tagEl("q"), x)
			}
			want := nestedEl(min(many, 60)-1, tagEl("p", kids...), nil, nil)
			checkDocOf(t, list, want)
			// From an item further in, as much of it as there is from there on.
			for _, i := range []int{1, 2, 3, many - 61, many - 60, many - 59, many - 58, many - 1, many} {
				if i < 1 || i > many {
					continue
				}
				left := many - i + 1
				within := kids
				if left < 60 && many >= 60 {
					within = plainElOf(list, many).Kids
				} else if left >= 60 {
					within = nil
				}
				want := nestedEl(min(left, 60)-1, tagEl("p", within...), nil, nil)
				if got := impl.ElOf(list, i); plainElShown(got) != plainElShown(want) {
					t.Errorf("of %d within each other: ElOf of item %d = %s, want %s", many, i, shownEls(got), shownEls(want))
				}
			}
		}
		// With others beside each of them: those that are MaxDeep within others stay where they are no tag's kids that is so deep.
		list := deepWith(many, true)
		e := impl.ElOf(list, 1)
		if deep, size := impl.ElDeep(e), impl.ElSize(e); deep != min(many, 60) || size != 1+3*(min(many, 60)-1) || !impl.ElOk(e) {
			t.Errorf("of %d within each other: ElDeep %d, ElSize %d, ElOk %v", many, deep, size, impl.ElOk(e))
		}
		if want := nestedEl(min(many, 60)-1, tagEl("p"), elsOf(x), elsOf(note)); plainElShown(e) != plainElShown(want) {
			t.Errorf("of %d within each other: ElOf = %s, want %s", many, shownEls(e), shownEls(want))
		}
		if many < 200 {
			checkStrict(t, list)
		}
	}
}

// TestTreesOfManyItemsMadeStrict: a tree has at most MaxItems items, so a document of it never has too many elements.
func TestTreesOfManyItemsMadeStrict(t *testing.T) {
	for _, many := range []int{2998, 2999, 3000, 3001, 3002, 10000} {
		right := many <= impl.MaxItems
		flat, deep := flatTree(many), deepTree(many)
		tags, notes := itemsOf(pageItem(1), tagItem("p", 0)), itemsOf(pageItem())
		for k := 2; k < many; k++ {
			tags[1].Kids = append(tags[1].Kids, k)
			tags = append(tags, tagItem("b", 1))
		}
		for k := 1; k < many; k++ {
			notes[0].Kids = append(notes[0].Kids, k)
			notes = append(notes, noteItem("n", 0))
		}
		texts := copiedItems(tags)
		for k := 2; k < many; k++ {
			texts[k] = textItem(strings.Repeat("x\x00", 500), 1)
		}
		if !right {
			for _, list := range [][]impl.Item{flat, deep, tags, notes, texts} {
				checkNothing(t, list)
			}
			continue
		}
		if got := impl.DocOf(flat); len(got) != 0 {
			t.Errorf("DocOf of texts alone has %d elements", len(got))
		}
		if got := impl.DocOf(notes); len(got) != many-1 || impl.DocOk(got) {
			t.Errorf("DocOf of notes alone has %d elements", len(got))
		}
		if got := impl.DocOf(deep); !sameEls(got, elsOf(nestedEl(59, tagEl("p"), nil, nil))) || !impl.DocOk(got) {
			t.Errorf("DocOf of many within each other is %s", shownEls(got...))
		}
		if got := impl.DocOf(tags); !sameEls(got, elsOf(tagEl("p", timesEl(many-2, tagEl("b"))...))) || !impl.DocOk(got) {
			t.Errorf("DocOf of many beside each other is %s", shownEls(got...))
		}
		if got := impl.DocOf(texts); !sameEls(got, elsOf(tagEl("p", textEl(strings.Repeat("x"+badBytes, 500*(many-2)))))) || !impl.DocOk(got) {
			t.Errorf("DocOf of many texts is %s", shownEls(got...))
		}
		for _, i := range []int{1, 2, many / 2, many - 60, many - 1, many} {
			for _, list := range [][]impl.Item{flat, tags, notes, deep} {
				if got, want := impl.ElOf(list, i), plainElOf(list, i); plainElShown(got) != plainElShown(want) {
					t.Errorf("ElOf of item %d = %s, want %s", i, shownEls(got), shownEls(want))
				}
			}
		}
	}
}

func TestDocOfByHand(t *testing.T) {
	html, p, n, m := tagEl("html"), tagItem("p", 0), noteItem("n", 0), noteItem("m-", 0)
	tag, text, kind, none := tagItem("html", 0), textItem("x", 0), kindItem("k", 0), textItem("", 0)
	note, other := noteEl("n"), noteEl("m- ")
	checkDocOf(t, beside())
	checkDocOf(t, beside(tag), html)
	checkDocOf(t, beside(n, tag), note, html)
	checkDocOf(t, beside(tag, n), html, note)
	checkDocOf(t, beside(n, tag, m), note, html, other)
	checkDocOf(t, beside(m, n, tag, n, m, n), other, note, html, note, other, note)
	// The first tag alone, whichever it is.
	checkDocOf(t, beside(tag, p), html)
	checkDocOf(t, beside(p, tag), tagEl("p"))
	checkDocOf(t, beside(tag, n, p, m, tag), html, note, other)
	checkDocOf(t, beside(n, tag, m, p, n), note, html, other, note)
	checkDocOf(t, beside(tag, tag, tag), html)
	// No tag.
	checkDocOf(t, beside(n, m), note, other)
	checkDocOf(t, beside(text))
	checkDocOf(t, beside(kind, none))
	checkDocOf(t, beside(text, n, text), note)
	// Texts and kinds beside them are left away.
	checkDocOf(t, beside(text, tag, text), html)
	checkDocOf(t, beside(kind, n, text, tag, none, m, kind), note, html, other)
	checkDocOf(t, beside(text, text, p, kind, tag, text), tagEl("p"))
	// A note in a tag, and a tag in a tag, are no kids of the first item.
	checkDocOf(t, treeOf("p", 0, noteItem("n", 1), tagItem("q", 1)), tagEl("p", note, tagEl("q")))
	// By Kids, not by numbers.
	checkDocOf(t, itemsOf(pageItem(3, 2, 1), p, tag, n), note, html)
	checkDocOf(t, itemsOf(pageItem(4, 2), textItem("x", 2), tagItem("html", 0, 3, 1), tagItem("b", 2), n), note, tagEl("html", tagEl("b"), textEl("x")))
	svg := html
	svg.Space = 1
	inSvg := beside(tag)
	inSvg[1].Space = 1
	checkDocOf(t, inSvg, svg)
}

func TestAllShortRowsOfAPage(t *testing.T) {
	pieces := itemsOf(textItem("x", 0), noteItem("-", 0), noteItem("n", 0), tagItem("b:", 0), tagItem("p", 0), kindItem("k", 0))
	var grow func(items []impl.Item)
	grow = func(items []impl.Item) {
		checkStrict(t, beside(items...))
		if len(items) == 4 {
			return
		}
		for _, it := range pieces {
			grow(append(slices.Clone(items), it))
		}
	}
	grow(nil)
}

func TestNothingIsMadeOfWhatIsNoTree(t *testing.T) {
	for _, list := range append(wrongTrees(), faultyTrees()...) {
		checkNothing(t, list)
	}
	// A fault further in than any element comes, and one beside the tag that is asked for.
	far := deepTree(100)
	far[99].Text = "x"
	checkNothing(t, far)
	aside := beside(tagItem("p", 0), textItem("x", 0))
	aside[2].Name = "x"
	checkNothing(t, aside)
	round := append(beside(tagItem("p", 0)), tagItem("q", 2, 2))
	checkNothing(t, round)
}

func TestSmallListsMadeStrict(t *testing.T) {
	right, wrong := 0, 0
	numbers := []int{0, 1, 2}
	listsOfItems(3, numberLists(numbers, 2), []int{impl.ItPage, impl.ItTag, impl.ItText, impl.ItNote}, []int{-1, 0, 1, 2}, numberLists(numbers, 1), func(list []impl.Item) {
		if plainTreeOk(list) {
			right++
			checkStrict(t, list)
		} else {
			wrong++
			checkNothing(t, list)
		}
	})
	if right < 10 || wrong < 1000 {
		t.Errorf("%d are trees, %d are not", right, wrong)
	}
}

// TestWhatIsMadeStrictIsStrict holds promise 16 for trees of every kind of item, with any names and texts.
func TestWhatIsMadeStrictIsStrict(t *testing.T) {
	deepest, joined := 0, 0
	for seed := range 300 {
		c := chance(seed + 1)
		many := 2 + seed/2
		if seed%50 == 0 {
			many += 300
		}
		list := chanceTree(&c, many, 1+seed%5)
		if !impl.TreeOk(list) {
			t.Fatalf("%s is no tree", shownItems(list))
		}
		deepest = max(deepest, impl.Deep(list))
		checkStrict(t, list)
		for i, it := range list {
			if it.Kind != impl.ItTag {
				continue
			}
			checkAttrsOf(t, it.Attrs)
			if e := impl.ElOf(list, i); len(e.Kids) < len(it.Kids) {
				joined++
			}
		}
	}
	if deepest < 65 || joined < 1000 {
		t.Errorf("at most %d within each other, %d tags with fewer kids", deepest, joined)
	}
}

// checkStrictPage holds promise 16 for a page: DocOf of it is DocOk, where there was room for its html.
func checkStrictPage(t *testing.T, s string) {
	t.Helper()
	list := impl.Html(s)
	doc := impl.DocOf(list)
	if want := plainDocOf(list); !sameEls(doc, want) {
		t.Fatalf("DocOf of Html(%q) = %s, want %s", shortText(s), shownEls(doc...), shownEls(want...))
	}
	// Only where notes take all the room there is no tag.
	hasTag := slices.ContainsFunc(list[0].Kids, func(k int) bool { return list[k].Kind == impl.ItTag })
	if impl.DocOk(doc) != hasTag || plainDocOk(doc) != hasTag || !hasTag && len(list) < impl.MaxItems {
		t.Fatalf("DocOf of Html(%q) = %s; that it is DocOk is %v", shortText(s), shownEls(doc...), impl.DocOk(doc))
	}
	for i, it := range list {
		if e := impl.ElOf(list, i); impl.ElOk(e) != (it.Kind == impl.ItTag) {
			t.Fatalf("ElOf of item %d of Html(%q) = %s", i, shortText(s), shownEls(e))
		}
	}
}

func TestPagesMadeStrict(t *testing.T) {
	for _, c := range []struct {
		what   string
		ahead  string
		long   int
		pieces []string
	}{
		{"tables", "<table>", 3, []string{"<table>", "</table>", "<tr>", "<td>", "</td>", "x", " ", "<b>", "<p>", "<!doctype k>", "<!--n-->"}},
		{"spaces", "<svg>", 3, []string{"<svg>", "</svg>", "<g:h>", "</g:h>", "<math/>", "<p>", "x", "&#12;", "<!-->"}},
		{"notes", "", 4, []string{"<!--", "-->", "-", "--", "x", "<p>", "<!", ">", "\r"}},
		{"kinds", "<p>", 4, []string{"<!doctype k>", "x", " ", "</p>", "<b>", "</b>", "<!--n-->"}},
		{"heads", "", 3, []string{"<title>", "</title>", "<script/>", "</script>", "<meta>", "x", " ", "<body>", "<html xmlns=1>", "<html x:y=2>", "<html xU00003Ay=3>", "<head>"}},
		{"bytes", "<p", 4, []string{"<", ">", "/", "p", " ", "\xff", "&#1;", "=", "'", "\x00", ":"}},
		{"attributes", "<p ", 4, []string{"x:y", "xu00003ay", "xmlns", "=", "1", " ", "'", "\"", ">", "\x0c", "&#0;"}},
	} {
		t.Run(c.what, func(t *testing.T) {
			t.Parallel()
			eachText(c.pieces, c.long, func(s string) { checkStrictPage(t, c.ahead+s) })
		})
	}
}

func TestLongPagesMadeStrict(t *testing.T) {
	var all []string
	for _, word := range everyWord() {
		all = append(all, impl.Spell(wordsOf(word)))
	}
	all = append(all, "&#13;", "\r", "\xff", "<?", "</", ">", "<!", "&lt;", "<x:y a:b=\x01 xmlns>", "<!doctype k>")
	for seed := range 300 {
		checkStrictPage(t, longPage(all, 1+seed%70, seed))
	}
	for page := range deepPages() {
		checkStrictPage(t, page)
	}
	deep := impl.Html(strings.Repeat("<a><div>", 900) + "x")
	if e := impl.ElOf(deep, 1); impl.ElDeep(e) != impl.MaxDeep {
		t.Error("a page that is deeper than MaxDeep is made", impl.ElDeep(e))
	}
	for _, piece := range []string{"<br>", "<b>", "x<br>", "<!>x", "<p>x"} {
		checkStrictPage(t, strings.Repeat(piece, 2500))
	}
	// There is an html as long as there is room for one; where notes take all of it, there is no tag to be made strict.
	for many, want := range map[int]bool{2997: true, 2998: true, 2999: false, 3000: false, 6000: false} {
		doc := impl.DocOf(impl.Html(strings.Repeat("<!>", many)))
		if impl.DocOk(doc) != want || len(doc) != min(many+1, 2999) {
			t.Errorf("%d notes: %d elements, DocOk %v", many, len(doc), impl.DocOk(doc))
		}
	}
}

// spoilEls writes into all lists of elements, and into the room behind them.
func spoilEls(list []impl.El) {
	for _, e := range list {
		spoilItem(impl.Item{Attrs: e.Attrs})
		spoilEls(e.Kids)
	}
	clear(list[:cap(list)])
}

func treesToSpoil() [][]impl.Item {
	all := append(wrongTrees(), faultyTrees()...)
	all = append(all, treeToTry(), deepWith(70, true, textItem("x", 0)), impl.Html("<!--a--b--><p x:y=1 a>x<!doctype k>y<svg xmlns=1 b>z"), flatTree(9), deepTree(9))
	for seed := range 30 {
		c := chance(seed + 1)
		all = append(all, chanceTree(&c, 10+seed, 3))
	}
	return all
}

func TestMadeStrictWritesIntoNothing(t *testing.T) {
	for _, list := range treesToSpoil() {
		given := roomyItems(list)
		for i := -1; i <= len(list) && i < 50; i++ {
			impl.ElOf(given, i)
		}
		impl.DocOf(given)
		for _, it := range given {
			impl.AttrsOf(it.Attrs)
		}
		if !sameRoom(given, roomyItems(list)) {
			t.Errorf("%s became %s", shownItems(list), shownItems(given))
		}
	}
}

func TestMadeStrictIsNewMemory(t *testing.T) {
	for _, list := range treesToSpoil() {
		for i := -1; i <= len(list) && i < 50; i++ {
			given := roomyItems(list)
			el, doc := impl.ElOf(given, i), impl.DocOf(given)
			wantEl, wantDoc := plainElShown(el), copiedEls(doc)
			for k := range given {
				spoilItem(given[k])
			}
			clear(given[:cap(given)])
			if plainElShown(el) != wantEl || !sameEls(doc, wantDoc) {
				t.Fatalf("what is made of %s shares memory with it", shownItems(list))
			}
			// What is told is written into, one after the other, and the others must not feel it.
			for k := range doc {
				if !sameEls(doc[k:], wantDoc[k:]) {
					t.Fatalf("elements of one document share memory: %s", shownEls(doc...))
				}
				spoilItem(impl.Item{Attrs: doc[k].Attrs})
				for kid := range doc[k].Kids {
					if !sameEls(doc[k].Kids[kid:], wantDoc[k].Kids[kid:]) {
						t.Fatalf("kids of one element share memory: %s", shownEls(doc...))
					}
					spoilItem(impl.Item{Attrs: doc[k].Kids[kid].Attrs})
					spoilEls(doc[k].Kids[kid].Kids)
				}
				spoilEls(doc[k].Kids)
			}
			if plainElShown(el) != wantEl {
				t.Fatalf("ElOf and DocOf of %s share memory", shownItems(list))
			}
		}
		for _, it := range roomyItems(list) {
			got := impl.AttrsOf(it.Attrs)
			want := slices.Clone(got)
			spoilItem(it)
			if !slices.Equal(got, want) {
				t.Fatalf("AttrsOf(%s) shares memory with it", shownAttrs(it.Attrs))
			}
		}
	}
}

// TestMadeStrictAtOnceAndAgain: what is told is the same each time, in the same order.
func TestMadeStrictAtOnceAndAgain(t *testing.T) {
	var attrs []impl.Attr
	for k := range 60 {
		attrs = append(attrs, impl.Attr{Name: fmt.Sprint(k*37%40, ":"), Value: fmt.Sprint(k)})
	}
	want := plainAttrsOf(attrs)
	for k, list := range treesToSpoil() {
		doc, el := impl.DocOf(list), impl.ElOf(list, 1)
		t.Run(fmt.Sprint(k), func(t *testing.T) {
			t.Parallel()
			for range 20 {
				if got := impl.AttrsOf(attrs); !slices.Equal(got, want) {
					t.Fatalf("AttrsOf = %s", shownAttrs(got))
				}
				if !sameEls(impl.DocOf(list), doc) || plainElShown(impl.ElOf(list, 1)) != plainElShown(el) {
					t.Fatalf("%s is made otherwise when it is asked again", shownItems(list))
				}
			}
		})
	}
}
