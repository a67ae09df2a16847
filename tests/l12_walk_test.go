package tests

import (
	"fmt"
	"slices"
	"strconv"
	"strings"
	"testing"

	"loop.example/g00325/impl"
)

// farNumbers are numbers that no item of a list has.
func farNumbers(list []impl.Item) []int {
	return []int{-1, -2, len(list), len(list) + 1, impl.MaxItems, 1 << 32, 1 << 40, -1 << 40, -1 << 63, 1<<63 - 1}
}

// checkWalk holds all that the chapter tells of a list against the document's rules, at every number and for every name of it.
func checkWalk(t *testing.T, list []impl.Item) {
	t.Helper()
	ok := plainTreeOk(list)
	if got, want := impl.Bare(list), plainBare(list); !slices.Equal(got, want) {
		t.Fatalf("Bare(%s) = %q, want %q", shownItems(list), got, want)
	}
	if got, want := impl.Sound(list), ok && plainSound(list); got != want {
		t.Fatalf("Sound(%s) = %v", shownItems(list), got)
	}
	for _, name := range append(plainBare(list), "", "p", "html", "P", "no such") {
		var want []int
		if ok {
			want = plainTags(list, name)
		}
		if got := impl.Tags(list, name); !slices.Equal(got, want) {
			t.Fatalf("Tags(%s, %q) = %v, want %v", shownItems(list), name, got, want)
		}
	}
	for i := range list {
		var way []int
		inner := ""
		if ok {
			way, inner = plainWay(list, i), plainInner(list, i)
		}
		if got := impl.Way(list, i); !slices.Equal(got, way) {
			t.Fatalf("Way(%s, %d) = %v, want %v", shownItems(list), i, got, way)
		}
		if got := impl.Inner(list, i); got != inner {
			t.Fatalf("Inner(%s, %d) = %q, want %q", shownItems(list), i, got, inner)
		}
	}
	for _, i := range farNumbers(list) {
		if way, inner := impl.Way(list, i), impl.Inner(list, i); len(way) != 0 || inner != "" {
			t.Fatalf("of item %d of %s: %v, %q", i, shownItems(list), way, inner)
		}
	}
}

// nested is a tree in which each tag stands in the one ahead of it, the first one in the page. A tag is a name, and behind a `:` its Space, where that is not 0.
func nested(tags ...string) []impl.Item {
	list := itemsOf(pageItem())
	for _, tag := range tags {
		list = within(list, tagWritten(tag))
	}
	return list
}

func tagWritten(tag string) impl.Item {
	name, space, _ := strings.Cut(tag, ":")
	it := tagItem(name, 0)
	it.Space, _ = strconv.Atoi(space)
	return it
}

// beside is a tree in which all those items stand in the page, none of them with kids.
func beside(items ...impl.Item) []impl.Item {
	list := itemsOf(pageItem())
	for _, it := range items {
		list[0].Kids = append(list[0].Kids, len(list))
		it.Up = 0
		list = append(list, it)
	}
	return list
}

// inSpace is that name as nested has it with that Space.
func inSpace(name string, space int) string { return fmt.Sprint(name, ":", space) }

func checkSound(t *testing.T, want bool, list []impl.Item) {
	t.Helper()
	if !impl.TreeOk(list) {
		t.Fatalf("%s is no tree", shownItems(list))
	}
	if got := impl.Sound(list); got != want {
		t.Errorf("Sound(%s) = %v", impl.PageText(list), got)
	}
	if rule := plainSound(list); rule != want {
		t.Errorf("the rule has %v for %s", rule, impl.PageText(list))
	}
}

func TestWalkOfAPage(t *testing.T) {
	list := impl.Html("<p>a<b>c</b><p>d")
	checkWalk(t, list)
	ps := impl.Tags(list, "p")
	if len(ps) != 2 || impl.Inner(list, ps[0]) != "ac" || impl.Inner(list, ps[1]) != "d" {
		t.Fatalf("Tags of p are %v", ps)
	}
	way := impl.Way(list, ps[1])
	if len(way) != 4 || way[0] != 0 || list[way[1]].Name != "html" || list[way[2]].Name != "body" || way[3] != ps[1] {
		t.Errorf("Way of the second p is %v", way)
	}
	if got := impl.Bare(list); !slices.Equal(got, []string{"b", "body", "html", "p"}) {
		t.Errorf("Bare is %q", got)
	}
	checkSound(t, true, list)
	list, _ = impl.Add(list, ps[0], 0, tagItem("div", 0))
	checkSound(t, false, list)
}

func TestWalkOfNoItems(t *testing.T) {
	for _, none := range [][]impl.Item{nil, {}, make([]impl.Item, 0, 3)} {
		if impl.Sound(none) || len(impl.Bare(none)) != 0 || len(impl.Tags(none, "")) != 0 || len(impl.Tags(none, "p")) != 0 || len(impl.Way(none, 0)) != 0 || impl.Inner(none, 0) != "" {
			t.Error("no items tell something")
		}
		checkWalk(t, none)
	}
}

func TestTagsAndWaysByHand(t *testing.T) {
	list := treeToTry()
	list[0].Name = "p"
	list[0].Text = "page"
	checkWalk(t, list)
	for i, want := range [][]int{{0}, {0, 1}, {0, 1, 2}, {0, 3}, {0, 1, 4}, {0, 1, 5}, {0, 6}, {0, 1, 4, 7}, {0, 1, 4, 8}} {
		if got := impl.Way(list, i); !slices.Equal(got, want) {
			t.Errorf("Way of %d is %v, want %v", i, got, want)
		}
	}
	for i, want := range []string{"badc", "badc", "a", "", "dc", "b", "", "c", "d"} {
		if got := impl.Inner(list, i); got != want {
			t.Errorf("Inner of %d is %q, want %q", i, got, want)
		}
	}
	// The page is no tag, whatever its Name is.
	if len(impl.Tags(list, "p")) != 0 || !slices.Equal(impl.Bare(list), []string{"body", "svg"}) {
		t.Errorf("the page is told as a tag: %v, %q", impl.Tags(list, "p"), impl.Bare(list))
	}
	// Tags of any Space, byte by byte.
	if !slices.Equal(impl.Tags(list, "svg"), []int{4}) || len(impl.Tags(list, "SVG")) != 0 || len(impl.Tags(list, "sv")) != 0 || len(impl.Tags(list, "svgs")) != 0 || len(impl.Tags(list, "")) != 0 {
		t.Error("Tags of svg")
	}
	// The number of a kid may be below that of what it is in: order is that of the tree.
	list = itemsOf(pageItem(6, 3), tagItem("p", 6), textItem("x", 5), tagItem("p", 0, 7), textItem("y", 1), tagItem("p", 6, 2), tagItem("q", 0, 5, 1), tagItem("p", 3))
	list[1].Kids = []int{4}
	checkWalk(t, list)
	if got := impl.Tags(list, "p"); !slices.Equal(got, []int{5, 1, 3, 7}) {
		t.Errorf("Tags of p are %v", got)
	}
	if impl.Inner(list, 6) != "xy" || impl.Inner(list, 3) != "" || impl.Inner(list, 0) != "xy" || !slices.Equal(impl.Way(list, 4), []int{0, 6, 1, 4}) {
		t.Errorf("Inner of q is %q, Way of y is %v", impl.Inner(list, 6), impl.Way(list, 4))
	}
}

func TestWalkOfManyItems(t *testing.T) {
	deep, flat := deepTree(3000), flatTree(3000)
	if way := impl.Way(deep, 2999); len(way) != 3000 || !slices.IsSorted(way) || way[0] != 0 || way[2999] != 2999 {
		t.Error("the way through a deep tree")
	}
	if tags := impl.Tags(deep, "p"); len(tags) != 2999 || !slices.IsSorted(tags) || tags[0] != 1 || !slices.Equal(impl.Bare(deep), []string{"p"}) {
		t.Error("the tags of a deep tree")
	}
	for i := range flat {
		if want := []int{0, i}; i > 0 && (!slices.Equal(impl.Way(flat, i), want) || impl.Inner(flat, i) != "x") {
			t.Fatalf("Way of %d is %v", i, impl.Way(flat, i))
		}
		if i > 40 && i < 2960 {
			continue
		}
		if i > 0 && len(impl.Way(deep, i)) != i+1 {
			t.Fatalf("Way of %d in a deep tree is %v", i, impl.Way(deep, i))
		}
	}
	if impl.Inner(flat, 0) != strings.Repeat("x", 2999) || len(impl.Tags(flat, "")) != 0 {
		t.Error("of a flat tree")
	}
	// One more is too many.
	if more := deepTree(3001); len(impl.Way(more, 1)) != 0 || len(impl.Way(more, 0)) != 0 || len(impl.Tags(more, "p")) != 0 || impl.Sound(more) {
		t.Error("of too many items")
	}
	if more := flatTree(3001); impl.Inner(more, 0) != "" || impl.Inner(more, 1) != "" {
		t.Error("texts of too many items")
	}
}

// TestWalkByTheRule goes over all small trees, and over each of them by other numbers.
func TestWalkByTheRule(t *testing.T) {
	eachTree(5, func(list []impl.Item) { checkWalk(t, list) })
	eachTree(4, func(list []impl.Item) {
		eachOrder(len(list), func(to []int) {
			other := copiedItems(renumbered(list, to))
			for i := range other {
				if other[i].Kind == impl.ItTag {
					other[i].Name = "p"
				}
			}
			checkWalk(t, other)
		})
	})
	for _, p := range append(rightPages(), morePages()...) {
		if len(p.Items) < 200 {
			checkWalk(t, p.Items)
		}
	}
}

func TestWalkByOtherNumbers(t *testing.T) {
	list := impl.Html("<p>a<b>c</b><p>d<svg><b>e")
	names := impl.Bare(list)
	to := []int{0}
	for i := len(list) - 1; i > 0; i-- {
		to = append(to, i)
	}
	other := renumbered(list, to)
	checkWalk(t, other)
	if !slices.Equal(impl.Bare(other), names) || !impl.Sound(other) {
		t.Errorf("Bare is %q then", impl.Bare(other))
	}
	for _, name := range names {
		var want []int
		for _, i := range impl.Tags(list, name) {
			want = append(want, to[i])
		}
		if got := impl.Tags(other, name); !slices.Equal(got, want) {
			t.Errorf("Tags of %s are %v, want %v", name, got, want)
		}
	}
	for i := range list {
		if impl.Inner(other, to[i]) != impl.Inner(list, i) {
			t.Errorf("Inner of %d is %q", to[i], impl.Inner(other, to[i]))
		}
	}
}

func TestBare(t *testing.T) {
	check := func(want []string, names ...string) {
		t.Helper()
		var tags []impl.Item
		for _, name := range names {
			tags = append(tags, tagItem(name, 0))
		}
		list := beside(tags...)
		if got := impl.Bare(list); !slices.Equal(got, want) {
			t.Errorf("Bare of %q is %q, want %q", names, got, want)
		}
		checkWalk(t, list)
	}
	check(nil)
	check([]string{"p"}, "p", "p", "p")
	check([]string{"a", "b", "c"}, "c", "a", "b", "a", "c")
	check([]string{"p", "pp", "ppp", "pre", "q"}, "pre", "ppp", "q", "p", "pp", "p")
	check([]string{" ", "B", "b"}, "b", "B", " ")
	check([]string{"z", "\x7f", "\x80", "\xc3\xa9", "\xf0\x90\x80\x80", "\xff", "\xffa"}, "\xff", "\xf0\x90\x80\x80", "\xffa", "\xc3\xa9", "\x80", "\x7f", "z", "\xff")
	check([]string{"a\x00", "a\x00b", "ab"}, "ab", "a\x00b", "a\x00")
	// An empty name, which no tree has.
	check([]string{""}, "")
	check([]string{"", "p"}, "p", "", "p", "")
	// Names of what is no tag are no tags' names.
	list := beside(textItem("t", 0), noteItem("n", 0), kindItem("k", 0), tagItem("p", 0))
	for i := range list {
		if list[i].Kind != impl.ItTag {
			list[i].Name = "not"
		}
	}
	if got := impl.Bare(list); !slices.Equal(got, []string{"p"}) {
		t.Errorf("Bare is %q", got)
	}
	// Names of each Space are one.
	list = nested("g", "g:1", "g:2", "a:2")
	if got := impl.Bare(list); !slices.Equal(got, []string{"a", "g"}) {
		t.Errorf("Bare is %q", got)
	}
	// The chapter asks for no tree.
	for _, wrong := range [][]impl.Item{{tagItem("q", 7)}, {tagItem("q", -1), tagItem("a", 99, 5, 6)}, {{Kind: impl.ItTag, Name: "q", Text: "x", Space: 9}, {Kind: 7, Name: "r"}, {Name: "s"}}} {
		if got, want := impl.Bare(wrong), plainBare(wrong); impl.TreeOk(wrong) || !slices.Equal(got, want) || got[len(got)-1] != "q" {
			t.Errorf("Bare(%s) = %q", shownItems(wrong), got)
		}
	}
	if got := impl.Bare(deepTree(3001)); !slices.Equal(got, []string{"p"}) {
		t.Errorf("Bare of many is %q", got)
	}
}

func TestWalkOfTextsThatAreNoSigns(t *testing.T) {
	for _, s := range []string{"\xff", "\xe2\x82", "\xed\xa0\x80", "\x00", "a\xf4\x90\x80\x80b", "\r\n\r", "\xc0\xaf"} {
		list := itemsOf(pageItem(1, 4), tagItem("html", 0, 2, 3), textItem(s, 1), tagItem("p"+s, 1, 5), noteItem(s, 0), textItem(s+"z"+s, 3))
		checkWalk(t, list)
		if impl.Inner(list, 1) != s+s+"z"+s || impl.Inner(list, 2) != s || impl.Inner(list, 4) != "" || !slices.Equal(impl.Tags(list, "p"+s), []int{3}) || len(impl.Tags(list, "p"+impl.Clean(s)+"?")) != 0 || !impl.Sound(list) {
			t.Errorf("with %q: %q", s, impl.Inner(list, 1))
		}
	}
	list := itemsOf(pageItem(1), tagItem("\xff", 0))
	if len(impl.Tags(list, "\uFFFD")) != 0 || len(impl.Tags(list, "\xfe")) != 0 {
		t.Error("names are not told byte by byte")
	}
}

func TestSoundOfVoidTags(t *testing.T) {
	kids := itemsOf(textItem("x", 0), textItem("", 0), noteItem("n", 0), kindItem("k", 0), tagItem("b", 0), tagItem("br", 0), tagWritten("g:1"))
	for _, name := range append(listedTags(), "q", "BR", "b\xff") {
		if plainIs("Part", name) {
			continue
		}
		void := plainIs("Void", name)
		for space := range 3 {
			tree := func() []impl.Item { return nested("html", "body", inSpace(name, space)) }
			checkSound(t, true, tree())
			for _, kid := range kids {
				checkSound(t, !void || space != 0, within(tree(), kid))
			}
		}
	}
	// Beside others, and further in.
	list := impl.Html("<p>a<br>b<hr>c")
	checkSound(t, true, list)
	for _, name := range []string{"br", "hr"} {
		more, _ := impl.Add(list, impl.Tags(list, name)[0], -1, textItem("", 0))
		checkSound(t, false, more)
	}
}

func TestSoundOfBlocksInParagraphs(t *testing.T) {
	for _, name := range append(listedTags(), "q", "svg", "math", "P", "DIV", "h4", "\xff") {
		if plainIs("Part", name) {
			continue
		}
		block := plainIs("Block", name)
		for _, space := range []int{0, 1, 2} {
			for _, about := range []int{0, 1, 2} {
				tag, paragraph := inSpace(name, space), inSpace("p", about)
				checkSound(t, !block || space != 0 || about != 0, nested("html", "body", paragraph, tag))
				// Only what stands in the p itself is asked for.
				checkSound(t, true, nested("html", "body", paragraph, "b", tag))
				checkSound(t, true, nested("html", "body", paragraph, "svg:1", tag))
				checkSound(t, true, nested("html", "body", paragraph, "p:1", tag))
				checkSound(t, true, nested("html", "body", "P", tag))
			}
		}
	}
	checkSound(t, true, nested("html", "p"))
	checkSound(t, false, nested("html", "p", "p"))
	checkSound(t, false, nested("html", "p", "b", "p", "div"))
	checkSound(t, false, nested("html", "p:1", "p", "div"))
	checkSound(t, true, nested("html", "div", "p", "b", "i", "div", "p"))
	// One among others is found, ahead and behind.
	list := impl.Html("<p>a<b>c</b>d")
	for at := range 4 {
		more, _ := impl.Add(list, impl.Tags(list, "p")[0], at, tagItem("ul", 0))
		checkSound(t, false, more)
		more, _ = impl.Add(list, impl.Tags(list, "b")[0], at, tagItem("ul", 0))
		checkSound(t, true, more)
		more, _ = impl.Add(list, impl.Tags(list, "p")[0], at, tagWritten("ul:2"))
		checkSound(t, true, more)
	}
}

// wholes are trees down to a tag of that name, all that is about it as the chapter wants it.
func wholes() map[string][]string {
	return map[string][]string{
		"table": {"html", "body", "table"},
		"tbody": {"html", "body", "table", "tbody"},
		"tr":    {"html", "body", "table", "tbody", "tr"},
		"td":    {"html", "body", "table", "tbody", "tr", "td"},
		"th":    {"html", "body", "table", "tbody", "tr", "th"},
		"body":  {"html", "body"},
		"html":  {"html"},
		"div":   {"html", "body", "table", "tbody", "tr", "td", "div"},
		"b":     {"html", "body", "b"},
		"p":     {"html", "body", "p"},
		"svg":   {"html", "body", "svg"},
		"TR":    {"html", "body", "TR"},
		"tbod":  {"html", "body", "tbod"},
	}
}

func TestSoundOfParts(t *testing.T) {
	asked := map[string]string{"tbody": "table", "tr": "tbody", "td": "tr", "th": "tr"}
	for part, whole := range asked {
		for name, tags := range wholes() {
			for _, space := range []int{0, 1, 2} {
				for _, about := range []int{0, 1, 2} {
					last := len(tags) - 1
					row := append(slices.Clone(tags[:last]), inSpace(name, about), inSpace(part, space))
					checkSound(t, space != 0 || name == whole, nested(row...))
				}
			}
		}
		// In the page itself, alone and beside an html; it is one tag more there, of whatever Space.
		for _, space := range []int{0, 1, 2} {
			it := tagWritten(inSpace(part, space))
			checkSound(t, false, beside(it))
			checkSound(t, false, beside(it, tagItem("html", 0)))
			checkSound(t, false, beside(tagItem("html", 0), it))
			named := beside(it)
			named[0].Name = whole
			checkSound(t, false, named)
		}
		// What is asked for is about it, but further out.
		row := append(slices.Clone(wholes()[whole]), "b", part)
		checkSound(t, false, nested(row...))
		row[len(row)-2] = "svg:1"
		checkSound(t, false, nested(row...))
	}
	// Names with another letter are no parts.
	checkSound(t, true, nested("html", "body", "TD"))
	checkSound(t, true, nested("html", "body", "tfoot"))
	// Each whole may have others, too.
	checkSound(t, true, nested("html", "body", "table", "b", "i"))
	checkSound(t, true, nested("html", "table", "tbody", "tr", "td", "table", "tbody", "tr", "th", "p"))
	checkSound(t, false, nested("html", "table", "tbody", "tr", "td", "table", "tr"))
}

func TestSoundOfThePage(t *testing.T) {
	html, text, note, kind := tagItem("html", 0), textItem("x", 0), noteItem("n", 0), kindItem("k", 0)
	checkSound(t, false, beside())
	checkSound(t, false, beside(text))
	checkSound(t, false, beside(note, kind, text))
	checkSound(t, true, beside(html))
	checkSound(t, true, beside(note, kind, html))
	checkSound(t, true, beside(text, html, text, note, kind, note))
	for _, name := range []string{"body", "HTML", "htm", "htmls", "p", "br", "svg", "html\x00", "\xff"} {
		for space := range 3 {
			it := tagWritten(inSpace(name, space))
			checkSound(t, false, beside(it))
			checkSound(t, false, beside(html, it))
			checkSound(t, false, beside(it, text, html))
			checkSound(t, name != "br" || space != 0, nested("html", inSpace(name, space), "b"))
		}
	}
	checkSound(t, false, beside(html, html))
	checkSound(t, false, beside(html, note, html))
	checkSound(t, false, beside(html, html, html))
	checkSound(t, false, nested("body", "html"))
	checkSound(t, true, nested("html", "html", "body"))
	// The page's tag is told by its name, of whatever Space it is.
	for _, tag := range []string{"html:1", "html:2"} {
		checkSound(t, true, nested(tag, "body"))
		checkSound(t, false, beside(html, tagWritten(tag)))
		checkSound(t, false, beside(tagWritten(tag), tagWritten(tag)))
	}
	// What the page itself has is not asked for.
	named := nested("html", "body")
	named[0].Name, named[0].Text, named[0].Space = "p", "x", 7
	checkSound(t, true, named)
	alone := beside(text)
	alone[0].Name = "html"
	checkSound(t, false, alone)
}

// TestSoundWithOneFault: what is right does not make up for one that is not, wherever they lie in the list.
func TestSoundWithOneFault(t *testing.T) {
	faults := map[string][2]string{"void": {"br", "b"}, "paragraph": {"p", "div"}, "row": {"table", "tr"}, "cell": {"tbody", "td"}, "rows": {"div", "tbody"}}
	for what, fault := range faults {
		for _, ahead := range []bool{true, false} {
			list := impl.Html("<p>a<br>b<table><td>c</table><div>d")
			up := impl.Tags(list, "body")[0]
			if fault[0] == "tbody" {
				up = impl.Tags(list, "table")[0]
			}
			at := -1
			if ahead {
				at = 0
			}
			list, n := impl.Add(list, up, at, tagItem(fault[0], 0))
			checkSound(t, true, list)
			list, _ = impl.Add(list, n, 0, tagItem(fault[1], 0))
			if impl.Sound(list) {
				t.Errorf("with a fault of a %s it is sound: %s", what, impl.PageText(list))
			}
			to := []int{0}
			for i := len(list) - 1; i > 0; i-- {
				to = append(to, i)
			}
			checkSound(t, false, renumbered(list, to))
		}
	}
}

// TestWalkOfWrongTrees holds all five for each way in which a list is not TreeOk.
func TestWalkOfWrongTrees(t *testing.T) {
	for k, wrong := range append(append(wrongTrees(), faultyTrees()...), deepTree(3001)) {
		if impl.TreeOk(wrong) {
			t.Fatalf("list %d is right", k)
		}
		for i := -1; i <= len(wrong) && i < 12; i++ {
			if len(impl.Way(wrong, i)) != 0 || impl.Inner(wrong, i) != "" {
				t.Errorf("list %d, item %d: %v, %q", k, i, impl.Way(wrong, i), impl.Inner(wrong, i))
			}
		}
		for _, name := range []string{"", "p", "q", "body", "svg", "html"} {
			if got := impl.Tags(wrong, name); len(got) != 0 {
				t.Errorf("list %d: Tags of %s are %v", k, name, got)
			}
		}
		if got := impl.Bare(wrong); impl.Sound(wrong) || !slices.Equal(got, plainBare(wrong)) {
			t.Errorf("list %d: %q, %v", k, got, impl.Sound(wrong))
		}
	}
	// One fault in a tree that is sound.
	for k, change := range []func(list []impl.Item){
		func(list []impl.Item) { list[0].Kind = impl.ItTag },
		func(list []impl.Item) { list[0].Up = 0 },
		func(list []impl.Item) { list[0].Kids = nil },
		func(list []impl.Item) { list[0].Kids = []int{1, 1} },
		func(list []impl.Item) { list[1].Kind = impl.ItPage },
		func(list []impl.Item) { list[1].Up = 2 },
		func(list []impl.Item) { list[1].Text = "x" },
		func(list []impl.Item) { list[2].Name = "" },
		func(list []impl.Item) { list[2].Space = 3 },
		func(list []impl.Item) { list[2].Attrs = attrsOf("a", "", "a", "") },
		func(list []impl.Item) { list[3].Kids = []int{3} },
		func(list []impl.Item) { list[3].Kids = []int{99} },
		func(list []impl.Item) { list[3].Kind = impl.ItText },
		func(list []impl.Item) { list[3].Kind = 6 },
		func(list []impl.Item) { list[3].Up = 1 << 40 },
	} {
		list := nested("html", "body", "q")
		checkSound(t, true, list)
		change(list)
		checkWalk(t, list)
		if impl.TreeOk(list) || impl.Sound(list) {
			t.Errorf("fault %d is sound", k)
		}
	}
}

// TestWalkOfSmallLists goes over all small lists, most of them wrong.
func TestWalkOfSmallLists(t *testing.T) {
	kinds := []int{impl.ItPage, impl.ItTag, impl.ItNote}
	listsOfItems(3, numberLists([]int{0, 1, 2}, 2), kinds, []int{-1, 0, 1, 2, 3}, numberLists([]int{0, 1, 2}, 2), func(list []impl.Item) { checkWalk(t, list) })
}

func TestWalkWritesIntoNothing(t *testing.T) {
	lists := append(append(wrongTrees(), faultyTrees()...), treeToTry(), itemsOf(pageItem()), flatTree(9), deepTree(9), impl.Html("<p>a<br>b<table><td>c</table><svg><p>d<b>e"))
	for _, list := range lists {
		given := roomyItems(list)
		for i := -1; i <= len(list) && i < 30; i++ {
			spoilNumbers(impl.Way(given, i))
			impl.Inner(given, i)
		}
		for _, name := range append(plainBare(list), "", "p") {
			spoilNumbers(impl.Tags(given, name))
		}
		impl.Sound(given)
		names := impl.Bare(given)
		clear(names[:cap(names)])
		if !sameRoom(given, roomyItems(list)) {
			t.Errorf("%s became %s", shownItems(list), shownItems(given))
		}
	}
}

// TestWalkIsNewMemory spoils what came in, and the answers must not feel it, nor those that are told again.
func TestWalkIsNewMemory(t *testing.T) {
	for _, list := range [][]impl.Item{treeToTry(), flatTree(9), deepTree(9), impl.Html("<p>a<b>c</b><p>d")} {
		for i := range list {
			given := roomyItems(list)
			way, tags, names := impl.Way(given, i), impl.Tags(given, list[i].Name), impl.Bare(given)
			again := impl.Way(given, i)
			for k := range given {
				spoilItem(given[k])
			}
			clear(given[:cap(given)])
			if !slices.Equal(way, plainWay(list, i)) || !slices.Equal(tags, plainTags(list, list[i].Name)) || !slices.Equal(names, plainBare(list)) {
				t.Fatalf("of %s, item %d: %v, %v, %q", shownItems(list), i, way, tags, names)
			}
			spoilNumbers(way)
			spoilNumbers(tags)
			if !slices.Equal(again, plainWay(list, i)) {
				t.Fatalf("two ways share memory: %v", again)
			}
		}
	}
}

// bodyText is the text of those words that stands in the body they make, without the blanks ahead of it, and the text ahead of the body.
func bodyText(words []impl.Token) (string, string) {
	p, body, ahead := impl.PageNew(), "", ""
	for _, word := range words {
		kept := keptText(p, word)
		p = impl.Step(p, word)
		if p.Body != 0 {
			body += kept
		} else {
			ahead += kept
		}
	}
	return body, ahead
}

// checkWalkedPage holds promise 12 for a page, and of promises 10 and 11 what the chapter can tell: it is sound, where never MaxOpen are open at once,
// its parts stand in their wholes, what is void has nothing in it, and, without tables, all texts of its body are there, in order.
func checkWalkedPage(t *testing.T, s string) {
	t.Helper()
	list, words := impl.Html(s), impl.Scan(s)
	if len(list) == impl.MaxItems {
		return
	}
	if impl.Sound(list) != plainSound(list) {
		t.Fatalf("Sound of %s is %v", impl.PageText(list), impl.Sound(list))
	}
	if plainMostOpen(words) <= impl.MaxOpen {
		checkWholes(t, s, list)
	}
	bodies, heads := impl.Tags(list, "body"), impl.Tags(list, "head")
	if len(bodies) != 1 || len(heads) > 1 || len(impl.Tags(list, "html")) != 1 || len(impl.Way(list, bodies[0])) != 3 {
		t.Fatalf("Html(%q) = %s", shortText(s), impl.PageText(list))
	}
	if len(impl.Tags(list, "table")) > 0 {
		return
	}
	body, ahead := bodyText(words)
	if got := impl.Inner(list, bodies[0]); got != body {
		t.Fatalf("the body of Html(%q) has %q, want %q", shortText(s), got, body)
	}
	if got := impl.Inner(list, 0); got != ahead+body {
		t.Fatalf("Html(%q) has %q, want %q", shortText(s), got, ahead+body)
	}
}

func checkWholes(t *testing.T, s string, list []impl.Item) {
	t.Helper()
	if !impl.Sound(list) {
		t.Fatalf("Html(%q) is not sound: %s", shortText(s), impl.PageText(list))
	}
	for part, whole := range map[string]string{"tbody": "table", "tr": "tbody", "td": "tr", "th": "tr"} {
		for _, i := range impl.Tags(list, part) {
			way := impl.Way(list, i)
			if about := list[way[len(way)-2]]; about.Name != whole || about.Space != 0 || list[i].Space != 0 {
				t.Fatalf("Html(%q) has a %s in a %s: %s", shortText(s), part, about.Name, impl.PageText(list))
			}
		}
	}
	for _, name := range impl.Bare(list) {
		for _, i := range impl.Tags(list, name) {
			if plainIs("Void", name) && list[i].Space == 0 && len(list[i].Kids) > 0 {
				t.Fatalf("Html(%q) has a %s with something in it: %s", shortText(s), name, impl.PageText(list))
			}
		}
	}
}

// TestPagesAreSound goes over all short rows of words, of several sorts.
func TestPagesAreSound(t *testing.T) {
	for _, c := range []struct {
		what   string
		ahead  string
		long   int
		pieces []string
	}{
		{"tables", "<table>", 4, []string{"<table>", "</table>", "<tbody>", "<tr>", "</tr>", "<td>", "</td>", "x", " ", "<b>", "</b>", "<p>"}},
		{"paragraphs and tables", "<p>", 4, []string{"<table>", "</table>", "<td>", "<p>", "</p>", "<div>", "<b>", "<hr>", "<br>", "x", "<a>"}},
		{"parts without tables", "", 4, []string{"<td>", "<tr>", "<tbody>", "</td>", "</tr>", "<div>", "x", " ", "<p>", "<svg>"}},
		{"void ones", "", 4, []string{"<br>", "<hr>", "<col>", "<meta>", "</br>", "</hr>", "x", " ", "<p>", "</p>", "<svg>", "</svg>"}},
		{"spaces", "<table><td>", 4, []string{"<svg>", "</svg>", "<g>", "</g>", "<math/>", "<p>", "<br>", "<tr>", "<td>", "</table>", "x", "<b>"}},
		{"heads", "", 4, []string{"<title>", "</title>", "<script/>", "</script>", "<meta>", "x", " ", "<body>", "<p>", "<html>", "<head>"}},
		{"formats", "", 4, []string{"<b>", "</b>", "<a>", "</a>", "<p>", "</p>", "<div>", "</div>", "<ul>", "<li>", "x"}},
		{"headings", "", 4, []string{"<h1>", "<h2>", "</h1>", "<p>", "</p>", "<ul>", "<li>", "</ul>", "<pre>", "<form>", "x"}},
		{"bytes", "<td", 4, []string{"<", ">", "/", "p", "table>", " ", "\xff", "&", "=", "'"}},
	} {
		t.Run(c.what, func(t *testing.T) {
			t.Parallel()
			eachText(c.pieces, c.long, func(s string) { checkWalkedPage(t, c.ahead+s) })
		})
	}
}

func TestLongPagesAreSound(t *testing.T) {
	var all []string
	for _, word := range everyWord() {
		all = append(all, impl.Spell(wordsOf(word)))
	}
	for what, pieces := range map[string][]string{
		"all":        append(all, "&#13;", "\r", "\xff", "<?", "</", ">", "<!", "&lt;"),
		"tables":     {"<table>", "</table>", "<td>", "</td>", "<tr>", "x", " ", "<p>", "<b>", "</b>", "<svg>", "</svg>", "</p>", "<hr>", "<a>", "<div>", "</div>"},
		"paragraphs": {"<p>", "</p>", "x", "<div>", "</div>", "<b>", "</b>", "<a>", "</a>", "<ul>", "<li>", "<h1>", "</h2>", "<br>", "<svg>", "<g/>", "</svg>"},
		"heads":      {"<title>", "</title>", " ", "<meta>", "<script/>", "</script>", "y", "<br>", "<p>", "<style>", "</style>", "<body>", "<!--n-->"},
	} {
		t.Run(what, func(t *testing.T) {
			t.Parallel()
			for seed := range 300 {
				checkWalkedPage(t, longPage(pieces, 1+seed%70, seed))
			}
		})
	}
}

// TestSoundUpToMaxOpen: html, body, the divs, table, tbody, tr and td want to be open. The td need not be; where there is no room for the tbody or the tr,
// what comes behind it stands where it may not, and where there is none for the table, no part comes into it.
func TestSoundUpToMaxOpen(t *testing.T) {
	for many := range 60 {
		divs := strings.Repeat("<div>", many)
		list := impl.Html(divs + "<table><td>x<br>")
		checkWalk(t, list)
		if want := many != 36 && many != 37; impl.Sound(list) != want {
			t.Errorf("with %d divs: %v: %s", many, impl.Sound(list), impl.PageText(list))
		}
		checkWalkedPage(t, divs+"<table><td>x<br>")
		checkWalkedPage(t, divs+"<table><td>x<br><p><hr></table>y<p><ul>")
		checkWalkedPage(t, divs+"</p><p>x<br><div>y<p><hr>z")
	}
}

// TestWordsOfABody: from its start tag on, all words of a page without tables are in the body, blanks too.
func TestWordsOfABody(t *testing.T) {
	for _, c := range [][3]string{
		{"<title> t </title> \n <p> a <b> b </p> c", " t ", " a  b  c"},
		{"<title>t</title> <body> \n <p> a", "t", " \n  a"},
		{" \n x \n ", "", " \n x \n "},
		{" <p> ", "", " "},
		{"<script>s</script> <br> <script>r</script>q", "s", " rq"},
		{"<td>a<tr>b</table>c", "", "abc"},
	} {
		list := impl.Html(c[0])
		heads := impl.Tags(list, "head")
		if len(heads) > 0 && impl.Inner(list, heads[0]) != c[1] || impl.Inner(list, impl.Tags(list, "body")[0]) != c[2] || impl.Inner(list, 0) != c[1]+c[2] {
			t.Errorf("Html(%q) has %q", c[0], impl.PageText(list))
		}
		checkWalkedPage(t, c[0])
	}
	pieces := []string{"<p>", "</p>", " a", "<div>", "</div>", "<b>", "</b>", "<a>", "<svg>", "<g>", "</svg>", "<td>", "b ", "<title>", "</title>", "<br>", "&lt;", "<h1>", "\n"}
	for seed := range 200 {
		page := "<body>" + longPage(pieces, 100, seed)
		want := ""
		for _, word := range impl.Scan(page) {
			want += word.Text
		}
		list := impl.Html(page)
		if got := impl.Inner(list, impl.Tags(list, "body")[0]); got != want {
			t.Fatalf("the body of %s has %q, want %q", page, got, want)
		}
	}
}
