package tests

import (
	"fmt"
	"slices"
	"strings"
	"testing"

	"loop.example/g00325/impl"
)

func pageItem(kids ...int) impl.Item { return impl.Item{Kind: impl.ItPage, Up: -1, Kids: kids} }

func tagItem(name string, up int, kids ...int) impl.Item {
	return impl.Item{Kind: impl.ItTag, Name: name, Up: up, Kids: kids}
}

func textItem(s string, up int) impl.Item { return impl.Item{Kind: impl.ItText, Text: s, Up: up} }

func noteItem(s string, up int) impl.Item { return impl.Item{Kind: impl.ItNote, Text: s, Up: up} }

func kindItem(s string, up int) impl.Item { return impl.Item{Kind: impl.ItKind, Text: s, Up: up} }

func itemsOf(list ...impl.Item) []impl.Item { return list }

func sameItem(a, b impl.Item) bool {
	return a.Kind == b.Kind && a.Space == b.Space && a.Name == b.Name && a.Text == b.Text && a.Up == b.Up && slices.Equal(a.Attrs, b.Attrs) && slices.Equal(a.Kids, b.Kids)
}

func sameItems(a, b []impl.Item) bool { return slices.EqualFunc(a, b, sameItem) }

func shownItems(list []impl.Item) string { return shortText(fmt.Sprintf("%+v", list)) }

// copiedItems is a list of its own: what is written into one is not seen in the other.
func copiedItems(list []impl.Item) []impl.Item {
	var whole []impl.Item
	for _, it := range list {
		it.Attrs, it.Kids = append([]impl.Attr(nil), it.Attrs...), append([]int(nil), it.Kids...)
		whole = append(whole, it)
	}
	return whole
}

// treeToTry is a tree with all Kinds, whose Kids stand in another order than their numbers.
func treeToTry() []impl.Item {
	list := itemsOf(
		pageItem(3, 1, 6),
		tagItem("body", 0, 5, 2, 4),
		textItem("a", 1),
		kindItem("html", 0),
		tagItem("svg", 1, 8, 7),
		textItem("b", 1),
		noteItem("n", 0),
		textItem("c", 4),
		textItem("d", 4),
	)
	list[1].Attrs = attrsOf("b", "1", "a", "2")
	list[4].Space = 1
	return list
}

// deepTree is a tree of that many items, each one's only kid the next.
func deepTree(many int) []impl.Item {
	list := itemsOf(pageItem())
	for k := 1; k < many; k++ {
		list[k-1].Kids = []int{k}
		list = append(list, tagItem("p", k-1))
	}
	return list
}

// flatTree is a tree of that many items, all of them the first one's, the last one first.
func flatTree(many int) []impl.Item {
	list := itemsOf(pageItem())
	for k := 1; k < many; k++ {
		list[0].Kids = append(list[0].Kids, many-k)
		list = append(list, textItem("x", 0))
	}
	return list
}

// renumbered is the same tree with other numbers: item i becomes item to[i].
func renumbered(list []impl.Item, to []int) []impl.Item {
	other := make([]impl.Item, len(list))
	for i, it := range copiedItems(list) {
		if it.Up >= 0 {
			it.Up = to[it.Up]
		}
		for k := range it.Kids {
			it.Kids[k] = to[it.Kids[k]]
		}
		other[to[i]] = it
	}
	return other
}

// eachOrder visits every order of the numbers from one on up to below many, behind a 0 that stays.
func eachOrder(many int, visit func(to []int)) {
	to := []int{0}
	var next func()
	next = func() {
		if len(to) == many {
			visit(slices.Clone(to))
			return
		}
		for k := 1; k < many; k++ {
			if !slices.Contains(to, k) {
				to = append(to, k)
				next()
				to = to[:len(to)-1]
			}
		}
	}
	next()
}

// eachTree visits every shape of tree of up to that many items, made without the program: an item a time, at each place.
func eachTree(most int, visit func(list []impl.Item)) {
	var grow func(list []impl.Item)
	grow = func(list []impl.Item) {
		visit(list)
		if len(list) == most {
			return
		}
		for up, it := range list {
			if it.Kind > impl.ItTag {
				continue
			}
			for at := 0; at <= len(it.Kids); at++ {
				n := len(list)
				for _, new := range itemsOf(tagItem("t"+fmt.Sprint(n), up), textItem("x"+fmt.Sprint(n)+";", up)) {
					more := append(copiedItems(list), new)
					more[up].Kids = slices.Insert(more[up].Kids, at, n)
					grow(more)
				}
			}
		}
	}
	grow(itemsOf(pageItem()))
}

// plainTreeOk is the document's rule, item by item, for small lists.
func plainTreeOk(list []impl.Item) bool {
	if len(list) < 1 || len(list) > 3000 || list[0].Kind != 1 || list[0].Up != -1 {
		return false
	}
	for i, it := range list {
		for _, k := range it.Kids {
			if k < 0 || k >= len(list) || list[k].Up != i {
				return false
			}
		}
		names := map[string]int{}
		for _, attr := range it.Attrs {
			names[attr.Name]++
		}
		switch {
		case it.Kind < 1 || it.Kind > 5:
			return false
		case it.Kind > 2 && (len(it.Kids) > 0 || it.Name != "" || len(it.Attrs) > 0 || it.Space != 0):
			return false
		case it.Kind == 2 && (it.Text != "" || it.Name == "" || it.Space < 0 || it.Space > 2 || len(names) < len(it.Attrs)):
			return false
		case i == 0:
			continue
		case it.Kind == 1 || it.Up < 0 || it.Up >= len(list) || list[it.Up].Kind > 2:
			return false
		}
		many := 0
		for _, k := range list[it.Up].Kids {
			if k == i {
				many++
			}
		}
		if many != 1 || !plainUnder(list, 0, i) {
			return false
		}
	}
	return true
}

func plainUnder(list []impl.Item, i, k int) bool {
	seen := map[int]bool{}
	for k >= 0 && k < len(list) && !seen[k] {
		if k == i {
			return true
		}
		seen[k] = true
		k = list[k].Up
	}
	return false
}

// plainOrder tells item i and all that is its own; of lists that are right only.
func plainOrder(list []impl.Item, i int) []int {
	all := []int{i}
	for _, k := range list[i].Kids {
		all = append(all, plainOrder(list, k)...)
	}
	return all
}

// plainShape tells all that two trees that are alike have alike.
func plainShape(list []impl.Item) string {
	var all strings.Builder
	for _, i := range plainOrder(list, 0) {
		it := list[i]
		fmt.Fprintf(&all, "%d %d %q %q %q %d\n", it.Kind, it.Space, it.Name, it.Attrs, it.Text, len(it.Kids))
	}
	return all.String()
}

func checkTreeOk(t *testing.T, want bool, list ...impl.Item) {
	t.Helper()
	if got := impl.TreeOk(list); got != want {
		t.Errorf("TreeOk(%s) = %v", shownItems(list), got)
	}
	if rule := plainTreeOk(list); rule != want {
		t.Errorf("the rule has %v for %s", rule, shownItems(list))
	}
}

func TestTreeOk(t *testing.T) {
	checkTreeOk(t, true, pageItem())
	checkTreeOk(t, true, treeToTry()...)
	checkTreeOk(t, true, pageItem(1), tagItem("p", 0))
	checkTreeOk(t, true, pageItem(1), textItem("x", 0))
	checkTreeOk(t, true, pageItem(1), textItem("", 0))
	checkTreeOk(t, true, pageItem(1), noteItem("", 0))
	checkTreeOk(t, true, pageItem(1), kindItem("", 0))
	checkTreeOk(t, true, pageItem(2, 1), textItem("x", 0), textItem("y", 0))
	checkTreeOk(t, true, pageItem(2), textItem("x", 2), tagItem("p", 0, 1))
	checkTreeOk(t, true, pageItem(3), textItem("x", 2), tagItem("p", 3, 1), tagItem("q", 0, 2))
	// Empty lists are lists, and texts are bytes of any kind.
	checkTreeOk(t, true, impl.Item{Kind: impl.ItPage, Up: -1, Kids: []int{}, Attrs: []impl.Attr{}})
	checkTreeOk(t, true, pageItem(1), impl.Item{Kind: impl.ItText, Text: "\xff\r\x00", Attrs: []impl.Attr{}, Kids: []int{}})
	checkTreeOk(t, true, pageItem(1), tagItem(" \xff", 0))
}

func TestTreeOkOfHowMany(t *testing.T) {
	checkTreeOk(t, false)
	checkTreeOk(t, true, deepTree(1)...)
	for _, made := range []func(int) []impl.Item{deepTree, flatTree} {
		for many, want := range map[int]bool{2999: true, 3000: true, 3001: false, 3002: false, 6000: false} {
			if got := impl.TreeOk(made(many)); got != want {
				t.Errorf("TreeOk of %d items = %v", many, got)
			}
		}
	}
}

func TestTreeOkOfTheFirstItem(t *testing.T) {
	for _, up := range []int{0, 1, -2, 2, 1 << 40, -1 << 63} {
		first := pageItem(1)
		first.Up = up
		checkTreeOk(t, false, first, tagItem("p", 0))
		checkTreeOk(t, false, impl.Item{Kind: impl.ItPage, Up: up})
	}
	checkTreeOk(t, false, tagItem("p", -1))
	checkTreeOk(t, false, textItem("p", -1))
	checkTreeOk(t, false, noteItem("p", -1))
	checkTreeOk(t, false, kindItem("p", -1))
	checkTreeOk(t, false, impl.Item{})
	checkTreeOk(t, false, impl.Item{Up: -1})
	checkTreeOk(t, false, impl.Item{Kind: 6, Up: -1})
	checkTreeOk(t, false, tagItem("p", 1), pageItem(0))
	checkTreeOk(t, false, tagItem("p", -1, 1), tagItem("q", 0))
	// Another page.
	checkTreeOk(t, false, pageItem(), pageItem())
	checkTreeOk(t, false, pageItem(1), impl.Item{Kind: impl.ItPage, Up: 0})
	checkTreeOk(t, false, pageItem(1), tagItem("p", 0, 2), impl.Item{Kind: impl.ItPage, Up: 1})
	// The first one among Kids.
	checkTreeOk(t, false, pageItem(0))
	checkTreeOk(t, false, pageItem(1), tagItem("p", 0, 0))
	checkTreeOk(t, false, impl.Item{Kind: impl.ItPage, Up: 0, Kids: []int{0}})
	checkTreeOk(t, false, impl.Item{Kind: impl.ItPage, Up: 1, Kids: []int{1}}, tagItem("p", 0, 0))
	// The document says nothing of what else the first one has.
	checkTreeOk(t, true, impl.Item{Kind: impl.ItPage, Up: -1, Name: "n", Text: "t", Space: 7, Attrs: attrsOf("a", "1", "a", "2")})
}

func TestTreeOkOfUpsAndKids(t *testing.T) {
	for _, up := range []int{-1, -2, 2, 3, 1 << 40, -1 << 63, 1<<63 - 1} {
		checkTreeOk(t, false, pageItem(1), tagItem("p", up))
		checkTreeOk(t, false, pageItem(), tagItem("p", up))
		checkTreeOk(t, false, pageItem(up))
		checkTreeOk(t, false, pageItem(1, up), tagItem("p", 0))
		checkTreeOk(t, false, pageItem(1), tagItem("p", 0, up))
	}
	// Up of what may have no Kids.
	for _, it := range itemsOf(textItem("x", 0), noteItem("x", 0), kindItem("x", 0)) {
		checkTreeOk(t, true, pageItem(1), it)
		checkTreeOk(t, false, pageItem(1), it, textItem("y", 1))
		checkTreeOk(t, false, pageItem(1, 2), it, textItem("y", 1))
		it.Kids = []int{2}
		checkTreeOk(t, false, pageItem(1), it, textItem("y", 1))
		checkTreeOk(t, false, pageItem(1, 2), it, textItem("y", 0))
		it.Kids = []int{1}
		checkTreeOk(t, false, pageItem(1), it)
		it.Kids = []int{0}
		checkTreeOk(t, false, pageItem(1), it)
	}
	// Twice, or not at all.
	checkTreeOk(t, false, pageItem(1, 1), tagItem("p", 0))
	checkTreeOk(t, false, pageItem(1, 2, 1), tagItem("p", 0), textItem("x", 0))
	checkTreeOk(t, false, pageItem(1), tagItem("p", 0, 2, 2), textItem("x", 1))
	checkTreeOk(t, false, pageItem(), tagItem("p", 0))
	checkTreeOk(t, false, pageItem(1), tagItem("p", 0), textItem("x", 1))
	checkTreeOk(t, false, pageItem(2), tagItem("p", 0), textItem("x", 0))
	checkTreeOk(t, false, pageItem(1, 1), tagItem("p", 0), tagItem("q", 0))
	// Up and Kids say otherwise.
	checkTreeOk(t, false, pageItem(1, 2), tagItem("p", 0), textItem("x", 1))
	checkTreeOk(t, false, pageItem(1), tagItem("p", 0, 2), textItem("x", 0))
	checkTreeOk(t, false, pageItem(1, 2), tagItem("p", 0, 2), textItem("x", 0))
	checkTreeOk(t, false, pageItem(1, 2), tagItem("p", 0, 2), textItem("x", 1))
	checkTreeOk(t, false, pageItem(1), tagItem("p", 0, 1))
}

func TestTreeOkOfItemsThatComeToNobody(t *testing.T) {
	checkTreeOk(t, false, pageItem(), tagItem("p", 1, 1))
	checkTreeOk(t, false, pageItem(), tagItem("p", 2, 2), tagItem("q", 1, 1))
	checkTreeOk(t, false, pageItem(1), tagItem("p", 0), tagItem("q", 3, 3), tagItem("r", 2, 2))
	checkTreeOk(t, false, pageItem(), tagItem("p", 3, 2), tagItem("q", 1, 3), tagItem("r", 2, 1))
	checkTreeOk(t, false, pageItem(), tagItem("p", 1, 2, 1), textItem("x", 1))
	checkTreeOk(t, false, pageItem(), tagItem("p", 2, 2, 3), tagItem("q", 1, 1), textItem("x", 1))
	// Many, that all but the first one go round.
	list := deepTree(3000)
	list[0].Kids, list[1].Up, list[2999].Kids = nil, 2999, []int{1}
	if impl.TreeOk(list) {
		t.Error("items that go round are a tree")
	}
	if impl.Under(list, 0, 7) || !impl.Under(list, 6, 7) || !impl.Under(list, 2999, 1) {
		t.Error("Under of items that go round")
	}
}

func TestTreeOkOfTags(t *testing.T) {
	with := func(change func(it *impl.Item)) []impl.Item {
		it := tagItem("p", 0)
		change(&it)
		return itemsOf(pageItem(1), it)
	}
	for _, space := range []int{0, 1, 2, -1, 3, 4, 1 << 40, -1 << 63, 1 << 32, 1<<32 + 1} {
		checkTreeOk(t, space >= 0 && space <= 2, with(func(it *impl.Item) { it.Space = space })...)
	}
	checkTreeOk(t, false, with(func(it *impl.Item) { it.Text = "x" })...)
	checkTreeOk(t, false, with(func(it *impl.Item) { it.Text = " " })...)
	checkTreeOk(t, false, with(func(it *impl.Item) { it.Name = "" })...)
	for _, kind := range []int{0, -1, 6, 7, 1 << 40, 1<<32 + 2, -1 << 63} {
		checkTreeOk(t, false, with(func(it *impl.Item) { it.Kind = kind })...)
		checkTreeOk(t, false, pageItem(1), impl.Item{Kind: kind, Text: "x"})
		checkTreeOk(t, false, pageItem(1), impl.Item{Kind: kind})
	}
	for _, c := range []struct {
		pairs []string
		want  bool
	}{
		{[]string{"a", "1"}, true}, {[]string{"a", "1", "b", "1"}, true}, {[]string{"b", "", "a", "", "c", ""}, true}, {[]string{"a", "1", "A", "1"}, true}, {[]string{"a", "", "aa", ""}, true}, {[]string{"", ""}, true}, {[]string{"", "", "a", ""}, true},
		{[]string{"a", "1", "a", "1"}, false}, {[]string{"a", "1", "a", "2"}, false}, {[]string{"a", "1", "b", "", "a", ""}, false}, {[]string{"b", "", "a", "", "c", "", "a", ""}, false}, {[]string{"", "", "", ""}, false}, {[]string{"", "1", "", ""}, false}, {[]string{"", "", "a", "", "", "1"}, false},
	} {
		checkTreeOk(t, c.want, with(func(it *impl.Item) { it.Attrs = attrsOf(c.pairs...) })...)
	}
}

func TestTreeOkOfTextsNotesAndKinds(t *testing.T) {
	for _, it := range itemsOf(textItem("x", 0), noteItem("x", 0), kindItem("x", 0)) {
		named, attred, emptyAttr := it, it, it
		named.Name, attred.Attrs, emptyAttr.Attrs = "p", attrsOf("a", "b"), attrsOf("", "")
		checkTreeOk(t, true, pageItem(1), it)
		checkTreeOk(t, false, pageItem(1), named)
		checkTreeOk(t, false, pageItem(1), attred)
		checkTreeOk(t, false, pageItem(1), emptyAttr)
		for _, space := range []int{1, 2, 3, -1, 1 << 40} {
			spaced := it
			spaced.Space = space
			checkTreeOk(t, false, pageItem(1), spaced)
		}
	}
}

// listsOfItems visits every list of as many items behind a page with each of those Kids, of those Kinds, Ups and Kids.
func listsOfItems(many int, first [][]int, kinds []int, ups []int, kids [][]int, visit func(list []impl.Item)) {
	list := []impl.Item{{}}
	var next func()
	next = func() {
		if len(list) == many {
			visit(list)
			return
		}
		for _, kind := range kinds {
			for _, up := range ups {
				for _, own := range kids {
					it := impl.Item{Kind: kind, Up: up, Kids: own}
					if kind == impl.ItTag {
						it.Name = "p"
					}
					list = append(list, it)
					next()
					list = list[:len(list)-1]
				}
			}
		}
	}
	for _, own := range first {
		list[0] = pageItem(own...)
		next()
	}
}

// numberLists are all lists of those numbers of up to that length.
func numberLists(numbers []int, long int) [][]int {
	all := [][]int{nil}
	for from := 0; long > 0; long-- {
		end := len(all)
		for _, list := range all[from:end] {
			for _, k := range numbers {
				all = append(all, append(slices.Clone(list), k))
			}
		}
		from = end
	}
	return all
}

// TestTreesByTheRule holds TreeOk, Under and Order against the document's rule for all small lists, most of them wrong.
func TestTreesByTheRule(t *testing.T) {
	right := 0
	check := func(list []impl.Item) {
		ok := plainTreeOk(list)
		if got := impl.TreeOk(list); got != ok {
			t.Fatalf("TreeOk(%s) = %v", shownItems(list), got)
		}
		if !ok {
			return
		}
		right++
		if got, want := impl.Order(list), plainOrder(list, 0); !slices.Equal(got, want) {
			t.Fatalf("Order(%s) = %v, want %v", shownItems(list), got, want)
		}
	}
	kinds := []int{impl.ItPage, impl.ItTag, impl.ItNote}
	listsOfItems(2, numberLists([]int{-1, 0, 1, 2}, 3), kinds, []int{-2, -1, 0, 1, 2}, numberLists([]int{-1, 0, 1, 2}, 3), check)
	listsOfItems(3, numberLists([]int{0, 1, 2}, 2), kinds, []int{-1, 0, 1, 2, 3}, numberLists([]int{0, 1, 2}, 2), check)
	listsOfItems(4, numberLists([]int{1, 2, 3}, 3), []int{impl.ItTag}, []int{0, 1, 2, 3}, numberLists([]int{1, 2, 3}, 2), check)
	if right < 40 {
		t.Errorf("only %d lists were right", right)
	}
}

func TestUnder(t *testing.T) {
	list := treeToTry()
	for _, c := range []struct {
		i, k int
		want bool
	}{
		{0, 0, true}, {0, 1, true}, {0, 8, true}, {1, 1, true}, {1, 4, true}, {1, 7, true}, {4, 7, true}, {4, 4, true}, {7, 7, true}, {6, 6, true},
		{1, 0, false}, {4, 1, false}, {7, 4, false}, {1, 3, false}, {3, 1, false}, {1, 6, false}, {7, 8, false}, {2, 7, false}, {4, 2, false},
	} {
		if got := impl.Under(list, c.i, c.k); got != c.want {
			t.Errorf("Under(%d, %d) = %v", c.i, c.k, got)
		}
	}
	// Numbers that are no items' are under nobody, not even themselves.
	for _, n := range []int{-1, -2, 9, 10, 1 << 40, -1 << 63, 1<<63 - 1} {
		for i := range list {
			if impl.Under(list, n, i) || impl.Under(list, i, n) {
				t.Errorf("item %d and %d", i, n)
			}
		}
		if impl.Under(list, n, n) || impl.Under(nil, n, n) {
			t.Errorf("%d is under itself", n)
		}
	}
	if impl.Under(nil, 0, 0) {
		t.Error("of no items")
	}
	deep := deepTree(3000)
	if !impl.Under(deep, 0, 2999) || !impl.Under(deep, 2998, 2999) || impl.Under(deep, 2999, 2998) {
		t.Error("of a deep tree")
	}
}

// TestUnderByTheRule: Ups are gone by whatever the list is, and it ends where they go round.
func TestUnderByTheRule(t *testing.T) {
	check := func(list []impl.Item) {
		for i := -2; i <= len(list)+1; i++ {
			for k := -2; k <= len(list)+1; k++ {
				want := i >= 0 && plainUnder(list, i, k)
				if got := impl.Under(list, i, k); got != want {
					t.Fatalf("Under(%s, %d, %d) = %v", shownItems(list), i, k, got)
				}
			}
		}
	}
	listsOfItems(4, [][]int{nil}, []int{impl.ItTag, 0}, []int{-2, -1, 0, 1, 2, 3, 4}, [][]int{nil}, check)
	for up := -2; up < 3; up++ {
		check(itemsOf(impl.Item{Up: up}, impl.Item{Up: 0}, impl.Item{Up: 1}))
	}
}

// checkAdd holds Add against what the document says: the answer made by hand.
func checkAdd(t *testing.T, list []impl.Item, up, at int, it impl.Item) {
	t.Helper()
	want, number := copiedItems(list), len(list)
	bare := it
	bare.Up, bare.Kids = up, nil
	if plainTreeOk(list) && up >= 0 && up < len(list) {
		kids, place := want[up].Kids, at
		if at < 0 || at > len(kids) {
			place = len(kids)
		}
		want[up].Kids = slices.Insert(kids, place, number)
		want = append(want, bare)
	}
	if len(want) == len(list) || !plainTreeOk(want) {
		want, number = copiedItems(list), -1
	}
	got, n := impl.Add(list, up, at, it)
	if n != number || !sameItems(got, want) {
		t.Fatalf("Add(%s, %d, %d, %s) = %s, %d, want %s, %d", shownItems(list), up, at, shownItems(itemsOf(it)), shownItems(got), n, shownItems(want), number)
	}
}

func TestAdd(t *testing.T) {
	check := func(want []impl.Item, number int, list []impl.Item, up, at int, it impl.Item) {
		t.Helper()
		if got, n := impl.Add(list, up, at, it); n != number || !sameItems(got, want) {
			t.Errorf("Add(%s, %d, %d) = %s, %d, want %s, %d", shownItems(list), up, at, shownItems(got), n, shownItems(want), number)
		}
		checkAdd(t, list, up, at, it)
	}
	page := itemsOf(pageItem())
	for _, at := range []int{-1, 0, 1, -7, 7, 1 << 40, -1 << 63, 1<<63 - 1} {
		check(itemsOf(pageItem(1), tagItem("p", 0)), 1, page, 0, at, tagItem("p", 0))
	}
	two := itemsOf(pageItem(1, 2), tagItem("p", 0), textItem("x", 0))
	check(itemsOf(pageItem(3, 1, 2), two[1], two[2], noteItem("n", 0)), 3, two, 0, 0, noteItem("n", 5))
	check(itemsOf(pageItem(1, 3, 2), two[1], two[2], noteItem("n", 0)), 3, two, 0, 1, noteItem("n", 5))
	for _, at := range []int{2, 3, -1, -2, 100, 1<<63 - 1, -1 << 63} {
		check(itemsOf(pageItem(1, 2, 3), two[1], two[2], noteItem("n", 0)), 3, two, 0, at, noteItem("n", -1))
	}
	check(itemsOf(two[0], tagItem("p", 0, 3), two[2], textItem("", 1)), 3, two, 1, 0, textItem("", 1))
	// Kids of its own and its own Up are not taken.
	check(itemsOf(two[0], tagItem("p", 0, 3), two[2], tagItem("q", 1)), 3, two, 1, 0, tagItem("q", 0, 0, 1, 2, 3, -9))
	check(itemsOf(two[0], tagItem("p", 0, 3), two[2], textItem("y", 1)), 3, two, 1, 0, impl.Item{Kind: impl.ItText, Text: "y", Kids: []int{1}, Up: 77})
	// All of it comes.
	tag := impl.Item{Kind: impl.ItTag, Space: 2, Name: "mi", Attrs: attrsOf("b", "1", "a", "2")}
	check(itemsOf(pageItem(1), tag), 1, page, 0, 0, tag)
}

func TestAddWhatWouldNotBeRight(t *testing.T) {
	two := itemsOf(pageItem(1, 2, 3, 4), tagItem("p", 0), textItem("x", 0), noteItem("x", 0), kindItem("x", 0))
	refused := func(list []impl.Item, up int, it impl.Item) {
		t.Helper()
		for _, at := range []int{-1, 0, 1} {
			if got, n := impl.Add(list, up, at, it); n != -1 || !sameItems(got, list) {
				t.Errorf("Add(%s, %d, %d, %s) = %s, %d", shownItems(list), up, at, shownItems(itemsOf(it)), shownItems(got), n)
			}
		}
	}
	for _, up := range []int{2, 3, 4, 5, 6, -1, -2, 1 << 40, -1 << 63, 1<<63 - 1} {
		refused(two, up, textItem("y", 0))
		refused(two, up, tagItem("y", up))
	}
	for _, it := range itemsOf(
		pageItem(), impl.Item{Kind: impl.ItPage}, impl.Item{}, impl.Item{Kind: 6, Text: "x"}, impl.Item{Kind: -1}, impl.Item{Kind: 1 << 40},
		tagItem("", 0), impl.Item{Kind: impl.ItTag, Name: "p", Text: "x"}, impl.Item{Kind: impl.ItTag, Name: "p", Space: 3}, impl.Item{Kind: impl.ItTag, Name: "p", Space: -1}, impl.Item{Kind: impl.ItTag, Name: "p", Attrs: attrsOf("a", "1", "a", "2")},
		impl.Item{Kind: impl.ItText, Name: "p"}, impl.Item{Kind: impl.ItNote, Space: 1}, impl.Item{Kind: impl.ItKind, Attrs: attrsOf("a", "1")},
	) {
		refused(two, 0, it)
		refused(two, 1, it)
	}
	for _, wrong := range wrongTrees() {
		for up := -1; up <= len(wrong) && up < 12; up++ {
			refused(wrong, up, textItem("y", 0))
		}
	}
}

func TestAddUpToMaxItems(t *testing.T) {
	for _, made := range []func(int) []impl.Item{deepTree, flatTree} {
		list, n := impl.Add(made(impl.MaxItems-1), 0, 0, textItem("last", 0))
		if n != impl.MaxItems-1 || len(list) != impl.MaxItems || !impl.TreeOk(list) {
			t.Fatalf("the last item is %d of %d", n, len(list))
		}
		more, n := impl.Add(list, 0, 0, textItem("more", 0))
		if n != -1 || !sameItems(more, list) {
			t.Errorf("one more is %d of %d", n, len(more))
		}
		more, n = impl.Add(made(impl.MaxItems+1), 0, 0, textItem("more", 0))
		if n != -1 || !sameItems(more, made(impl.MaxItems+1)) {
			t.Errorf("one more behind too many is %d of %d", n, len(more))
		}
	}
}

// wrongTrees are lists that are not TreeOk, each for another reason.
func wrongTrees() [][]impl.Item {
	return [][]impl.Item{
		nil, {}, {{}}, {tagItem("p", -1)}, {textItem("x", -1)}, {{Kind: impl.ItPage}}, {pageItem(1)}, {pageItem(0)}, {pageItem(-1)},
		{pageItem(), textItem("x", 0)}, {pageItem(1, 1), textItem("x", 0)}, {pageItem(1), textItem("x", 1)}, {pageItem(1), textItem("x", -1)}, {pageItem(1), textItem("x", 9)}, {pageItem(1), pageItem()},
		{pageItem(1, 2), textItem("x", 0), textItem("y", 1)}, {pageItem(1), {Kind: impl.ItText, Text: "x", Kids: []int{2}}, textItem("y", 1)}, {pageItem(1), {Kind: impl.ItText, Text: "x", Name: "p"}}, {pageItem(1), {Kind: impl.ItText, Text: "x", Space: 1}}, {pageItem(1), {Kind: impl.ItText, Text: "x", Attrs: attrsOf("a", "")}},
		{pageItem(1), tagItem("", 0)}, {pageItem(1), {Kind: impl.ItTag, Name: "p", Text: "x"}}, {pageItem(1), {Kind: impl.ItTag, Name: "p", Space: 3}}, {pageItem(1), {Kind: impl.ItTag, Name: "p", Attrs: attrsOf("a", "", "a", "")}},
		{pageItem(3), tagItem("p", 2, 2), tagItem("q", 1, 1), textItem("x", 0)}, {pageItem(1), textItem("x", 0), tagItem("p", 2, 2)}, {pageItem(1), {Kind: 6, Text: "x"}}, {pageItem(1), {Kind: 0, Text: "x"}},
		flatTree(impl.MaxItems + 1),
	}
}

// faultyTrees are treeToTry with one fault, of each sort.
func faultyTrees() [][]impl.Item {
	var all [][]impl.Item
	for _, change := range []func(list []impl.Item){
		func(list []impl.Item) { list[0].Kind = impl.ItTag },
		func(list []impl.Item) { list[0].Up = 0 },
		func(list []impl.Item) { list[2].Kind = impl.ItPage },
		func(list []impl.Item) { list[2].Kind = 0 },
		func(list []impl.Item) { list[2].Kind = 6 },
		func(list []impl.Item) { list[2].Up = 4 },
		func(list []impl.Item) { list[2].Up = 5 },
		func(list []impl.Item) { list[2].Up = 2 },
		func(list []impl.Item) { list[2].Up = 99 },
		func(list []impl.Item) { list[1].Kids = []int{5, 2} },
		func(list []impl.Item) { list[1].Kids = []int{5, 2, 4, 2} },
		func(list []impl.Item) { list[1].Kids = []int{5, 2, 4, 99} },
		func(list []impl.Item) { list[1].Kids = []int{5, 2, 4, -1} },
		func(list []impl.Item) { list[1].Kids = []int{5, 2, 4, 6} },
		func(list []impl.Item) { list[2].Name = "p" },
		func(list []impl.Item) { list[2].Space = 1 },
		func(list []impl.Item) { list[2].Attrs = attrsOf("a", "") },
		func(list []impl.Item) { list[6].Name = "p" },
		func(list []impl.Item) { list[3].Space = 2 },
		func(list []impl.Item) { list[4].Text = "x" },
		func(list []impl.Item) { list[4].Name = "" },
		func(list []impl.Item) { list[4].Space = 3 },
		func(list []impl.Item) { list[4].Space = -1 },
		func(list []impl.Item) { list[1].Attrs = attrsOf("a", "1", "b", "2", "a", "1") },
		func(list []impl.Item) { list[1].Up, list[0].Kids, list[4].Kids = 4, []int{3, 6}, []int{8, 7, 1} },
	} {
		list := treeToTry()
		change(list)
		all = append(all, list)
	}
	return all
}

func TestFaultyTrees(t *testing.T) {
	for _, list := range faultyTrees() {
		checkTreeOk(t, false, list...)
	}
}

func TestOrderAndTexts(t *testing.T) {
	for _, c := range []struct {
		list  []impl.Item
		order []int
		texts string
	}{
		{itemsOf(pageItem()), []int{0}, ""},
		{treeToTry(), []int{0, 3, 1, 5, 2, 4, 8, 7, 6}, "badc"},
		{itemsOf(pageItem(2, 1), textItem("x", 0), textItem("y", 0)), []int{0, 2, 1}, "yx"},
		{itemsOf(pageItem(3, 4), textItem("x", 3), noteItem("n", 3), tagItem("p", 0, 2, 1), textItem("z", 0)), []int{0, 3, 2, 1, 4}, "xz"},
		{itemsOf(pageItem(1, 2, 3, 4), textItem("", 0), textItem("&\xff", 0), kindItem("k", 0), textItem("\r\n", 0)), []int{0, 1, 2, 3, 4}, "&\xff\r\n"},
		{itemsOf(impl.Item{Kind: impl.ItPage, Up: -1, Text: "page"}), []int{0}, ""},
	} {
		checkTreeOk(t, true, c.list...)
		if got := impl.Order(c.list); !slices.Equal(got, c.order) {
			t.Errorf("Order(%s) = %v, want %v", shownItems(c.list), got, c.order)
		}
		if got := impl.Texts(c.list); got != c.texts {
			t.Errorf("Texts(%s) = %q, want %q", shownItems(c.list), got, c.texts)
		}
	}
	for _, wrong := range wrongTrees() {
		checkTreeOk(t, false, wrong...)
		if got := impl.Order(wrong); len(got) != 0 {
			t.Errorf("Order(%s) = %v", shownItems(wrong), got)
		}
		if got := impl.Texts(wrong); got != "" {
			t.Errorf("Texts(%s) = %q", shownItems(wrong), got)
		}
	}
	deep, flat := deepTree(3000), flatTree(3000)
	if got := impl.Order(deep); len(got) != 3000 || !slices.IsSorted(got) {
		t.Error("order of a deep tree")
	}
	if got := impl.Order(flat); len(got) != 3000 || got[1] != 2999 || got[2999] != 1 || impl.Texts(flat) != strings.Repeat("x", 2999) {
		t.Error("order of a flat tree")
	}
}

func TestSameTree(t *testing.T) {
	check := func(want bool, a, b []impl.Item) {
		t.Helper()
		if impl.SameTree(a, b) != want || impl.SameTree(b, a) != want {
			t.Errorf("SameTree(%s, %s) is not %v", shownItems(a), shownItems(b), want)
		}
	}
	list := treeToTry()
	check(true, list, treeToTry())
	check(true, itemsOf(pageItem()), itemsOf(pageItem()))
	check(true, list, renumbered(list, []int{0, 8, 7, 6, 5, 4, 3, 2, 1}))
	check(true, list, renumbered(list, []int{0, 2, 3, 4, 5, 6, 7, 8, 1}))
	for k, change := range []func(list []impl.Item){
		func(list []impl.Item) { list[2].Kind = impl.ItNote },
		func(list []impl.Item) { list[6].Kind = impl.ItKind },
		func(list []impl.Item) { list[4].Space = 2 },
		func(list []impl.Item) { list[1].Name = "bodi" },
		func(list []impl.Item) { list[7].Text = "C" },
		func(list []impl.Item) { list[6].Text = "" },
		func(list []impl.Item) { list[1].Attrs = attrsOf("a", "2", "b", "1") },
		func(list []impl.Item) { list[1].Attrs = attrsOf("b", "1") },
		func(list []impl.Item) { list[1].Attrs = attrsOf("b", "1", "a", "3") },
		func(list []impl.Item) { list[4].Attrs = attrsOf("a", "") },
		func(list []impl.Item) { slices.Reverse(list[0].Kids) },
		func(list []impl.Item) { slices.Reverse(list[4].Kids) },
		func(list []impl.Item) { list[0].Text = "page" },
	} {
		other := treeToTry()
		change(other)
		if !impl.TreeOk(other) {
			t.Errorf("change %d is not right", k)
		}
		check(false, list, other)
	}
	// As many items, in one order, but others' Kids.
	check(false, itemsOf(pageItem(1), tagItem("p", 0, 2), tagItem("p", 1)), itemsOf(pageItem(1, 2), tagItem("p", 0), tagItem("p", 0)))
	check(false, itemsOf(pageItem(1), tagItem("p", 0, 2, 3), tagItem("p", 1), tagItem("p", 1)), itemsOf(pageItem(1), tagItem("p", 0, 2), tagItem("p", 1, 3), tagItem("p", 2)))
	// One is the beginning of the other.
	check(false, itemsOf(pageItem()), itemsOf(pageItem(1), textItem("x", 0)))
	check(false, itemsOf(pageItem(1), textItem("x", 0)), itemsOf(pageItem(1, 2), textItem("x", 0), textItem("y", 0)))
	// Where one is not right, not even it is like itself.
	for _, wrong := range wrongTrees() {
		check(false, wrong, wrong)
		check(false, wrong, itemsOf(pageItem()))
		check(false, wrong, itemsOf(pageItem(1), textItem("x", 0)))
	}
	check(true, deepTree(3000), deepTree(3000))
	check(false, deepTree(3000), flatTree(3000))
	check(false, deepTree(3000), deepTree(2999))
}

// TestTreesAreAlikeAsTheyAreTold: all small trees against each other, and each against itself by other numbers.
func TestTreesAreAlikeAsTheyAreTold(t *testing.T) {
	var all [][]impl.Item
	eachTree(4, func(list []impl.Item) {
		// Names and texts by number would tell every tree from every other.
		list = copiedItems(list)
		for i := range list {
			if list[i].Kind == impl.ItTag {
				list[i].Name = "p"
			}
			if list[i].Kind == impl.ItText {
				list[i].Text = "x"
			}
		}
		all = append(all, list)
	})
	for _, a := range all {
		for _, b := range all {
			if got, want := impl.SameTree(a, b), plainShape(a) == plainShape(b); got != want {
				t.Fatalf("SameTree(%s, %s) = %v", shownItems(a), shownItems(b), got)
			}
		}
	}
	eachTree(5, func(list []impl.Item) {
		eachOrder(len(list), func(to []int) {
			other := renumbered(list, to)
			if !impl.TreeOk(other) || !impl.SameTree(list, other) || impl.Texts(list) != impl.Texts(other) {
				t.Fatalf("%s and %s are not alike", shownItems(list), shownItems(other))
			}
			for k, i := range impl.Order(list) {
				if impl.Order(other)[k] != to[i] {
					t.Fatalf("Order(%s) = %v", shownItems(other), impl.Order(other))
				}
			}
		})
	})
}

// TestWhatIsAddedIsThere holds promise 6 for all small trees, at each place.
func TestWhatIsAddedIsThere(t *testing.T) {
	new := textItem("new", -1)
	eachTree(5, func(list []impl.Item) {
		for up := -1; up <= len(list); up++ {
			for at := -1; at <= len(list); at++ {
				checkAdd(t, list, up, at, new)
				checkAdd(t, list, up, at, tagItem("new", 0, 1))
				if up < 0 || up >= len(list) || list[up].Kind > impl.ItTag {
					continue
				}
				got, n := impl.Add(list, up, at, new)
				if n != len(list) || !impl.TreeOk(got) || !impl.Under(got, up, n) || !impl.Under(got, 0, n) || got[n].Up != up || got[n].Text != "new" {
					t.Fatalf("Add(%s, %d, %d) = %s, %d", shownItems(list), up, at, shownItems(got), n)
				}
				order := impl.Order(got)
				without := slices.DeleteFunc(slices.Clone(order), func(i int) bool { return i == n })
				if len(order) != n+1 || !slices.Equal(without, impl.Order(list)) || strings.Replace(impl.Texts(got), "new", "", 1) != impl.Texts(list) {
					t.Fatalf("Add(%s, %d, %d) is in order %v, with %q", shownItems(list), up, at, order, impl.Texts(got))
				}
			}
		}
	})
}

// roomyItems is a list with room behind it and behind each of its lists, with something in it.
func roomyItems(list []impl.Item) []impl.Item {
	var roomy []impl.Item
	for _, it := range list {
		attrs := append(append([]impl.Attr(nil), it.Attrs...), attrsOf("spare", "1", "room", "2")...)
		kids := append(append([]int(nil), it.Kids...), 77, 78)
		it.Attrs, it.Kids = attrs[:len(it.Attrs)], kids[:len(it.Kids)]
		roomy = append(roomy, it)
	}
	roomy = append(roomy, impl.Item{Kind: 77}, impl.Item{Kind: 78})
	return roomy[:len(list)]
}

// sameRoom tells whether two lists of roomyItems are alike, with what stands in the room behind them.
func sameRoom(a, b []impl.Item) bool {
	whole := func(list []impl.Item) []impl.Item {
		many := len(list)
		list = slices.Clone(list[:many+2])
		for k := range list[:many] {
			list[k].Attrs = list[k].Attrs[:len(list[k].Attrs)+2]
			list[k].Kids = list[k].Kids[:len(list[k].Kids)+2]
		}
		return list
	}
	return len(a) == len(b) && sameItems(whole(a), whole(b))
}

func TestTreesAreNotWrittenInto(t *testing.T) {
	for _, list := range append(wrongTrees(), treeToTry(), itemsOf(pageItem()), flatTree(9), deepTree(9)) {
		given, other := roomyItems(list), roomyItems(list)
		new := roomyItems(itemsOf(impl.Item{Kind: impl.ItTag, Name: "p", Attrs: attrsOf("b", "", "a", ""), Kids: []int{3, 2, 1}}))
		for up := -1; up <= len(list) && up < 12; up++ {
			for at := -1; at <= len(list) && at < 12; at++ {
				impl.Add(given, up, at, new[0])
				impl.Under(given, up, at)
			}
		}
		impl.TreeOk(given)
		impl.Order(given)
		impl.Texts(given)
		impl.SameTree(given, other)
		if !sameRoom(given, roomyItems(list)) || !sameRoom(other, roomyItems(list)) {
			t.Errorf("%s became %s", shownItems(list), shownItems(given))
		}
		if !sameRoom(new, roomyItems(itemsOf(impl.Item{Kind: impl.ItTag, Name: "p", Attrs: attrsOf("b", "", "a", ""), Kids: []int{3, 2, 1}}))) {
			t.Errorf("the item became %s", shownItems(new))
		}
	}
}

// spoilItem writes into all lists of an item, and into the room behind them.
func spoilItem(it impl.Item) {
	for k := range it.Attrs[:cap(it.Attrs)] {
		it.Attrs[:cap(it.Attrs)][k] = impl.Attr{Name: "spoilt", Value: "spoilt"}
	}
	for k := range it.Kids[:cap(it.Kids)] {
		it.Kids[:cap(it.Kids)][k] = -77
	}
}

func TestAddIsNewMemory(t *testing.T) {
	wrong := treeToTry()
	wrong[2].Name = "p"
	for _, made := range []func() []impl.Item{treeToTry, func() []impl.Item { return copiedItems(wrong) }} {
		for up := -1; up < 9; up++ {
			given := roomyItems(made())
			new := roomyItems(itemsOf(impl.Item{Kind: impl.ItTag, Name: "p", Attrs: attrsOf("b", "", "a", ""), Kids: []int{1}}))
			got, n := impl.Add(given, up, 0, new[0])
			want := copiedItems(got)
			// What came in is spoilt, and the answer must not feel it.
			for k := range given {
				spoilItem(given[k])
			}
			clear(given[:cap(given)])
			spoilItem(new[0])
			if !sameItems(got, want) {
				t.Fatalf("Add at %d, %d shares memory: %s, want %s", up, n, shownItems(got), shownItems(want))
			}
			// One item of the answer after the other is spoilt, and those behind it must not feel it.
			for k := range got {
				if !sameItems(got[k:], want[k:]) {
					t.Fatalf("items of Add at %d share memory: from %d on %s", up, k, shownItems(got[k:]))
				}
				spoilItem(got[k])
			}
		}
	}
	list := treeToTry()
	clear(impl.Order(list))
	if !sameItems(list, treeToTry()) || !slices.Equal(impl.Order(list), plainOrder(list, 0)) {
		t.Error("Order is not new memory")
	}
}
