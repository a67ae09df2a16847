package tests

import (
	"fmt"
	"slices"
	"testing"

	"loop.example/g00325/impl"
)

// pageToTry is a page with a cell of a table open, laid by hand.
func pageToTry() impl.Page {
	return impl.Page{
		Items: itemsOf(pageItem(1), tagItem("html", 0, 2), tagItem("body", 1, 3), tagItem("table", 2, 4), tagItem("tbody", 3, 5), tagItem("tr", 4, 6), tagItem("td", 5, 7), tagItem("b", 6, 8), textItem("x", 7)),
		Open:  []int{1, 2, 3, 4, 5, 6, 7},
		Forms: []int{-1, 7},
		Body:  2,
	}
}

// kindsPage is a page with items of all Kinds, its numbers not in the order of its tree:
// 1 html, 2 head, 3 body, 4 b, 5 text, 6 note, 7 kind, 8 p, 9 i with attributes, 10 svg.
func kindsPage() impl.Page {
	list := itemsOf(pageItem(7, 1), tagItem("html", 0, 2, 3), tagItem("head", 1), tagItem("body", 1, 8, 6), tagItem("b", 8, 9), textItem("x", 9), noteItem("n", 3), kindItem("html", 0), tagItem("p", 3, 10, 4), tagItem("i", 4, 5), tagItem("svg", 8))
	list[9].Attrs = attrsOf("b", "1", "a", "2")
	list[10].Space = 1
	return impl.Page{Items: list, Open: []int{1, 3, 8, 4, 9}, Forms: []int{4, -1, 9}, Head: 2, Body: 3}
}

// openPage is a page whose items are tags of those names, each the only kid of the one ahead, all of them open.
func openPage(names ...string) impl.Page {
	p := impl.Page{Items: itemsOf(pageItem())}
	for k, name := range names {
		p.Items[k].Kids = []int{k + 1}
		p.Items = append(p.Items, tagItem(name, k))
		p.Open = append(p.Open, k+1)
	}
	return p
}

// roomyNumbers is a list with room behind it, and something in that.
func roomyNumbers(list []int) []int {
	return append(slices.Clone(list), 77, 78)[:len(list)]
}

func roomyPage(p impl.Page) impl.Page {
	p.Items, p.Open, p.Forms = roomyItems(p.Items), roomyNumbers(p.Open), roomyNumbers(p.Forms)
	return p
}

func samePage(a, b impl.Page) bool {
	return sameItems(a.Items, b.Items) && slices.Equal(a.Open, b.Open) && slices.Equal(a.Forms, b.Forms) && a.Head == b.Head && a.Body == b.Body
}

func sameRoomOfPages(a, b impl.Page) bool {
	return samePage(a, b) && sameRoom(a.Items, b.Items) && slices.Equal(a.Open[:len(a.Open)+2], b.Open[:len(b.Open)+2]) && slices.Equal(a.Forms[:len(a.Forms)+2], b.Forms[:len(b.Forms)+2])
}

func copiedPage(p impl.Page) impl.Page {
	p.Items, p.Open, p.Forms = copiedItems(p.Items), slices.Clone(p.Open), slices.Clone(p.Forms)
	return p
}

func shownPage(p impl.Page) string {
	return fmt.Sprintf("open %v forms %v head %d body %d items %s", p.Open, p.Forms, p.Head, p.Body, shownItems(p.Items))
}

// nameOfOpen is the Name of the item that is number k of Open, and whether there is one.
func nameOfOpen(p impl.Page, k int) (string, bool) {
	if i := p.Open[k]; i >= 0 && i < len(p.Items) {
		return p.Items[i].Name, true
	}
	return "", false
}

// plainPageOk is the document's rule, but that it takes the tree for right.
func plainPageOk(p impl.Page) bool {
	tag := func(i int, names ...string) bool {
		return i >= 0 && i < len(p.Items) && p.Items[i].Kind == 2 && (len(names) == 0 || slices.Contains(names, p.Items[i].Name))
	}
	seen := map[int]int{}
	for _, i := range p.Open {
		seen[i]++
		if !tag(i) || seen[i] > 1 {
			return false
		}
	}
	for _, i := range p.Forms {
		if i != -1 && !tag(i, "a", "b", "i", "u", "em", "strong", "code", "small") {
			return false
		}
	}
	return len(p.Open) <= 40 && len(p.Forms) <= 120 && (p.Head == 0 || tag(p.Head, "head")) && (p.Body == 0 || tag(p.Body, "body"))
}

func plainInScope(p impl.Page, name string, list bool) bool {
	for k := len(p.Open) - 1; k >= 0; k-- {
		open, ok := nameOfOpen(p, k)
		if ok && open == name {
			return true
		}
		switch open {
		case "html", "table", "td", "th":
			return false
		case "ul", "ol":
			if list {
				return false
			}
		}
	}
	return false
}

func plainPopTo(p impl.Page, k int) impl.Page {
	p = copiedPage(p)
	if k < 0 || k >= len(p.Open) {
		return p
	}
	for at := len(p.Open) - 1; at >= k; at-- {
		if name, _ := nameOfOpen(p, at); name != "td" && name != "th" {
			continue
		}
		for len(p.Forms) > 0 {
			last := p.Forms[len(p.Forms)-1]
			p.Forms = p.Forms[:len(p.Forms)-1]
			if last == -1 {
				break
			}
		}
	}
	p.Open = p.Open[:k]
	return p
}

func plainOpenNamed(p impl.Page, name string) int {
	at := -1
	for k := range p.Open {
		if open, ok := nameOfOpen(p, k); ok && open == name {
			at = k
		}
	}
	return at
}

func checkPageOk(t *testing.T, want bool, p impl.Page) {
	t.Helper()
	if got := impl.PageOk(p); got != want {
		t.Errorf("PageOk(%s) = %v", shownPage(p), got)
	}
	if rule := plainTreeOk(p.Items) && plainPageOk(p); rule != want {
		t.Errorf("the rule has %v for %s", rule, shownPage(p))
	}
}

func checkPage(t *testing.T, what string, got, want impl.Page) {
	t.Helper()
	if !samePage(got, want) {
		t.Errorf("%s is %s, want %s", what, shownPage(got), shownPage(want))
	}
}

func TestPageToTry(t *testing.T) {
	p := pageToTry()
	checkPageOk(t, true, p)
	if got := impl.TableOpen(p); got != 2 || impl.InTable(p) {
		t.Errorf("TableOpen %d, InTable %v", got, impl.InTable(p))
	}
	for name, want := range map[string]bool{"b": true, "td": true, "p": false, "table": false, "tr": false, "tbody": false, "body": false, "html": false, "": false} {
		for _, list := range []bool{false, true} {
			if got := impl.InScope(p, name, list); got != want {
				t.Errorf("InScope(%q, %v) = %v", name, list, got)
			}
		}
	}
	cell := impl.PopName(p, "td")
	if !slices.Equal(cell.Open, []int{1, 2, 3, 4, 5}) || len(cell.Forms) != 0 || !impl.InTable(cell) || cell.Body != 2 || cell.Head != 0 || !sameItems(cell.Items, p.Items) {
		t.Errorf("PopName of td is %s", shownPage(cell))
	}
	checkPage(t, "PopTo of 9", impl.PopTo(p, 9), p)
	none := pageToTry()
	none.Open, none.Forms = nil, nil
	checkPage(t, "PopTo of 0", impl.PopTo(p, 0), none)
	b := pageToTry()
	b.Open = b.Open[:6]
	checkPage(t, "PopName of b", impl.PopName(p, "b"), b)
	checkPage(t, "PopName of p", impl.PopName(p, "p"), p)
}

func TestPageNew(t *testing.T) {
	want := impl.Page{Items: itemsOf(pageItem())}
	p := impl.PageNew()
	checkPage(t, "PageNew", p, want)
	checkPageOk(t, true, p)
	if len(p.Items) != 1 || impl.TableOpen(p) != -1 || impl.InTable(p) || impl.InScope(p, "html", false) {
		t.Error("something is open in a new page")
	}
	p.Items[0] = textItem("spoilt", 7)
	p.Head = 7
	checkPage(t, "PageNew of a second time", impl.PageNew(), want)
}

func TestPageOk(t *testing.T) {
	checkPageOk(t, true, kindsPage())
	for _, change := range []func(p *impl.Page){
		func(p *impl.Page) { p.Open = nil },
		func(p *impl.Page) { p.Open = []int{} },
		func(p *impl.Page) { p.Open = []int{9, 2, 10, 1} },
		func(p *impl.Page) { p.Open = []int{10} },
		func(p *impl.Page) { p.Forms = nil },
		func(p *impl.Page) { p.Forms = []int{-1} },
		func(p *impl.Page) { p.Forms = []int{-1, -1, -1} },
		func(p *impl.Page) { p.Forms = []int{4, 9, 4, -1, 4} },
		func(p *impl.Page) { p.Head = 0 },
		func(p *impl.Page) { p.Body = 0 },
		func(p *impl.Page) { p.Head, p.Body = 0, 0 },
	} {
		p := kindsPage()
		change(&p)
		checkPageOk(t, true, p)
	}
}

// noTags are the numbers of kindsPage that are no ItTag's.
var noTags = []int{0, 5, 6, 7, 11, 12, -2, -3, 1 << 40, -1 << 63, 1<<63 - 1, 1<<32 + 4}

func TestPageOkOfOpen(t *testing.T) {
	with := func(open ...int) impl.Page {
		p := kindsPage()
		p.Open = open
		return p
	}
	for _, i := range append([]int{-1}, noTags...) {
		checkPageOk(t, false, with(i))
		checkPageOk(t, false, with(i, 1, 3))
		checkPageOk(t, false, with(1, i, 3))
		checkPageOk(t, false, with(1, 3, i))
	}
	for _, i := range []int{1, 2, 3, 4, 8, 9, 10} {
		checkPageOk(t, true, with(i))
		checkPageOk(t, false, with(i, i))
	}
	checkPageOk(t, false, with(1, 3, 1))
	checkPageOk(t, false, with(1, 3, 8, 3))
	checkPageOk(t, false, with(3, 1, 8, 8))
}

func TestPageOkOfForms(t *testing.T) {
	with := func(forms ...int) impl.Page {
		p := kindsPage()
		p.Forms = forms
		return p
	}
	// Tags that are not Format: html, head, body, p, svg.
	for _, i := range append([]int{1, 2, 3, 8, 10}, noTags...) {
		checkPageOk(t, false, with(i))
		checkPageOk(t, false, with(i, -1, 9))
		checkPageOk(t, false, with(4, i, -1))
		checkPageOk(t, false, with(-1, 4, i))
	}
	for _, name := range listedTags() {
		p := openPage("p", name)
		p.Forms = []int{2}
		checkPageOk(t, slices.Contains([]string{"a", "b", "i", "u", "em", "strong", "code", "small"}, name), p)
	}
	for _, name := range []string{"B", "bb", "x", " b", "font"} {
		p := openPage("p", name)
		p.Forms = []int{2}
		checkPageOk(t, false, p)
	}
	// A name alone makes no tag.
	p := openPage("p")
	p.Items[0].Name, p.Forms = "b", []int{0}
	checkPageOk(t, false, p)
}

func TestPageOkOfHeadAndBody(t *testing.T) {
	for i := -3; i < 14; i++ {
		p := kindsPage()
		p.Head = i
		checkPageOk(t, i == 0 || i == 2, p)
		p = kindsPage()
		p.Body = i
		checkPageOk(t, i == 0 || i == 3, p)
	}
	for _, i := range []int{-1, -1 << 63, 1 << 40, 1<<63 - 1, 1 << 32, 1<<32 + 2, 1<<32 + 3} {
		p := kindsPage()
		p.Head = i
		checkPageOk(t, false, p)
		p = kindsPage()
		p.Body = i
		checkPageOk(t, false, p)
	}
	p := openPage("head", "body", "Head", "header", "bod")
	for i := 1; i <= 5; i++ {
		p.Head, p.Body = i, 0
		checkPageOk(t, i == 1, p)
		p.Head, p.Body = 0, i
		checkPageOk(t, i == 2, p)
	}
	// What they name need not be open.
	p.Head, p.Body, p.Open = 1, 2, nil
	checkPageOk(t, true, p)
}

func TestPageOkOfTrees(t *testing.T) {
	checkPageOk(t, false, impl.Page{})
	for _, list := range wrongTrees() {
		checkPageOk(t, false, impl.Page{Items: list})
	}
	for k, change := range []func(p *impl.Page){
		func(p *impl.Page) { p.Items[0].Up = 0 },
		func(p *impl.Page) { p.Items[5].Name = "b" },
		func(p *impl.Page) { p.Items[9].Attrs[1].Name = "b" },
		func(p *impl.Page) { p.Items[10].Space = 3 },
		func(p *impl.Page) { p.Items[8].Kids = []int{4} },
		func(p *impl.Page) { p.Items = p.Items[:10] },
	} {
		p := kindsPage()
		change(&p)
		if impl.PageOk(p) {
			t.Errorf("change %d is right", k)
		}
	}
}

func TestPageOkOfHowMany(t *testing.T) {
	full := func(open, forms int) impl.Page {
		var names []string
		for range open {
			names = append(names, "b")
		}
		p := openPage(append(names, "i")...)
		p.Open = p.Open[:open]
		for k := range forms {
			p.Forms = append(p.Forms, []int{-1, len(p.Items) - 1, -1}[k%3])
		}
		return p
	}
	if impl.MaxOpen != 40 {
		t.Errorf("MaxOpen = %d", impl.MaxOpen)
	}
	for open := 37; open <= 44; open++ {
		checkPageOk(t, open <= 40, full(open, 0))
		checkPageOk(t, open <= 40, full(open, 120))
	}
	for forms := 36; forms <= 124; forms++ {
		checkPageOk(t, forms <= 120, full(0, forms))
		checkPageOk(t, forms <= 120, full(40, forms))
	}
	checkPageOk(t, false, full(41, 121))
	checkPageOk(t, false, full(300, 1000))
	// All marks, and one item again and again.
	for _, i := range []int{-1, 1} {
		for many, want := range map[int]bool{119: true, 120: true, 121: false} {
			p := openPage("b")
			p.Forms = slices.Repeat([]int{i}, many)
			checkPageOk(t, want, p)
		}
	}
	big := impl.Page{Items: deepTree(3000), Open: []int{2999}}
	if !impl.PageOk(big) || impl.PageOk(impl.Page{Items: deepTree(3001), Open: []int{2999}}) {
		t.Error("PageOk of MaxItems")
	}
}

func TestInScope(t *testing.T) {
	for _, c := range []struct {
		names       []string
		name        string
		plain, list bool
	}{
		{nil, "p", false, false},
		{[]string{"p"}, "p", true, true},
		{[]string{"p"}, "q", false, false},
		{[]string{"p", "b", "i"}, "p", true, true},
		// A name behind a wall, and a wall's own name.
		{[]string{"p", "td"}, "p", false, false},
		{[]string{"p", "th"}, "p", false, false},
		{[]string{"p", "table"}, "p", false, false},
		{[]string{"p", "html"}, "p", false, false},
		{[]string{"p", "td", "b"}, "p", false, false},
		{[]string{"td", "p"}, "p", true, true},
		{[]string{"p", "td", "p"}, "p", true, true},
		{[]string{"td"}, "td", true, true},
		{[]string{"th", "b"}, "th", true, true},
		{[]string{"table", "b"}, "table", true, true},
		{[]string{"html", "body"}, "html", true, true},
		{[]string{"th", "td"}, "th", false, false},
		{[]string{"td", "th"}, "td", false, false},
		{[]string{"table", "td"}, "table", false, false},
		{[]string{"html", "table"}, "html", false, false},
		// Walls they are, parts of a table without walls they are not.
		{[]string{"p", "tr"}, "p", true, true},
		{[]string{"p", "tbody"}, "p", true, true},
		{[]string{"p", "body"}, "p", true, true},
		{[]string{"p", "div", "pre", "h1", "form", "section"}, "p", true, true},
		// Lists.
		{[]string{"li", "ul"}, "li", true, false},
		{[]string{"li", "ol"}, "li", true, false},
		{[]string{"li", "ul", "b"}, "li", true, false},
		{[]string{"ul", "li", "b"}, "li", true, true},
		{[]string{"ol", "li"}, "li", true, true},
		{[]string{"li", "ul", "li"}, "li", true, true},
		{[]string{"ul"}, "ul", true, true},
		{[]string{"ol"}, "ol", true, true},
		{[]string{"ul", "ol"}, "ul", true, false},
		{[]string{"ol", "ul"}, "ol", true, false},
		{[]string{"ul", "li"}, "ul", true, true},
		{[]string{"li", "ul", "td"}, "li", false, false},
		{[]string{"li", "td", "ul"}, "li", false, false},
		// Names are told byte by byte.
		{[]string{"p", "TD"}, "p", true, true},
		{[]string{"li", "UL"}, "li", true, true},
		{[]string{"p"}, "P", false, false},
		{[]string{"p"}, "", false, false},
		{[]string{"pp"}, "p", false, false},
	} {
		p := openPage(c.names...)
		if got := impl.InScope(p, c.name, false); got != c.plain {
			t.Errorf("InScope(%v, %q, false) = %v", c.names, c.name, got)
		}
		if got := impl.InScope(p, c.name, true); got != c.list {
			t.Errorf("InScope(%v, %q, true) = %v", c.names, c.name, got)
		}
	}
	// What is in the tree but not open counts for nothing; what counts is the order in Open.
	p := openPage("p", "td", "b")
	p.Open = []int{1, 3}
	if !impl.InScope(p, "p", false) || impl.InScope(p, "td", false) {
		t.Error("InScope of what is not open")
	}
	p.Open = []int{2, 1}
	if !impl.InScope(p, "p", false) || !impl.InScope(p, "td", false) {
		t.Error("InScope of what is open in another order")
	}
	// Walls are told by name, in any space.
	p = openPage("p", "td")
	p.Items[2].Space = 1
	if impl.InScope(p, "p", false) {
		t.Error("InScope of another space")
	}
}

func TestPopToOfMarks(t *testing.T) {
	// Items of the page: 1 is i, 2 is b, then those that are open.
	page := func(names []string, forms ...int) impl.Page {
		p := openPage(append([]string{"i", "b"}, names...)...)
		p.Open, p.Forms = p.Open[2:], forms
		return p
	}
	for _, c := range []struct {
		names []string
		forms []int
		k     int
		want  []int
	}{
		{[]string{"td"}, nil, 0, nil},
		{[]string{"td"}, []int{1, 2}, 0, nil},
		{[]string{"th"}, []int{1, 2}, 0, nil},
		{[]string{"td"}, []int{-1}, 0, nil},
		{[]string{"td"}, []int{-1, 1, 2}, 0, nil},
		{[]string{"td"}, []int{1, -1, 2}, 0, []int{1}},
		{[]string{"th"}, []int{1, -1, 2}, 0, []int{1}},
		{[]string{"td"}, []int{1, 2, -1}, 0, []int{1, 2}},
		{[]string{"td"}, []int{1, -1, -1}, 0, []int{1, -1}},
		{[]string{"td"}, []int{-1, 1, -1, 2, 1}, 0, []int{-1, 1}},
		{[]string{"td", "th"}, []int{-1, 1, -1, 2, 1}, 0, nil},
		{[]string{"td", "th"}, []int{1, -1, 1, -1, 2, 1}, 0, []int{1}},
		{[]string{"td", "th"}, []int{1, -1, 1, -1, 2, 1}, 1, []int{1, -1, 1}},
		{[]string{"td", "th"}, []int{1, -1, 2}, 0, nil},
		{[]string{"th", "td"}, []int{-1, -1, -1}, 0, []int{-1}},
		{[]string{"td", "table", "tbody", "tr", "td", "b"}, []int{1, -1, 1, -1, 2}, 1, []int{1, -1, 1}},
		{[]string{"td", "table", "tbody", "tr", "td", "b"}, []int{1, -1, 1, -1, 2}, 0, []int{1}},
		{[]string{"td", "table", "tbody", "tr", "td", "b"}, []int{1, -1, 1, -1, 2}, 4, []int{1, -1, 1}},
		{[]string{"td", "table", "tbody", "tr", "td", "b"}, []int{1, -1, 1, -1, 2}, 5, []int{1, -1, 1, -1, 2}},
		// Others take nothing, not even walls.
		{[]string{"table"}, []int{1, -1, 2}, 0, []int{1, -1, 2}},
		{[]string{"html", "body", "tbody", "tr", "b", "i", "p", "TD"}, []int{1, -1, 2}, 0, []int{1, -1, 2}},
		{[]string{"td", "b"}, []int{-1, 2}, 1, []int{-1, 2}},
	} {
		p := page(c.names, c.forms...)
		want := copiedPage(p)
		want.Open, want.Forms = want.Open[:c.k], c.want
		got := impl.PopTo(p, c.k)
		checkPage(t, fmt.Sprintf("PopTo(%v %v, %d)", c.names, c.forms, c.k), got, want)
		checkPageOk(t, true, got)
	}
}

func TestPopToOfHowMany(t *testing.T) {
	p := openPage("html", "body", "p", "b", "i")
	p.Forms, p.Body = []int{4, 5}, 2
	for _, k := range []int{-1, -2, 5, 6, 7, 40, 41, 1 << 40, -1 << 63, 1<<63 - 1} {
		checkPage(t, fmt.Sprintf("PopTo of %d", k), impl.PopTo(p, k), p)
	}
	for k := 0; k < 5; k++ {
		want := copiedPage(p)
		want.Open = want.Open[:k]
		checkPage(t, fmt.Sprintf("PopTo of %d", k), impl.PopTo(p, k), want)
	}
	for _, k := range []int{-1, 0, 1} {
		checkPage(t, fmt.Sprintf("PopTo of %d of a new page", k), impl.PopTo(impl.PageNew(), k), impl.PageNew())
		checkPage(t, fmt.Sprintf("PopTo of %d of the zero Page", k), impl.PopTo(impl.Page{}, k), impl.Page{})
	}
	cells := openPage(slices.Repeat([]string{"td"}, 40)...)
	cells.Forms = slices.Repeat([]int{-1}, 120)
	checkPageOk(t, true, cells)
	for k := 0; k < 40; k++ {
		if got := impl.PopTo(cells, k); len(got.Open) != k || len(got.Forms) != 80+k {
			t.Errorf("PopTo of %d leaves %d open, and %d Forms", k, len(got.Open), len(got.Forms))
		}
	}
}

func TestPopNameAndTables(t *testing.T) {
	p := openPage("html", "body", "table", "tbody", "tr", "td", "table", "p", "b", "p", "i")
	p.Forms = []int{-1, 9, 11}
	for name, want := range map[string]int{"html": 0, "body": 1, "table": 6, "tbody": 3, "tr": 4, "td": 5, "p": 9, "b": 8, "i": 10, "": -1, "q": -1, "TD": -1, "th": -1} {
		popped := copiedPage(p)
		if want >= 0 {
			popped.Open = popped.Open[:want]
		}
		if want >= 0 && want <= 5 {
			popped.Forms = nil
		}
		checkPage(t, "PopName of "+name, impl.PopName(p, name), popped)
	}
	if got := impl.TableOpen(p); got != 6 {
		t.Errorf("TableOpen = %d", got)
	}
	for want, at := range map[int]int{6: 7, 2: 6, -1: 2} {
		if got := impl.TableOpen(impl.PopTo(p, at)); got != want {
			t.Errorf("TableOpen of the first %d = %d, want %d", at, got, want)
		}
	}
	// The place is one in Open, no number of an item.
	p.Open = []int{11, 10, 3, 8}
	if got := impl.TableOpen(p); got != 2 {
		t.Errorf("TableOpen = %d", got)
	}
	p.Open = []int{3}
	if got := impl.TableOpen(p); got != 0 {
		t.Errorf("TableOpen = %d", got)
	}
	for _, name := range listedTags() {
		want := name == "table" || name == "tbody" || name == "tr"
		if impl.InTable(openPage("p", name)) != want || impl.InTable(openPage("table", name)) != want || impl.InTable(openPage("tr", "p", name)) != want {
			t.Errorf("InTable of %s is not %v", name, want)
		}
		if impl.InTable(openPage("table", "tr", name, "b")) {
			t.Errorf("InTable of what is in a %s", name)
		}
	}
	for _, name := range []string{"Table", "TR", "t", "tabl", "tables", "tfoot", "thead", "caption"} {
		if impl.InTable(openPage("table", name)) || impl.TableOpen(openPage("p", name)) != -1 {
			t.Errorf("a table of %s", name)
		}
	}
}

// checkOpen holds all of the chapter's functions but PageOk against the document's rule.
func checkOpen(t *testing.T, p impl.Page, names ...string) {
	t.Helper()
	for _, name := range names {
		for _, list := range []bool{false, true} {
			if got, want := impl.InScope(p, name, list), plainInScope(p, name, list); got != want {
				t.Fatalf("InScope(%s, %q, %v) = %v", shownPage(p), name, list, got)
			}
		}
		want := copiedPage(p)
		if at := plainOpenNamed(p, name); at >= 0 {
			want = plainPopTo(p, at)
		}
		if got := impl.PopName(p, name); !samePage(got, want) {
			t.Fatalf("PopName(%s, %q) = %s", shownPage(p), name, shownPage(got))
		}
	}
	for k := -2; k <= len(p.Open)+1; k++ {
		if got, want := impl.PopTo(p, k), plainPopTo(p, k); !samePage(got, want) {
			t.Fatalf("PopTo(%s, %d) = %s", shownPage(p), k, shownPage(got))
		}
	}
	if got, want := impl.TableOpen(p), plainOpenNamed(p, "table"); got != want {
		t.Fatalf("TableOpen(%s) = %d", shownPage(p), got)
	}
	within := false
	if last := len(p.Open) - 1; last >= 0 {
		name, _ := nameOfOpen(p, last)
		within = name == "table" || name == "tbody" || name == "tr"
	}
	if got := impl.InTable(p); got != within {
		t.Fatalf("InTable(%s) = %v", shownPage(p), got)
	}
}

// checkPopped holds promise 8: what is popped is no more open, what is not popped is, and the page stays right.
func checkPopped(t *testing.T, p impl.Page, got impl.Page, k int) {
	t.Helper()
	if !impl.PageOk(got) || !slices.Equal(got.Open, p.Open[:k]) || !sameItems(got.Items, p.Items) || got.Head != p.Head || got.Body != p.Body {
		t.Fatalf("%s of %s is popped to %d", shownPage(got), shownPage(p), k)
	}
	for _, gone := range p.Open[k:] {
		if slices.Contains(got.Open, gone) {
			t.Fatalf("%d is still open in %s", gone, shownPage(got))
		}
	}
	if len(got.Forms) > len(p.Forms) || !slices.Equal(got.Forms, p.Forms[:len(got.Forms)]) {
		t.Fatalf("Forms of %s came to %v", shownPage(p), got.Forms)
	}
}

// TestWhatIsPoppedIsNoMoreOpen holds promise 8, and the rules, for all short lists of open tags.
func TestWhatIsPoppedIsNoMoreOpen(t *testing.T) {
	names := []string{"p", "b", "td", "th", "table", "tr", "html", "ul", "ol", "li"}
	for _, picks := range numberLists([]int{0, 1, 2, 3, 4, 5, 6, 7, 8, 9}, 4) {
		var open []string
		for _, k := range picks {
			open = append(open, names[k])
		}
		p := openPage(open...)
		checkOpen(t, p, append(open, "p", "td", "ul", "q", "")...)
		for k := range p.Open {
			checkPopped(t, p, impl.PopTo(p, k), k)
			if at := plainOpenNamed(p, open[k]); at >= k {
				checkPopped(t, p, impl.PopName(p, open[k]), at)
			}
		}
	}
}

// TestFormsGoWithTheirCell holds promise 8 and the rule of marks for all short lists of Forms.
func TestFormsGoWithTheirCell(t *testing.T) {
	names := []string{"td", "th", "tr", "i"}
	for _, picks := range numberLists([]int{0, 1, 2, 3}, 3) {
		open := []string{"b"}
		for _, k := range picks {
			open = append(open, names[k])
		}
		for _, forms := range numberLists([]int{-1, 1}, 6) {
			p := openPage(open...)
			p.Forms = forms
			checkOpen(t, p, "td", "th", "b")
			for k := range p.Open {
				checkPopped(t, p, impl.PopTo(p, k), k)
			}
		}
	}
}

// wrongPages are pages that are not PageOk, each for another reason.
func wrongPages() []impl.Page {
	pages := []impl.Page{
		{}, {Open: []int{0}}, {Open: []int{-1}, Forms: []int{-1}}, {Open: []int{1, 2}, Forms: []int{3}, Head: 4, Body: 5}, {Head: -1, Body: 1 << 40},
	}
	for _, list := range wrongTrees() {
		if len(list) < 20 {
			pages = append(pages, impl.Page{Items: list, Open: []int{0, 1, 2, 3}, Forms: []int{1, -1, 2}, Head: 1, Body: 2})
		}
	}
	for _, i := range append([]int{-1}, noTags...) {
		for at := 0; at <= 5; at++ {
			p := kindsPage()
			p.Open = slices.Insert(p.Open, at, i)
			pages = append(pages, p)
		}
	}
	for _, change := range []func(p *impl.Page){
		func(p *impl.Page) { p.Open = []int{6, 6, 6, 7, 6} },
		func(p *impl.Page) { p.Open = []int{1, 99, 3, -1, 99} },
		func(p *impl.Page) { p.Open = slices.Repeat([]int{6, 99}, 30) },
		func(p *impl.Page) { p.Forms = []int{99, -1, -2, 8, -1 << 63} },
		func(p *impl.Page) { p.Forms = []int{3, 3} },
		func(p *impl.Page) { p.Forms = slices.Repeat([]int{7, -1}, 70) },
		func(p *impl.Page) { p.Head = 99 },
		func(p *impl.Page) { p.Head = 2 },
		func(p *impl.Page) { p.Body = -1 },
		func(p *impl.Page) { p.Body = 1 },
		func(p *impl.Page) { p.Items[6].Kind = impl.ItText },
		func(p *impl.Page) { p.Items[6].Kind = 0 },
		func(p *impl.Page) { p.Items[6].Up = 6 },
		func(p *impl.Page) { p.Items[3].Name = "" },
	} {
		p := pageToTry()
		change(&p)
		pages = append(pages, p)
	}
	return pages
}

func TestWrongPages(t *testing.T) {
	for _, p := range wrongPages() {
		checkPageOk(t, false, p)
		checkOpen(t, p, "p", "b", "td", "table", "html", "body", "li", "head", "q", "")
	}
	// A number that is no item's is of no name, and stops nothing.
	p := openPage("p", "b")
	p.Open = []int{1, 99, -1, 2, 1 << 40}
	if !impl.InScope(p, "p", true) || !impl.InScope(p, "b", true) || impl.InScope(p, "", true) || impl.TableOpen(p) != -1 || impl.InTable(p) {
		t.Error("numbers that are no items")
	}
	checkPage(t, "PopName of the empty name", impl.PopName(p, ""), p)
}

// pagesToTry are right and wrong pages, with what makes PopTo and PopName do something, and nothing.
func pagesToTry() []impl.Page {
	tables := openPage("html", "body", "td", "b", "th", "p")
	tables.Forms = []int{4, -1, 4, -1}
	pages := append(wrongPages(), pageToTry(), kindsPage(), impl.PageNew(), tables, openPage("p"))
	roomOnly := kindsPage()
	roomOnly.Open, roomOnly.Forms = nil, nil
	return append(pages, roomOnly)
}

func TestPagesAreNotWrittenInto(t *testing.T) {
	for _, p := range pagesToTry() {
		given := roomyPage(p)
		impl.PageOk(given)
		impl.TableOpen(given)
		impl.InTable(given)
		for _, name := range []string{"", "td", "b", "p", "html", "q"} {
			impl.InScope(given, name, false)
			impl.InScope(given, name, true)
			impl.PopName(given, name)
		}
		for k := -1; k <= len(p.Open)+1; k++ {
			impl.PopTo(given, k)
		}
		if !sameRoomOfPages(given, roomyPage(p)) {
			t.Errorf("%s became %s", shownPage(p), shownPage(given))
		}
	}
}

// spoilNumbers writes into a list and into the room behind it.
func spoilNumbers(list []int) {
	for k := range list[:cap(list)] {
		list[:cap(list)][k] = -99
	}
}

// spoilPage writes into all memory of a page, and into the room behind it.
func spoilPage(p impl.Page) {
	for k := range p.Items {
		spoilItem(p.Items[k])
	}
	clear(p.Items[:cap(p.Items)])
	spoilNumbers(p.Open)
	spoilNumbers(p.Forms)
}

func checkNewPage(t *testing.T, p impl.Page, told func(given impl.Page) impl.Page) {
	t.Helper()
	given := roomyPage(p)
	got := told(given)
	want := copiedPage(got)
	spoilPage(given)
	if !samePage(got, want) {
		t.Fatalf("the answer to %s shares memory with it", shownPage(p))
	}
	// And the other way: what is done to the answer is not felt by what came in.
	given = roomyPage(p)
	spoilPage(told(given))
	if !sameRoomOfPages(given, roomyPage(p)) {
		t.Fatalf("%s is felt in %s", shownPage(given), shownPage(p))
	}
	// One list of the answer after the other is spoilt, and the others must not feel it.
	spoilNumbers(got.Open)
	if !sameItems(got.Items, want.Items) || !slices.Equal(got.Forms, want.Forms) {
		t.Fatalf("Open of the answer to %s shares memory with its other lists", shownPage(p))
	}
	spoilNumbers(got.Forms)
	for k := range got.Items {
		if !sameItems(got.Items[k:], want.Items[k:]) {
			t.Fatalf("items of the answer to %s share memory", shownPage(p))
		}
		spoilItem(got.Items[k])
	}
}

func TestPagesAreNewMemory(t *testing.T) {
	for _, p := range pagesToTry() {
		for k := -1; k <= len(p.Open)+1; k++ {
			checkNewPage(t, p, func(given impl.Page) impl.Page { return impl.PopTo(given, k) })
		}
		for _, name := range []string{"", "td", "b", "p", "html", "q"} {
			checkNewPage(t, p, func(given impl.Page) impl.Page { return impl.PopName(given, name) })
		}
	}
}
