package tests

import (
	"fmt"
	"slices"
	"strings"
	"testing"

	"loop.example/g00325/impl"
)

// tablePage is a page with a table open, laid by hand: 1 html, 2 body, in it 3 p with a text and 4 table.
func tablePage() impl.Page {
	return impl.Page{
		Items: itemsOf(pageItem(1), tagItem("html", 0, 2), tagItem("body", 1, 3, 4), tagItem("p", 2, 5), tagItem("table", 2), textItem("a", 3)),
		Open:  []int{1, 2, 4},
		Body:  2,
	}
}

// formPage is a page with a format to be opened again, laid by hand: 1 html, 2 body, in it 3 p with 4 b, and 5 p.
func formPage() impl.Page {
	return impl.Page{
		Items: itemsOf(pageItem(1), tagItem("html", 0, 2), tagItem("body", 1, 3, 5), tagItem("p", 2, 4), tagItem("b", 3), tagItem("p", 2)),
		Open:  []int{1, 2, 5},
		Forms: []int{4},
		Body:  2,
	}
}

// amongPage is a page whose body, item 2, has those items, and in the last `table` of these, if there is one, tags of those names,
// each the only kid of the one ahead. The table and these are open.
func amongPage(kids []impl.Item, names ...string) impl.Page {
	p := openPage("html", "body")
	put := func(it impl.Item, up int) int {
		n := len(p.Items)
		it.Up = up
		p.Items[up].Kids = append(p.Items[up].Kids, n)
		p.Items = append(p.Items, it)
		return n
	}
	up := 2
	for _, it := range kids {
		if n := put(it, 2); it.Name == "table" {
			up = n
		}
	}
	if up != 2 {
		p.Open = append(p.Open, up)
	}
	for _, name := range names {
		up = put(tagItem(name, up), up)
		p.Open = append(p.Open, up)
	}
	return p
}

// waitingPage is a page with a p open, item 3, in which tags of those names stand, from 4 on; none of these is open.
func waitingPage(names []string, forms ...int) impl.Page {
	p := openPage("html", "body", "p")
	for k, name := range names {
		p.Items = append(p.Items, tagItem(name, 3))
		p.Items[3].Kids = append(p.Items[3].Kids, 4+k)
	}
	p.Forms = forms
	return p
}

func plainRight(p impl.Page) bool { return plainTreeOk(p.Items) && plainPageOk(p) }

// plainPlace is the document's rule, for pages that are right.
func plainPlace(p impl.Page) (int, int) {
	if len(p.Open) == 0 {
		return 0, -1
	}
	last := p.Open[len(p.Open)-1]
	if name := p.Items[last].Name; name == "table" || name == "tbody" || name == "tr" {
		if k := plainOpenNamed(p, "table"); k >= 0 {
			table := p.Items[p.Open[k]]
			for at, kid := range p.Items[table.Up].Kids {
				if kid == p.Open[k] {
					return table.Up, at
				}
			}
		}
	}
	return last, -1
}

// plainPut puts an item, whatever the page is then; what is wrong or too many by that is told by nil.
func plainPut(p impl.Page, up, at int, it impl.Item) *impl.Page {
	q := copiedPage(p)
	if at < 0 {
		at = len(q.Items[up].Kids)
	}
	it.Up, it.Kids = up, nil
	q.Items[up].Kids = slices.Insert(q.Items[up].Kids, at, len(q.Items))
	q.Items = append(q.Items, it)
	if !plainRight(q) {
		return nil
	}
	return &q
}

func plainPutText(p impl.Page, s string) impl.Page {
	if s == "" || !plainRight(p) || len(p.Items) == 3000 {
		return p
	}
	up, at := plainPlace(p)
	ahead := p.Items[up].Kids
	if at >= 0 {
		ahead = ahead[:at]
	}
	if len(ahead) > 0 && p.Items[ahead[len(ahead)-1]].Kind == 3 {
		p = copiedPage(p)
		p.Items[ahead[len(ahead)-1]].Text += s
		return p
	}
	if q := plainPut(p, up, at, textItem(s, 0)); q != nil {
		return *q
	}
	return p
}

func plainPutTag(p impl.Page, name string, attrs []impl.Attr, space int, open bool) impl.Page {
	if !plainRight(p) {
		return p
	}
	up, at := plainPlace(p)
	q := plainPut(p, up, at, impl.Item{Kind: 2, Name: name, Attrs: attrs, Space: space})
	if q == nil {
		return p
	}
	if open && len(p.Open) < 40 {
		q.Open = append(q.Open, len(p.Items))
	}
	return *q
}

func plainPutIn(p impl.Page, it impl.Item) impl.Page {
	if !plainRight(p) {
		return p
	}
	up := 0
	if len(p.Open) > 0 {
		up = p.Open[len(p.Open)-1]
	}
	if q := plainPut(p, up, -1, it); q != nil {
		return *q
	}
	return p
}

func plainSame3(p impl.Page, i, k int) bool {
	if i < 0 || k < 0 || i >= len(p.Items) || k >= len(p.Items) {
		return false
	}
	many := map[impl.Attr]int{}
	for _, attr := range p.Items[i].Attrs {
		many[attr]++
	}
	for _, attr := range p.Items[k].Attrs {
		many[attr]--
	}
	for _, n := range many {
		if n != 0 {
			return false
		}
	}
	return p.Items[i].Name == p.Items[k].Name && p.Items[i].Space == p.Items[k].Space
}

func plainPutForm(p impl.Page, i int) impl.Page {
	formats := []string{"a", "b", "i", "u", "em", "strong", "code", "small"}
	if i < 0 || i >= len(p.Items) || p.Items[i].Kind != 2 || !slices.Contains(formats, p.Items[i].Name) || len(p.Forms) >= 120 {
		return p
	}
	many, first := 0, 0
	for at := len(p.Forms) - 1; at >= 0 && p.Forms[at] != -1; at-- {
		if plainSame3(p, p.Forms[at], i) {
			many, first = many+1, at
		}
	}
	p = copiedPage(p)
	if many >= 3 {
		p.Forms = append(p.Forms[:first], p.Forms[first+1:]...)
	}
	p.Forms = append(p.Forms, i)
	return p
}

func plainMark(p impl.Page) impl.Page {
	p = copiedPage(p)
	if len(p.Forms) < 120 {
		p.Forms = append(p.Forms, -1)
	}
	return p
}

func plainReopen(p impl.Page) impl.Page {
	if !plainRight(p) {
		return p
	}
	first := len(p.Forms)
	for first > 0 && p.Forms[first-1] != -1 && !slices.Contains(p.Open, p.Forms[first-1]) {
		first--
	}
	for at := first; at < len(p.Forms); at++ {
		it := p.Items[p.Forms[at]]
		q := plainPutTag(p, it.Name, it.Attrs, it.Space, true)
		if len(q.Items) == len(p.Items) {
			return p
		}
		p = q
		p.Forms[at] = len(p.Items) - 1
	}
	return p
}

func checkPlace(t *testing.T, p impl.Page, wantUp, wantAt int) {
	t.Helper()
	if up, at := impl.Place(p); up != wantUp || at != wantAt {
		t.Errorf("Place(%s) = %d, %d, want %d, %d", shownPage(p), up, at, wantUp, wantAt)
	}
}

func TestPutAheadOfATable(t *testing.T) {
	p := tablePage()
	checkPageOk(t, true, p)
	checkPlace(t, p, 2, 1)
	x := tablePage()
	x.Items[2].Kids = []int{3, 6, 4}
	x.Items = append(x.Items, textItem("x", 2))
	checkPage(t, "PutText of x", impl.PutText(p, "x"), x)
	checkPlace(t, x, 2, 2)
	xy := copiedPage(x)
	xy.Items[6].Text = "xy"
	checkPage(t, "PutText of y", impl.PutText(x, "y"), xy)
	b := copiedPage(xy)
	b.Items[2].Kids = []int{3, 6, 7, 4}
	b.Items = append(b.Items, tagItem("b", 2))
	b.Open = []int{1, 2, 4, 7}
	checkPage(t, "PutTag of b", impl.PutTag(xy, "b", nil, 0, true), b)
	checkPlace(t, b, 7, -1)
	// In the b it comes, while that is open; behind the b, once it is not.
	z := copiedPage(b)
	z.Items[7].Kids = []int{8}
	z.Items = append(z.Items, textItem("z", 7))
	checkPage(t, "PutText of z", impl.PutText(b, "z"), z)
	behind := impl.PutText(impl.PopTo(z, 3), "w")
	if got := behind.Items[2].Kids; !slices.Equal(got, []int{3, 6, 7, 9, 4}) || impl.Texts(behind.Items) != "axyzw" {
		t.Errorf("behind the b is %s", shownPage(behind))
	}
	note := tablePage()
	note.Items[4].Kids = []int{6}
	note.Items = append(note.Items, noteItem("n", 4))
	checkPage(t, "PutIn of a note", impl.PutIn(p, noteItem("n", 0)), note)
}

func TestReopenAFormat(t *testing.T) {
	p := formPage()
	checkPageOk(t, true, p)
	again := formPage()
	again.Items[5].Kids = []int{6}
	again.Items = append(again.Items, tagItem("b", 5))
	again.Open, again.Forms = []int{1, 2, 5, 6}, []int{6}
	checkPage(t, "Reopen", impl.Reopen(p), again)
	checkPage(t, "Reopen of that", impl.Reopen(again), again)
	marked := copiedPage(again)
	marked.Forms = []int{6, -1}
	checkPage(t, "Mark", impl.Mark(again), marked)
	thrice := formPage()
	thrice.Forms = []int{4, 4, 4}
	four := formPage()
	four.Forms = nil
	for range 4 {
		four = impl.PutForm(four, 4)
	}
	checkPage(t, "PutForm four times", four, thrice)
}

func TestPlaceAheadOfATable(t *testing.T) {
	kids := itemsOf(textItem("x", 0), tagItem("p", 0), noteItem("n", 0), tagItem("hr", 0))
	for at := 0; at <= len(kids); at++ {
		among := slices.Insert(slices.Clone(kids), at, tagItem("table", 0))
		for _, names := range [][]string{nil, {"tbody"}, {"tbody", "tr"}, {"tr"}, {"tr", "td", "p", "tr"}, {"caption", "tbody"}} {
			p := amongPage(among, names...)
			checkPageOk(t, true, p)
			checkPlace(t, p, 2, at)
		}
		for _, names := range [][]string{{"td"}, {"th"}, {"tbody", "tr", "td"}, {"tbody", "tr", "th"}, {"tr", "td", "b"}, {"b"}, {"TR"}, {"thead"}} {
			p := amongPage(among, names...)
			checkPageOk(t, true, p)
			checkPlace(t, p, len(p.Items)-1, -1)
		}
	}
}

func TestPlaceOfTablesInTables(t *testing.T) {
	inner := openPage("html", "body", "table", "tbody", "tr", "td", "table", "tbody")
	checkPlace(t, inner, 6, 0)
	checkPlace(t, impl.PopTo(inner, 7), 6, 0)
	checkPlace(t, impl.PopTo(inner, 6), 6, -1)
	checkPlace(t, impl.PopTo(inner, 5), 2, 0)
	// The inner one behind others.
	inner.Items[6].Kids = []int{9, 10, 7}
	inner.Items = append(inner.Items, textItem("x", 6), tagItem("br", 6))
	checkPageOk(t, true, inner)
	checkPlace(t, inner, 6, 2)
	// A table at once in another one, and in a part of it.
	checkPlace(t, openPage("html", "table", "table"), 2, 0)
	checkPlace(t, openPage("html", "table", "tr", "table", "tr"), 3, 0)
	checkPlace(t, openPage("table"), 0, 0)
	// Innermost is the last one in Open, whatever the tree is.
	p := openPage("html", "table", "td", "table", "tr")
	p.Open = []int{1, 4, 2, 5}
	checkPlace(t, p, 1, 0)
	p.Open = []int{2, 4, 5, 1}
	checkPlace(t, p, 1, -1)
	// Its Up need not be open, nor the one that is open ahead of it.
	p = openPage("html", "body", "p", "table", "tr")
	p.Open = []int{1, 4, 5}
	checkPlace(t, p, 3, 0)
	p.Open = []int{5, 4}
	checkPlace(t, p, 3, 0)
	// Tables are told by name, in any space.
	p.Items[4].Space, p.Items[5].Space = 1, 2
	checkPlace(t, p, 3, 0)
}

func TestPlaceWithNoTableOpen(t *testing.T) {
	checkPlace(t, impl.PageNew(), 0, -1)
	for _, p := range []impl.Page{tablePage(), formPage(), kindsPage(), pageToTry()} {
		last := p.Open[len(p.Open)-1]
		if p.Items[last].Name != "table" {
			checkPlace(t, p, last, -1)
		}
		p.Open = nil
		checkPlace(t, p, 0, -1)
	}
	// Parts alone stand ahead of nothing.
	for _, names := range [][]string{{"tr"}, {"tbody"}, {"html", "body", "tr"}, {"html", "body", "tbody", "tr"}, {"tr", "td", "tbody"}} {
		checkPlace(t, openPage(names...), len(names), -1)
	}
	p := openPage("html", "table", "tbody", "tr")
	for _, open := range [][]int{{1, 3, 4}, {4}, {1, 4, 3}} {
		p.Open = open
		checkPageOk(t, true, p)
		checkPlace(t, p, open[len(open)-1], -1)
	}
	q := copiedPage(p)
	q.Open = []int{1, 4}
	want := copiedPage(q)
	want.Items[4].Kids = []int{5}
	want.Items = append(want.Items, textItem("x", 4))
	checkPage(t, "PutText into a part alone", impl.PutText(q, "x"), want)
}

func TestPutTextBehindWhat(t *testing.T) {
	// What stands ahead of the place, and whether the text goes behind the last one of these as one with it.
	for _, c := range []struct {
		ahead []impl.Item
		joins bool
	}{
		{nil, false},
		{itemsOf(textItem("x", 0)), true},
		{itemsOf(textItem("", 0)), true},
		{itemsOf(tagItem("p", 0)), false},
		{itemsOf(noteItem("x", 0)), false},
		{itemsOf(kindItem("x", 0)), false},
		{itemsOf(textItem("x", 0), tagItem("p", 0)), false},
		{itemsOf(textItem("x", 0), noteItem("n", 0)), false},
		{itemsOf(tagItem("p", 0), textItem("x", 0)), true},
	} {
		for _, s := range []string{"y", " \n", "\xff\r\x00", "<&>", strings.Repeat("long", 9000)} {
			for k, p := range []impl.Page{
				amongPage(c.ahead),
				amongPage(append(slices.Clone(c.ahead), tagItem("table", 0))),
				amongPage(append(slices.Clone(c.ahead), tagItem("table", 0), textItem("behind", 0)), "tbody", "tr"),
			} {
				want := copiedPage(p)
				if last := 2 + len(c.ahead); c.joins {
					want.Items[last].Text += s
				} else {
					want.Items[2].Kids = slices.Insert(want.Items[2].Kids, len(c.ahead), len(p.Items))
					want.Items = append(want.Items, textItem(s, 2))
				}
				checkPage(t, fmt.Sprintf("PutText %d behind %s", k, shownItems(c.ahead)), impl.PutText(p, s), want)
			}
		}
	}
}

func TestPutNothing(t *testing.T) {
	for _, p := range append(pagesToTry(), tablePage(), formPage(), impl.PutText(tablePage(), "x"), impl.PutText(impl.PageNew(), "x")) {
		checkPage(t, "PutText of nothing", impl.PutText(p, ""), p)
		for _, open := range []bool{false, true} {
			checkPage(t, "PutTag without a name", impl.PutTag(p, "", nil, 0, open), p)
		}
	}
}

func TestPutTag(t *testing.T) {
	attrs := attrsOf("b", "1", "a", "", "", "3")
	for space := 0; space <= 2; space++ {
		for _, open := range []bool{false, true} {
			want := tablePage()
			want.Items[2].Kids = []int{3, 6, 4}
			want.Items = append(want.Items, impl.Item{Kind: impl.ItTag, Space: space, Name: "B\xff", Attrs: attrs, Up: 2})
			if open {
				want.Open = append(want.Open, 6)
			}
			checkPage(t, fmt.Sprintf("PutTag in space %d", space), impl.PutTag(tablePage(), "B\xff", attrs, space, open), want)
		}
	}
	// Names that mean something elsewhere change nothing but the tree and what is open.
	for _, name := range append(listedTags(), "head", "body", "svg", "x") {
		want := openPage(name)
		checkPage(t, "PutTag of "+name, impl.PutTag(impl.PageNew(), name, nil, 0, true), want)
		want.Open = nil
		checkPage(t, "PutTag of "+name, impl.PutTag(impl.PageNew(), name, nil, 0, false), want)
	}
	refused := func(name string, attrs []impl.Attr, space int) {
		t.Helper()
		for _, p := range []impl.Page{tablePage(), formPage(), impl.PageNew(), kindsPage()} {
			for _, open := range []bool{false, true} {
				checkPage(t, fmt.Sprintf("PutTag(%q, %v, %d)", name, attrs, space), impl.PutTag(p, name, attrs, space, open), p)
			}
		}
	}
	refused("", nil, 0)
	refused("", attrs, 1)
	for _, space := range []int{-1, 3, 4, 1 << 32, 1 << 40, -1 << 63, 1<<63 - 1} {
		refused("b", nil, space)
	}
	refused("b", attrsOf("a", "1", "a", "1"), 0)
	refused("b", attrsOf("a", "1", "a", "2"), 0)
	refused("b", attrsOf("a", "1", "b", "2", "a", "3"), 2)
	refused("b", attrsOf("", "1", "a", "2", "", "3"), 0)
}

func TestPutIn(t *testing.T) {
	tag := impl.Item{Kind: impl.ItTag, Space: 2, Name: "mi", Attrs: attrsOf("b", "1", "a", "2")}
	for _, it := range itemsOf(noteItem("n", 0), noteItem("", 0), kindItem("html", 0), textItem("x", 0), tagItem("tr", 0), tag) {
		for _, p := range []impl.Page{tablePage(), formPage(), impl.PageNew(), kindsPage(), impl.PutIn(tablePage(), textItem("y", 0)), amongPage(itemsOf(tagItem("table", 0)), "tbody", "tr")} {
			up := 0
			if len(p.Open) > 0 {
				up = p.Open[len(p.Open)-1]
			}
			want := copiedPage(p)
			want.Items[up].Kids = append(want.Items[up].Kids, len(p.Items))
			it.Up, it.Kids = up, nil
			want.Items = append(want.Items, it)
			checkPage(t, "PutIn", impl.PutIn(p, it), want)
			// Whose it was, and what was its own, is not taken.
			for _, other := range []int{-1, 0, 3, 99, -1 << 63} {
				it.Up, it.Kids = other, []int{1, other}
				checkPage(t, "PutIn of one with Kids", impl.PutIn(p, it), want)
			}
		}
	}
}

func TestPutInWhatIsWrong(t *testing.T) {
	for _, it := range itemsOf(
		pageItem(), impl.Item{Kind: impl.ItPage, Name: "p"}, impl.Item{}, impl.Item{Kind: 6, Text: "x"}, impl.Item{Kind: -1}, impl.Item{Kind: 1 << 32, Text: "x"}, impl.Item{Kind: 1<<63 - 1},
		impl.Item{Kind: impl.ItTag}, impl.Item{Kind: impl.ItTag, Name: "p", Text: "x"}, impl.Item{Kind: impl.ItTag, Name: "p", Space: 3}, impl.Item{Kind: impl.ItTag, Name: "p", Space: -1}, impl.Item{Kind: impl.ItTag, Name: "p", Attrs: attrsOf("a", "1", "a", "2")},
		impl.Item{Kind: impl.ItNote, Text: "x", Name: "p"}, impl.Item{Kind: impl.ItNote, Text: "x", Space: 1}, impl.Item{Kind: impl.ItNote, Text: "x", Attrs: attrsOf("a", "1")},
		impl.Item{Kind: impl.ItText, Text: "x", Name: "p"}, impl.Item{Kind: impl.ItText, Text: "x", Space: 2}, impl.Item{Kind: impl.ItText, Text: "x", Attrs: attrsOf("a", "1")},
		impl.Item{Kind: impl.ItKind, Text: "x", Name: "p"}, impl.Item{Kind: impl.ItKind, Text: "x", Space: -1}, impl.Item{Kind: impl.ItKind, Text: "x", Attrs: attrsOf("a", "1")},
	) {
		for _, p := range []impl.Page{tablePage(), formPage(), impl.PageNew(), kindsPage()} {
			checkPage(t, "PutIn of "+shownItems(itemsOf(it)), impl.PutIn(p, it), p)
		}
	}
}

// bulkyPage is a page of that many items: html, body and a table, then a text or a tag ahead of the table, then notes in body, ahead of these.
func bulkyPage(many int, ahead impl.Item, open ...int) impl.Page {
	p := impl.Page{Items: itemsOf(pageItem(1), tagItem("html", 0, 2), tagItem("body", 1, 4, 3), tagItem("table", 2)), Open: open}
	ahead.Up = 2
	p.Items = append(p.Items, ahead)
	for len(p.Items) < many {
		p.Items[2].Kids = slices.Insert(p.Items[2].Kids, 0, len(p.Items))
		p.Items = append(p.Items, noteItem("n", 2))
	}
	return p
}

func TestPutUpToMaxItems(t *testing.T) {
	format := impl.Item{Kind: impl.ItTag, Name: "b"}
	put := map[string]func(p impl.Page) impl.Page{
		"PutText":            func(p impl.Page) impl.Page { return impl.PutText(p, "y") },
		"PutTag":             func(p impl.Page) impl.Page { return impl.PutTag(p, "p", nil, 0, false) },
		"PutTag that opens":  func(p impl.Page) impl.Page { return impl.PutTag(p, "p", nil, 0, true) },
		"PutIn of a note":    func(p impl.Page) impl.Page { return impl.PutIn(p, noteItem("n", 0)) },
		"PutIn of a text":    func(p impl.Page) impl.Page { return impl.PutIn(p, textItem("n", 0)) },
		"Reopen of a format": func(p impl.Page) impl.Page { p.Forms = []int{4}; return impl.Reopen(p) },
	}
	for what, done := range put {
		for _, open := range [][]int{{1, 2, 3}, {1, 2}, nil} {
			for many := 2997; many <= 3002; many++ {
				p := bulkyPage(many, format, open...)
				got := done(p)
				if many < 3000 && (len(got.Items) != many+1 || !impl.PageOk(got)) {
					t.Errorf("%s of %d items makes %d", what, many, len(got.Items))
				}
				if many >= 3000 && (!sameItems(got.Items, p.Items) || !slices.Equal(got.Open, p.Open)) {
					t.Errorf("%s of %d items is not as it was", what, many)
				}
			}
		}
	}
}

// TestPutTextUpToMaxItems holds that a full page takes no text, be it behind another one, and that one of one item less does.
func TestPutTextUpToMaxItems(t *testing.T) {
	// Text 4 is the last one of body, or just ahead of the table, of which parts may be open.
	last := func(many int) impl.Page {
		p := bulkyPage(many, textItem("x", 0), 1, 2)
		kids := p.Items[2].Kids
		slices.Reverse(kids[len(kids)-2:])
		return p
	}
	pages := map[string]func(many int) impl.Page{
		"at the end":       last,
		"ahead of a table": func(many int) impl.Page { return bulkyPage(many, textItem("x", 0), 1, 2, 3) },
		"ahead of a row's table": func(many int) impl.Page {
			p := bulkyPage(many-2, textItem("x", 0), 1, 2, 3, many-2, many-1)
			p.Items[3].Kids = []int{many - 2}
			p.Items = append(p.Items, tagItem("tbody", 3, many-1), tagItem("tr", many-2))
			return p
		},
		"that is empty": func(many int) impl.Page {
			p := last(many)
			p.Items[4].Text = ""
			return p
		},
	}
	for what, page := range pages {
		for many := 2997; many <= 3002; many++ {
			p := page(many)
			if len(p.Items) != many {
				t.Fatalf("%d items, not %d", len(p.Items), many)
			}
			checkPageOk(t, many <= 3000, p)
			want := copiedPage(p)
			if many < 3000 {
				want.Items[4].Text += "y"
			}
			got := impl.PutText(p, "y")
			if !samePage(got, want) || !samePage(plainPutText(p, "y"), want) {
				t.Errorf("PutText behind a text %s, of %d items", what, many)
			}
			if again := impl.PutText(got, ""); !samePage(again, got) {
				t.Errorf("PutText of nothing %s, of %d items", what, many)
			}
		}
	}
}

// TestPutTextThatFillsThePage holds that a new text may be the last item there is room for, and that nothing comes behind it then.
func TestPutTextThatFillsThePage(t *testing.T) {
	for _, open := range [][]int{{1, 2, 3}, {1, 2}, nil} {
		for many := 2997; many <= 2999; many++ {
			one := impl.PutText(bulkyPage(many, impl.Item{Kind: impl.ItTag, Name: "b"}, open...), "v")
			if len(one.Items) != many+1 || one.Items[many].Text != "v" || !impl.PageOk(one) {
				t.Fatalf("PutText of %d items makes %d", many, len(one.Items))
			}
			want := copiedPage(one)
			if many < 2999 {
				want.Items[many].Text = "vw"
			}
			if two := impl.PutText(one, "w"); !samePage(two, want) {
				t.Errorf("two texts put to %d items are %q", many, two.Items[many].Text)
			}
		}
	}
}

func TestPutUpToMaxOpen(t *testing.T) {
	for many := 37; many <= 42; many++ {
		p := openPage(slices.Repeat([]string{"i"}, many)...)
		want := copiedPage(p)
		if many <= 40 {
			want.Items[many].Kids = []int{many + 1}
			want.Items = append(want.Items, tagItem("b", many))
		}
		checkPage(t, "PutTag that is not to be open", impl.PutTag(p, "b", nil, 0, false), want)
		if many < 40 {
			want.Open = append(want.Open, many+1)
		}
		got := impl.PutTag(p, "b", nil, 0, true)
		checkPage(t, fmt.Sprintf("PutTag where %d are open", many), got, want)
		if impl.PageOk(got) != (many <= 40) {
			t.Errorf("%d are open", len(got.Open))
		}
		// Behind one that could not be opened comes what is put next, not into it.
		if many == 40 {
			got = impl.PutText(impl.PutTag(got, "b", nil, 0, true), "x")
			if !slices.Equal(got.Items[40].Kids, []int{41, 42, 43}) || len(got.Open) != 40 {
				t.Errorf("behind what is not open is %s", shownPage(got))
			}
		}
	}
}

func TestSame3(t *testing.T) {
	p := openPage("b", "b", "i", "b", "b", "b", "b", "b", "p", "p", "b")
	for i, attrs := range map[int][]impl.Attr{
		4: attrsOf("x", "1", "y", "2"),
		5: attrsOf("y", "2", "x", "1"),
		6: attrsOf("y", "2", "x", "1", "z", ""),
		7: attrsOf("x", "1", "y", "3"),
		8: attrsOf("x", "1"),
	} {
		p.Items[i].Attrs = attrs
	}
	p.Items[11].Space = 1
	checkPageOk(t, true, p)
	alike := map[[2]int]bool{{1, 2}: true, {4, 5}: true, {9, 10}: true}
	for i := 1; i <= 11; i++ {
		for k := 1; k <= 11; k++ {
			want := i == k || alike[[2]int{i, k}] || alike[[2]int{k, i}]
			if got := impl.Same3(p, i, k); got != want || plainSame3(p, i, k) != want {
				t.Errorf("Same3(%d, %d) = %v", i, k, got)
			}
		}
	}
	two := func(space1, space2 int, a, b []impl.Attr) bool {
		q := openPage("b", "b")
		q.Items[1].Space, q.Items[2].Space, q.Items[1].Attrs, q.Items[2].Attrs = space1, space2, a, b
		if impl.Same3(q, 1, 2) != impl.Same3(q, 2, 1) {
			t.Errorf("Same3 of %v and %v hangs on which comes first", a, b)
		}
		return impl.Same3(q, 1, 2)
	}
	abc := attrsOf("a", "1", "b", "2", "c", "3")
	for _, order := range [][]int{{0, 1, 2}, {0, 2, 1}, {1, 0, 2}, {1, 2, 0}, {2, 0, 1}, {2, 1, 0}} {
		other := []impl.Attr{abc[order[0]], abc[order[1]], abc[order[2]]}
		if !two(2, 2, abc, other) || two(1, 2, abc, other) || two(0, 1, abc, other) || two(0, 0, abc, other[:2]) || two(0, 0, abc, append(other, attrsOf("d", "")...)) {
			t.Errorf("Same3 of %v", other)
		}
	}
	for _, other := range [][]impl.Attr{
		attrsOf("a", "2", "b", "1", "c", "3"), attrsOf("1", "a", "b", "2", "c", "3"), attrsOf("A", "1", "b", "2", "c", "3"), attrsOf("a", "", "b", "2", "c", "3"), attrsOf("a", "1", "b", "2", "d", "3"), nil,
	} {
		if two(0, 0, abc, other) {
			t.Errorf("Same3 of %v", other)
		}
	}
	// Also where a name stands twice, each counts as often as it stands.
	if two(0, 0, attrsOf("a", "1", "a", "1", "b", "1"), attrsOf("a", "1", "b", "1", "b", "1")) || !two(0, 0, attrsOf("a", "1", "a", "2"), attrsOf("a", "2", "a", "1")) || !two(0, 0, nil, []impl.Attr{}) {
		t.Error("Same3 of names that stand twice")
	}
}

// noNumbers are numbers of no item of a page that is not very large.
var noNumbers = []int{-1, -2, -9, 3000, 1 << 32, 1<<32 + 4, 1 << 40, -1 << 63, 1<<63 - 1}

func TestSame3OfWrongNumbers(t *testing.T) {
	for _, p := range []impl.Page{kindsPage(), tablePage(), formPage(), impl.PageNew(), {}} {
		for _, no := range append([]int{len(p.Items), len(p.Items) + 1}, noNumbers...) {
			for i := -1; i <= len(p.Items); i++ {
				if impl.Same3(p, i, no) || impl.Same3(p, no, i) || impl.Same3(p, no, no) {
					t.Errorf("Same3 of %d and %d", i, no)
				}
			}
		}
	}
	// By their words alone it is told: of items without a name, too, and whatever the page is.
	p := kindsPage()
	for _, tag := range []int{1, 2, 3, 4, 8, 9, 10} {
		for _, other := range []int{0, 5, 6, 7} {
			if impl.Same3(p, tag, other) || impl.Same3(p, other, tag) {
				t.Errorf("Same3 of %d and %d", tag, other)
			}
		}
	}
	if !impl.Same3(p, 5, 5) || !impl.Same3(p, 5, 6) || !impl.Same3(p, 0, 7) {
		t.Error("Same3 of items without a name")
	}
	p.Open = []int{99}
	if !impl.Same3(p, 4, 4) || impl.Same3(p, 4, 9) {
		t.Error("Same3 of a page that is not right")
	}
}

func TestPutForm(t *testing.T) {
	// 4, 5, 6, 7 are alike, 8 is another tag, 9 has an attribute.
	page := func(forms ...int) impl.Page {
		p := waitingPage([]string{"b", "b", "b", "b", "i", "b"}, forms...)
		p.Items[9].Attrs = attrsOf("a", "1")
		return p
	}
	for _, c := range []struct {
		forms []int
		i     int
		want  []int
	}{
		{nil, 4, []int{4}},
		{[]int{-1}, 4, []int{-1, 4}},
		{[]int{4}, 4, []int{4, 4}},
		{[]int{4, 5}, 6, []int{4, 5, 6}},
		{[]int{4, 5, 6}, 7, []int{5, 6, 7}},
		{[]int{6, 5, 4}, 7, []int{5, 4, 7}},
		{[]int{4, 5, 6}, 4, []int{5, 6, 4}},
		{[]int{4, 4, 4}, 4, []int{4, 4, 4}},
		{[]int{4, 5, 6}, 8, []int{4, 5, 6, 8}},
		{[]int{4, 5, 6}, 9, []int{4, 5, 6, 9}},
		{[]int{9, 9, 9}, 4, []int{9, 9, 9, 4}},
		{[]int{9, 9, 9}, 9, []int{9, 9, 9}},
		// Among others.
		{[]int{8, 4, 9, 5, 8, 6, 8}, 7, []int{8, 9, 5, 8, 6, 8, 7}},
		{[]int{8, 4, 9, 5, 8, 8}, 7, []int{8, 4, 9, 5, 8, 8, 7}},
		{[]int{8, 4, 8, 5, 8, 6}, 8, []int{4, 8, 5, 8, 6, 8}},
		// Ahead of the last mark, and behind it.
		{[]int{4, 5, 6, -1}, 7, []int{4, 5, 6, -1, 7}},
		{[]int{4, -1, 5, 6}, 7, []int{4, -1, 5, 6, 7}},
		{[]int{4, 5, -1, 6, -1}, 7, []int{4, 5, -1, 6, -1, 7}},
		{[]int{-1, 4, 5, 6}, 7, []int{-1, 5, 6, 7}},
		{[]int{4, -1, 5, 6, 7}, 4, []int{4, -1, 6, 7, 4}},
		{[]int{4, 5, 6, -1, -1, 8, 4, 5, 6}, 7, []int{4, 5, 6, -1, -1, 8, 5, 6, 7}},
		// Of more than three the first one goes, too, and it alone.
		{[]int{4, 5, 6, 7}, 4, []int{5, 6, 7, 4}},
		{[]int{4, 5, 6, 7, 8, 4}, 4, []int{5, 6, 7, 8, 4, 4}},
	} {
		want := page(c.want...)
		got := impl.PutForm(page(c.forms...), c.i)
		checkPage(t, fmt.Sprintf("PutForm(%v, %d)", c.forms, c.i), got, want)
		checkPageOk(t, true, got)
	}
	// Whether it is open, and whose it is, is not asked.
	p := kindsPage()
	for i, want := range map[int]bool{0: false, 1: false, 2: false, 3: false, 4: true, 5: false, 6: false, 7: false, 8: false, 9: true, 10: false} {
		with := copiedPage(p)
		if want {
			with.Forms = append(with.Forms, i)
		}
		checkPage(t, fmt.Sprintf("PutForm of %d", i), impl.PutForm(p, i), with)
	}
	for _, i := range append([]int{11, 12}, noNumbers...) {
		checkPage(t, fmt.Sprintf("PutForm of %d", i), impl.PutForm(p, i), p)
	}
	for _, name := range append(listedTags(), "B", "bb", "font", "x") {
		got := impl.PutForm(openPage("p", name), 2)
		if want := slices.Contains([]string{"a", "b", "i", "u", "em", "strong", "code", "small"}, name); slices.Equal(got.Forms, []int{2}) != want || len(got.Forms) > 1 || !impl.PageOk(got) {
			t.Errorf("PutForm of a tag %s leaves %v", name, got.Forms)
		}
	}
	// A name alone makes no tag.
	p = openPage("p")
	p.Items[0].Name = "b"
	checkPage(t, "PutForm of an ItPage with a name", impl.PutForm(p, 0), p)
	p = openPage("p")
	p.Items[0].Kids = []int{1, 2}
	p.Items = append(p.Items, impl.Item{Kind: impl.ItText, Name: "b"})
	checkPage(t, "PutForm of an ItText with a name", impl.PutForm(p, 2), p)
}

func TestFormsUpToTheirMost(t *testing.T) {
	for many := 117; many <= 122; many++ {
		for _, forms := range [][]int{{-1}, {4}, {4, -1}, {5, 5, 4}} {
			p := waitingPage([]string{"b", "i"}, slices.Repeat(forms, 122)[:many]...)
			marked, put := copiedPage(p), plainPutForm(p, 4)
			if many < 120 {
				marked.Forms = append(marked.Forms, -1)
			} else {
				put = p
			}
			checkPage(t, fmt.Sprintf("Mark behind %d", many), impl.Mark(p), marked)
			checkPage(t, fmt.Sprintf("PutForm behind %d", many), impl.PutForm(p, 4), put)
			checkPage(t, fmt.Sprintf("PutForm of a p behind %d", many), impl.PutForm(p, 3), p)
		}
		// Where three are alike it is as it was, too, though one would go.
		p := waitingPage([]string{"b", "i"}, slices.Repeat([]int{5}, many)...)
		want := copiedPage(p)
		if many < 120 {
			want.Forms = append(want.Forms[1:], 5)
		}
		checkPage(t, fmt.Sprintf("PutForm behind %d alike", many), impl.PutForm(p, 5), want)
	}
	marks := impl.Page{}
	for k := range 130 {
		marks = impl.Mark(marks)
		if want := slices.Repeat([]int{-1}, min(k+1, 120)); !slices.Equal(marks.Forms, want) || len(marks.Items)+len(marks.Open)+marks.Head+marks.Body > 0 {
			t.Fatalf("Mark %d times is %s", k+1, shownPage(marks))
		}
	}
}

func TestReopen(t *testing.T) {
	names := []string{"b", "i", "u", "a"}
	for _, c := range []struct {
		forms []int
		open  []int // behind html, body and p
		fresh []int // the items of which new ones are put, each into the one ahead
		want  []int
	}{
		{nil, nil, nil, nil},
		{[]int{-1}, nil, nil, []int{-1}},
		{[]int{4, 5, -1}, nil, nil, []int{4, 5, -1}},
		{[]int{-1, 4, -1, -1}, nil, nil, []int{-1, 4, -1, -1}},
		{[]int{4}, []int{4}, nil, []int{4}},
		{[]int{4, 5, 6}, []int{6}, nil, []int{4, 5, 6}},
		{[]int{4, -1, 5}, []int{5}, nil, []int{4, -1, 5}},
		{[]int{4}, nil, []int{4}, []int{8}},
		{[]int{-1, 4}, nil, []int{4}, []int{-1, 8}},
		{[]int{4, 5}, nil, []int{4, 5}, []int{8, 9}},
		{[]int{7, 4, 6}, nil, []int{7, 4, 6}, []int{8, 9, 10}},
		{[]int{4, 4}, nil, []int{4, 4}, []int{8, 9}},
		// The first one open, others not; one in the middle open.
		{[]int{4, 5}, []int{4}, []int{5}, []int{4, 8}},
		{[]int{4, 5, 6}, []int{4}, []int{5, 6}, []int{4, 8, 9}},
		{[]int{4, 5, 6, 7}, []int{5}, []int{6, 7}, []int{4, 5, 8, 9}},
		{[]int{4, 5, 6}, []int{4, 5}, []int{6}, []int{4, 5, 8}},
		{[]int{4, 5, 4}, []int{5}, []int{4}, []int{4, 5, 8}},
		{[]int{4, 5, 4}, []int{4}, nil, []int{4, 5, 4}},
		// Marks and open ones: the last one of either counts.
		{[]int{4, -1, 5, 6}, []int{4}, []int{5, 6}, []int{4, -1, 8, 9}},
		{[]int{4, -1, 5, 6}, []int{5}, []int{6}, []int{4, -1, 5, 8}},
		{[]int{4, -1, 5, -1, 6}, []int{7}, []int{6}, []int{4, -1, 5, -1, 8}},
		{[]int{-1, 5, -1}, []int{4}, nil, []int{-1, 5, -1}},
	} {
		p := waitingPage(names, c.forms...)
		p.Items[5].Attrs, p.Items[6].Attrs, p.Items[7].Space = attrsOf("y", "1", "x", "2"), attrsOf("z", ""), 1
		p.Open = append(p.Open, c.open...)
		want := copiedPage(p)
		for _, i := range c.fresh {
			up, n := want.Open[len(want.Open)-1], len(want.Items)
			it := want.Items[i]
			it.Up, it.Kids = up, nil
			want.Items[up].Kids = append(want.Items[up].Kids, n)
			want.Items, want.Open = append(want.Items, it), append(want.Open, n)
		}
		want.Forms = c.want
		got := impl.Reopen(p)
		checkPage(t, fmt.Sprintf("Reopen(%v open %v)", c.forms, c.open), got, want)
		checkPage(t, "Reopen of that", impl.Reopen(got), got)
	}
}

func TestReopenAheadOfATable(t *testing.T) {
	p := tablePage()
	p.Items[5] = tagItem("b", 3, 6)
	p.Items[5].Attrs = attrsOf("x", "1")
	p.Items = append(p.Items, tagItem("i", 5))
	p.Forms = []int{5, 6}
	want := copiedPage(p)
	want.Items[2].Kids = []int{3, 7, 4}
	want.Items = append(want.Items, impl.Item{Kind: impl.ItTag, Name: "b", Attrs: attrsOf("x", "1"), Up: 2, Kids: []int{8}}, tagItem("i", 7))
	want.Open, want.Forms = []int{1, 2, 4, 7, 8}, []int{7, 8}
	checkPage(t, "Reopen ahead of a table", impl.Reopen(p), want)
	// With nothing open they come to the first item.
	p.Open = nil
	want = copiedPage(p)
	want.Items[0].Kids = []int{1, 7}
	want.Items = append(want.Items, impl.Item{Kind: impl.ItTag, Name: "b", Attrs: attrsOf("x", "1"), Up: 0, Kids: []int{8}}, tagItem("i", 7))
	want.Open, want.Forms = []int{7, 8}, []int{7, 8}
	checkPage(t, "Reopen where nothing is open", impl.Reopen(p), want)
}

func TestReopenWhereThereIsRoomForSome(t *testing.T) {
	for many := 2995; many <= 3001; many++ {
		p := bulkyPage(many, impl.Item{Kind: impl.ItTag, Name: "b", Attrs: attrsOf("x", "1")}, 1, 2)
		p.Items[5] = tagItem("i", 2)
		p.Forms = []int{4, -1, 4, 5, 4}
		room := min(3, max(0, 3000-many))
		got := impl.Reopen(p)
		want := copiedPage(p)
		for k, it := range []impl.Item{p.Items[4], p.Items[5], p.Items[4]}[:room] {
			it.Up, it.Kids = []int{2, many, many + 1}[k], nil
			want.Items[it.Up].Kids = append(want.Items[it.Up].Kids, many+k)
			want.Items = append(want.Items, it)
			want.Open = append(want.Open, many+k)
			want.Forms[2+k] = many + k
		}
		if !samePage(got, want) || impl.PageOk(got) != (many <= 3000) {
			t.Errorf("Reopen of %d items: %d items, open %v, forms %v", many, len(got.Items), got.Open, got.Forms)
		}
	}
	// What is put where MaxOpen are open is not open, as PutTag has it.
	for many := 36; many <= 41; many++ {
		p := openPage(slices.Repeat([]string{"div"}, many)...)
		p.Items[1].Kids = append(p.Items[1].Kids, many+1, many+2)
		p.Items = append(p.Items, tagItem("b", 1), tagItem("i", 1))
		p.Forms = []int{many + 1, many + 2}
		got := impl.Reopen(p)
		checkPage(t, fmt.Sprintf("Reopen where %d are open", many), got, plainReopen(p))
		if many > 40 {
			checkPage(t, fmt.Sprintf("Reopen where %d are open", many), got, p)
			continue
		}
		if len(got.Items) != many+5 || len(got.Open) != min(many+2, 40) || !slices.Equal(got.Forms, []int{many + 3, many + 4}) {
			t.Errorf("Reopen where %d are open: %s", many, shownPage(got))
		}
	}
}

// deed is something that is done to a page, by the program and by the document's rule.
type deed struct {
	name      string
	told      func(p impl.Page) impl.Page
	rule      func(p impl.Page) impl.Page
	manyItems int // so many there may be more by it
}

// plainDeeds are of all kinds, but that no text is PutIn: PutText alone makes texts that are beside each other one.
func plainDeeds() []deed {
	list := []deed{
		{"Mark", impl.Mark, plainMark, 0},
		{"Reopen", impl.Reopen, plainReopen, 9},
		{"PutIn note", func(p impl.Page) impl.Page { return impl.PutIn(p, noteItem("n", 7)) }, func(p impl.Page) impl.Page { return plainPutIn(p, noteItem("n", 7)) }, 1},
		{"PopTo", func(p impl.Page) impl.Page { return impl.PopTo(p, len(p.Open)-1) }, func(p impl.Page) impl.Page { return plainPopTo(p, len(p.Open)-1) }, 0},
	}
	for _, s := range []string{"x", " "} {
		list = append(list, deed{"PutText " + s, func(p impl.Page) impl.Page { return impl.PutText(p, s) }, func(p impl.Page) impl.Page { return plainPutText(p, s) }, 1})
	}
	for _, name := range []string{"table", "tr", "td", "b"} {
		list = append(list, deed{"PutTag " + name, func(p impl.Page) impl.Page { return impl.PutTag(p, name, nil, 0, true) }, func(p impl.Page) impl.Page { return plainPutTag(p, name, nil, 0, true) }, 1})
	}
	attrs := attrsOf("y", "1", "x", "2")
	list = append(list, deed{"PutTag i", func(p impl.Page) impl.Page { return impl.PutTag(p, "i", attrs, 1, false) }, func(p impl.Page) impl.Page { return plainPutTag(p, "i", attrs, 1, false) }, 1})
	for back := 1; back <= 2; back++ {
		list = append(list, deed{fmt.Sprint("PutForm -", back), func(p impl.Page) impl.Page { return impl.PutForm(p, len(p.Items)-back) }, func(p impl.Page) impl.Page { return plainPutForm(p, len(p.Items)-back) }, 0})
	}
	return list
}

// textsApart tells whether no two ItTexts are beside each other.
func textsApart(list []impl.Item) bool {
	for _, it := range list {
		for k := 1; k < len(it.Kids); k++ {
			if list[it.Kids[k-1]].Kind == impl.ItText && list[it.Kids[k]].Kind == impl.ItText {
				return false
			}
		}
	}
	return true
}

// TestTextsBesideEachOtherAreOne holds promise 9, and all of the rules, for all short rows of deeds from several pages on.
func TestTextsBesideEachOtherAreOne(t *testing.T) {
	deeds := plainDeeds()
	var next func(p impl.Page, left int, row []string)
	next = func(p impl.Page, left int, row []string) {
		if !impl.PageOk(p) || !textsApart(p.Items) {
			t.Fatalf("%v makes %s", row, shownPage(p))
		}
		up, at := plainPlace(p)
		checkPlace(t, p, up, at)
		one, two := impl.PutText(p, "vw"), impl.PutText(impl.PutText(p, "v"), "w")
		if !samePage(one, two) || len(one.Items) > len(p.Items)+1 {
			t.Fatalf("%v, then two texts: %s, one: %s", row, shownPage(two), shownPage(one))
		}
		if left == 0 {
			return
		}
		for _, d := range deeds {
			got, more := d.told(p), append(slices.Clone(row), d.name)
			if want := d.rule(p); !samePage(got, want) {
				t.Fatalf("%v of %s is %s, want %s", more, shownPage(p), shownPage(got), shownPage(want))
			}
			if len(got.Items) < len(p.Items) || len(got.Items) > len(p.Items)+d.manyItems {
				t.Fatalf("%v of %d items makes %d", more, len(p.Items), len(got.Items))
			}
			next(got, left-1, more)
		}
	}
	for _, p := range []impl.Page{impl.PageNew(), tablePage(), formPage(), pageToTry()} {
		next(p, 4, nil)
	}
	next(impl.PutText(tablePage(), "x"), 3, []string{"a text ahead of the table"})
	next(amongPage(itemsOf(textItem("x", 0), tagItem("table", 0)), "tbody", "tr"), 3, []string{"a row"})
}

// TestFormsByTheRule holds PutForm, Mark and Reopen against the document's rule for all short lists of Forms.
func TestFormsByTheRule(t *testing.T) {
	for _, forms := range numberLists([]int{-1, 4, 5, 6}, 6) {
		p := waitingPage([]string{"b", "b", "i"}, forms...)
		if len(forms)%2 == 1 {
			p.Open = append(p.Open, 5)
		}
		for i := 3; i <= 6; i++ {
			if got := impl.PutForm(p, i); !samePage(got, plainPutForm(p, i)) || !impl.PageOk(got) {
				t.Fatalf("PutForm(%s, %d) = %s", shownPage(p), i, shownPage(got))
			}
		}
		if got := impl.Reopen(p); !samePage(got, plainReopen(p)) || !samePage(impl.Reopen(got), got) {
			t.Fatalf("Reopen(%s) = %s", shownPage(p), shownPage(got))
		}
		if got := impl.Mark(p); !samePage(got, plainMark(p)) || !samePage(impl.Reopen(got), got) {
			t.Fatalf("Mark(%s) = %s", shownPage(p), shownPage(got))
		}
	}
}

func TestPutIntoWrongPages(t *testing.T) {
	for _, p := range append(wrongPages(), impl.Page{}) {
		checkPageOk(t, false, p)
		checkPlace(t, p, 0, -1)
		for _, s := range []string{"", "x"} {
			checkPage(t, "PutText", impl.PutText(p, s), p)
			checkPage(t, "PutIn of a note", impl.PutIn(p, noteItem(s, 0)), p)
			checkPage(t, "PutIn of a tag", impl.PutIn(p, tagItem(s, 0)), p)
			for _, open := range []bool{false, true} {
				checkPage(t, "PutTag", impl.PutTag(p, s, nil, 0, open), p)
			}
		}
		checkPage(t, "Reopen", impl.Reopen(p), p)
		checkPage(t, "Mark", impl.Mark(p), plainMark(p))
		for i := -2; i <= len(p.Items)+1; i++ {
			checkPage(t, fmt.Sprintf("PutForm of %d", i), impl.PutForm(p, i), plainPutForm(p, i))
			for k := -2; k <= len(p.Items)+1; k++ {
				if got := impl.Same3(p, i, k); got != plainSame3(p, i, k) {
					t.Errorf("Same3(%s, %d, %d) = %v", shownPage(p), i, k, got)
				}
			}
		}
		for _, i := range noNumbers {
			checkPage(t, fmt.Sprintf("PutForm of %d", i), impl.PutForm(p, i), p)
		}
	}
	// Numbers of no item in Forms are like nothing, and stay.
	p := waitingPage([]string{"b"}, 99, 4, -7, 4, 1<<40, 4)
	if got := impl.PutForm(p, 4).Forms; !slices.Equal(got, []int{99, -7, 4, 1 << 40, 4, 4}) {
		t.Errorf("PutForm among numbers of no item leaves %v", got)
	}
}

// putsToTry are what may be done to any page.
func putsToTry() map[string]func(p impl.Page) impl.Page {
	puts := map[string]func(p impl.Page) impl.Page{
		"PutText nothing":   func(p impl.Page) impl.Page { return impl.PutText(p, "") },
		"PutTag no name":    func(p impl.Page) impl.Page { return impl.PutTag(p, "", nil, 0, true) },
		"PutTag no space":   func(p impl.Page) impl.Page { return impl.PutTag(p, "b", nil, 3, true) },
		"PutIn an ItPage":   func(p impl.Page) impl.Page { return impl.PutIn(p, pageItem()) },
		"PutIn tag":         func(p impl.Page) impl.Page { return impl.PutIn(p, tagItem("p", 0)) },
		"PutForm of no one": func(p impl.Page) impl.Page { return impl.PutForm(p, -1) },
		"PutForm of the 4.": func(p impl.Page) impl.Page { return impl.PutForm(p, 4) },
		"Place": func(p impl.Page) impl.Page {
			impl.Place(p)
			impl.Same3(p, 4, 9)
			impl.Same3(p, 9, 9)
			return impl.PageNew()
		},
	}
	for _, d := range plainDeeds() {
		puts[d.name] = d.told
	}
	return puts
}

// morePages are pages in which something is done by each function of putsToTry, or just not done.
func morePages() []impl.Page {
	thrice := waitingPage([]string{"b", "i", "b"}, 5, 4, 6, 5, 4)
	thrice.Items[4].Attrs, thrice.Items[6].Attrs, thrice.Items[5].Attrs = attrsOf("y", "1", "x", "2"), attrsOf("x", "2", "y", "1"), attrsOf("z", "")
	fullForms := waitingPage([]string{"b", "i"}, slices.Repeat([]int{4, -1, 5}, 40)...)
	fullOpen := openPage(slices.Repeat([]string{"b"}, 40)...)
	fullOpen.Forms = []int{4, 5}
	ahead := impl.PutText(tablePage(), "x")
	nothing := formPage()
	nothing.Open = nil
	return []impl.Page{tablePage(), formPage(), thrice, fullForms, fullOpen, ahead, nothing}
}

func TestPutWritesIntoNoPage(t *testing.T) {
	for _, p := range append(pagesToTry(), morePages()...) {
		for name, put := range putsToTry() {
			given := roomyPage(p)
			put(given)
			if !sameRoomOfPages(given, roomyPage(p)) {
				t.Errorf("by %s %s became %s", name, shownPage(p), shownPage(given))
			}
			checkNewPage(t, p, put)
		}
	}
	for _, many := range []int{2999, 3000, 3001} {
		full := bulkyPage(many, textItem("x", 0), 1, 2, 3)
		for name, put := range putsToTry() {
			given := roomyPage(full)
			put(given)
			if !sameRoomOfPages(given, roomyPage(full)) {
				t.Errorf("%s writes into a page of %d items", name, many)
			}
		}
	}
}

func TestPutWritesIntoNoAttributes(t *testing.T) {
	roomy := func() []impl.Item {
		return roomyItems(itemsOf(impl.Item{Kind: impl.ItTag, Name: "p", Up: 5, Attrs: attrsOf("y", "1", "x", "2"), Kids: []int{3, 2, 1}}))
	}
	for _, p := range append(pagesToTry(), morePages()...) {
		for _, put := range []func(it impl.Item) impl.Page{
			func(it impl.Item) impl.Page { return impl.PutIn(p, it) },
			func(it impl.Item) impl.Page { return impl.PutTag(p, it.Name, it.Attrs, it.Space, true) },
			func(it impl.Item) impl.Page { return impl.PutTag(p, it.Name, it.Attrs, it.Space, false) },
			func(it impl.Item) impl.Page { return impl.PutTag(p, it.Name, it.Attrs, 3, true) },
		} {
			given := roomy()
			got := put(given[0])
			if !sameRoom(given, roomy()) {
				t.Fatalf("what was put became %s", shownItems(given))
			}
			want := copiedPage(got)
			spoilItem(given[0])
			if !samePage(got, want) {
				t.Fatalf("what is told of %s shares memory with what was put", shownPage(p))
			}
			given = roomy()
			spoilPage(put(given[0]))
			if !sameRoom(given, roomy()) {
				t.Fatalf("what is done to what is told of %s is felt by what was put", shownPage(p))
			}
		}
	}
}

// TestManyPuts goes on from a new page up to MaxItems, and beyond.
func TestManyPuts(t *testing.T) {
	p := impl.PutTag(impl.PageNew(), "body", nil, 0, true)
	words := 0
	for range 1600 {
		for range 2 {
			if len(p.Items) < impl.MaxItems {
				words++
			}
			p = impl.PutText(p, "x")
		}
		p = impl.PutTag(p, "br", nil, 0, false)
	}
	if !impl.PageOk(p) || len(p.Items) != impl.MaxItems || !textsApart(p.Items) || impl.Texts(p.Items) != strings.Repeat("x", words) {
		t.Errorf("%d items, %d texts for %d", len(p.Items), len(impl.Texts(p.Items)), words)
	}
	if kids := p.Items[1].Kids; len(kids) != impl.MaxItems-2 || p.Items[kids[0]].Text != "xx" || p.Items[kids[1]].Name != "br" {
		t.Errorf("the body has %d kids", len(kids))
	}
}
