package tests

import (
	"fmt"
	"math"
	"slices"
	"strings"
	"testing"

	"loop.example/g00325/impl"
)

// aboutsToTry are Spaces, and numbers that are none.
var aboutsToTry = []int{0, 1, 2, -1, 3, 4, -2, 1000, 1 << 32, 1<<32 + 1, math.MaxInt, math.MinInt}

// checkEscape holds Escape of that text, in both forms, against the rule, and what is promised of it: that it comes back.
func checkEscape(t *testing.T, s string) {
	t.Helper()
	for _, value := range []bool{false, true} {
		got := impl.Escape(s, value)
		if want := plainEscape(s, value); got != want {
			t.Fatalf("Escape(%s, %v) = %s, want %s", shortText(s), value, shortText(got), shortText(want))
		}
		for _, again := range []bool{false, true} {
			if back := impl.Refs(got, again); back != s {
				t.Fatalf("Refs(Escape(%s, %v), %v) = %s", shortText(s), value, again, shortText(back))
			}
		}
		if strings.ContainsAny(got, "<>\r") || value && strings.ContainsAny(got, "\"\t\n") {
			t.Fatalf("Escape(%s, %v) = %s", shortText(s), value, shortText(got))
		}
		if impl.CleanOk(got) != impl.CleanOk(s) {
			t.Fatalf("Escape(%s, %v) = %s, which is clean: %v", shortText(s), value, shortText(got), impl.CleanOk(got))
		}
	}
}

// checkElSaid holds ElSaid against the rule, about each of aboutsToTry, and what is promised of it.
func checkElSaid(t *testing.T, e impl.El) {
	t.Helper()
	for _, about := range aboutsToTry {
		got := impl.ElSaid(e, about)
		if want := plainElSaid(e, about); got != want {
			t.Fatalf("ElSaid(%s, %d) = %s, want %s", shownEls(e), about, shortText(got), shortText(want))
		}
		if strings.Contains(got, "\r") || (got != "") != impl.ElOk(e) || !impl.CleanOk(got) {
			t.Fatalf("ElSaid(%s, %d) = %s", shownEls(e), about, shortText(got))
		}
		if got != impl.ElSaid(copiedEl(e), about) {
			t.Fatalf("ElSaid(%s, %d) of a copy is told otherwise", shownEls(e), about)
		}
	}
}

// checkRead asks the library's reader for what is said, about each Space in a tag of that.
func checkRead(t *testing.T, e impl.El) {
	t.Helper()
	if !impl.ElOk(e) || !readable(e) {
		return
	}
	for about := range 3 {
		want := spacedEl(about, "about", e)
		said := `<about xmlns="` + plainSpaceName(about) + `">` + impl.ElSaid(e, about) + "</about>"
		got, err := libraryEls(said)
		if err != nil || len(got) != 1 || plainElShown(got[0]) != plainElShown(want) {
			t.Fatalf("%s is read as %s, want %s: %v", shortText(said), shownEls(got...), shownEls(want), err)
		}
	}
}

// checkWrite holds Write against the rule, and what is promised of it.
func checkWrite(t *testing.T, list ...impl.El) string {
	t.Helper()
	got := impl.Write(list)
	if want := plainWrite(list); got != want {
		t.Fatalf("Write(%s) = %s, want %s", shownEls(list...), shortText(got), shortText(want))
	}
	if (got != "") != impl.DocOk(list) || strings.Contains(got, "\r") || got != impl.Write(copiedEls(list)) {
		t.Fatalf("Write(%s) = %s", shownEls(list...), shortText(got))
	}
	if got == "" || slices.ContainsFunc(list, func(e impl.El) bool { return !readable(e) }) {
		return got
	}
	// The library's reader tells the bytes 10 between elements as texts.
	lines, err := libraryEls(got)
	read := slices.DeleteFunc(slices.Clone(lines), func(e impl.El) bool { return e.Kind == impl.ElText && e.Text == "\n" })
	if err != nil || !sameEls(read, list) || len(lines) != 2*len(list)+1 {
		t.Fatalf("%s is read as %s: %v", shortText(got), shownEls(lines...), err)
	}
	return got
}

func TestSpaceName(t *testing.T) {
	for n, want := range map[int]string{
		0: "http://www.w3.org/1999/xhtml", 1: "http://www.w3.org/2000/svg", 2: "http://www.w3.org/1998/Math/MathML",
		3: "", -1: "", 4: "", -2: "", 5: "", 256: "", 257: "", 258: "", 1 << 32: "", 1<<32 + 1: "", 1<<32 + 2: "", -1 << 32: "", math.MaxInt: "", math.MinInt: "", math.MinInt + 1: "",
	} {
		if got := impl.SpaceName(n); got != want {
			t.Errorf("SpaceName(%d) = %q, want %q", n, got, want)
		}
	}
	for n := -1000; n < 1000; n++ {
		if got, want := impl.SpaceName(n), plainSpaceName(n); got != want {
			t.Errorf("SpaceName(%d) = %q, want %q", n, got, want)
		}
	}
}

func TestEscapeByHand(t *testing.T) {
	for _, c := range []struct{ s, text, value string }{
		{"", "", ""},
		{"a", "a", "a"},
		{`a<b>&"c"`, `a&lt;b&gt;&amp;"c"`, `a&lt;b&gt;&amp;&quot;c&quot;`},
		{"\r", "&#13;", "&#13;"}, {"\t", "\t", "&#9;"}, {"\n", "\n", "&#10;"}, {"\"", "\"", "&quot;"}, {"'", "'", "'"},
		{"<&>\r\"\t\n", "&lt;&amp;&gt;&#13;\"\t\n", "&lt;&amp;&gt;&#13;&quot;&#9;&#10;"},
		{"\r\n", "&#13;\n", "&#13;&#10;"}, {"\n\r", "\n&#13;", "&#10;&#13;"}, {"\r\r", "&#13;&#13;", "&#13;&#13;"}, {"a \t b", "a \t b", "a &#9; b"},
		// What looks escaped already is escaped once more.
		{"&amp;", "&amp;amp;", "&amp;amp;"}, {"&#13;", "&amp;#13;", "&amp;#13;"}, {"&lt", "&amp;lt", "&amp;lt"}, {"&amp;amp;", "&amp;amp;amp;", "&amp;amp;amp;"}, {"&quot;", "&amp;quot;", "&amp;quot;"}, {"&#9;&#10;", "&amp;#9;&amp;#10;", "&amp;#9;&amp;#10;"}, {"&#x0D;", "&amp;#x0D;", "&amp;#x0D;"},
		{"&\r", "&amp;&#13;", "&amp;&#13;"}, {"&#13\r;", "&amp;#13&#13;;", "&amp;#13&#13;;"}, {"&<", "&amp;&lt;", "&amp;&lt;"}, {"&&", "&amp;&amp;", "&amp;&amp;"},
		{"]]>", "]]&gt;", "]]&gt;"}, {"<!--a-->", "&lt;!--a--&gt;", "&lt;!--a--&gt;"}, {"é€😀", "é€😀", "é€😀"}, {"a\x0cb\x00\x0b\x1f ", "a\x0cb\x00\x0b\x1f ", "a\x0cb\x00\x0b\x1f "},
		// No right signs: they stay as they are, and what stands beside them is escaped.
		{"\xff", "\xff", "\xff"}, {"\xe2\x82<\xff&\r", "\xe2\x82&lt;\xff&amp;&#13;", "\xe2\x82&lt;\xff&amp;&#13;"}, {"\xe2\"\x82\n\xac\t", "\xe2\"\x82\n\xac\t", "\xe2&quot;\x82&#10;\xac&#9;"}, {"\xed\xa0\x80>", "\xed\xa0\x80&gt;", "\xed\xa0\x80&gt;"}, {"\ufffe<", "\ufffe&lt;", "\ufffe&lt;"},
	} {
		if got := impl.Escape(c.s, false); got != c.text {
			t.Errorf("Escape(%q, false) = %q, want %q", c.s, got, c.text)
		}
		if got := impl.Escape(c.s, true); got != c.value {
			t.Errorf("Escape(%q, true) = %q, want %q", c.s, got, c.value)
		}
		checkEscape(t, c.s)
	}
}

func TestEscapeOfEachByte(t *testing.T) {
	texts := map[byte]string{'&': "&amp;", '<': "&lt;", '>': "&gt;", '\r': "&#13;"}
	values := map[byte]string{'"': "&quot;", '\t': "&#9;", '\n': "&#10;"}
	for n := range 256 {
		s := string([]byte{byte(n)})
		inText, inValue := s, s
		if ref, ok := texts[byte(n)]; ok {
			inText, inValue = ref, ref
		}
		if ref, ok := values[byte(n)]; ok {
			inValue = ref
		}
		if text, value := impl.Escape(s, false), impl.Escape(s, true); text != inText || value != inValue {
			t.Errorf("Escape of byte %d is %q and %q, want %q and %q", n, text, value, inText, inValue)
		}
		checkEscape(t, s)
		checkEscape(t, "a"+s+"a")
		for other := range 256 {
			checkEscape(t, s+string([]byte{byte(other)}))
		}
	}
	for n := range 1200 {
		checkEscape(t, impl.PutSign(n)+impl.PutSign(n+1))
	}
}

func TestEscapeOfRows(t *testing.T) {
	eachText([]string{"&", "<", ">", "\r", "\"", "\t", "\n"}, 5, func(s string) { checkEscape(t, s) })
	eachText(escapePieces, 3, func(s string) { checkEscape(t, s) })
	eachText([]string{"&", "a", "m", "p", ";", "lt"}, 5, func(s string) { checkEscape(t, s) })
	eachText([]string{"&", "#", "1", "3", "x", ";", "\r"}, 5, func(s string) { checkEscape(t, s) })
	for seed := range 300 {
		checkEscape(t, longPage(append(slices.Clone(escapePieces), mildPieces...), 5+seed, seed))
	}
	const many = 100000
	for s, ref := range map[string]string{"&": "&amp;", "<": "&lt;", "\r": "&#13;", "\"": "&quot;", "\n": "&#10;", "é": "é", "\xff": "\xff"} {
		if got := impl.Escape(strings.Repeat(s+"a", many), true); got != strings.Repeat(ref+"a", many) {
			t.Errorf("Escape of many %q is %s", s, shortText(got))
		}
		checkEscape(t, strings.Repeat(s, many))
	}
}

// checkSaidAs asks for what is wanted of the element in that place, and by the rule in all others.
func checkSaidAs(t *testing.T, e impl.El, about int, want string) {
	t.Helper()
	if got := impl.ElSaid(e, about); got != want {
		t.Errorf("ElSaid(%s, %d) = %s, want %s", shownEls(e), about, shortText(got), shortText(want))
	}
	checkElSaid(t, e)
	checkRead(t, e)
}

func TestElSaidByHand(t *testing.T) {
	x, n := textEl("x"), noteEl("n")
	a := withAttrs(tagEl("a", x), "k", "v")
	for about, want := range map[int]string{
		0: `<a k="v">x</a>`, 1: `<a xmlns="` + htmlSpace + `" k="v">x</a>`, 2: `<a xmlns="` + htmlSpace + `" k="v">x</a>`, 3: `<a xmlns="` + htmlSpace + `" k="v">x</a>`, -1: `<a xmlns="` + htmlSpace + `" k="v">x</a>`, math.MaxInt: `<a xmlns="` + htmlSpace + `" k="v">x</a>`, math.MinInt: `<a xmlns="` + htmlSpace + `" k="v">x</a>`,
	} {
		checkSaidAs(t, a, about, want)
	}
	for _, about := range aboutsToTry {
		checkSaidAs(t, x, about, "x")
		checkSaidAs(t, textEl("a<b>&\"c\"\r\t\n"), about, "a&lt;b&gt;&amp;\"c\"&#13;\t\n")
		checkSaidAs(t, textEl(" "), about, " ")
		checkSaidAs(t, n, about, "<!--n-->")
		checkSaidAs(t, noteEl(""), about, "<!---->")
		checkSaidAs(t, noteEl("&<>\"\t\n- ]]>&amp;é"), about, "<!--&<>\"\t\n- ]]>&amp;é-->")
		checkSaidAs(t, noteEl(">"), about, "<!-->-->")
		checkSaidAs(t, noteEl("->"), about, "<!--->-->")
		for space, name := range []string{htmlSpace, svgSpace, mathSpace} {
			want := `<q xmlns="` + name + `"/>`
			if space == about {
				want = "<q/>"
			}
			checkSaidAs(t, spacedEl(space, "q"), about, want)
		}
	}
	// Kids: none, one, many, of each kind.
	checkSaidAs(t, tagEl("p"), 0, "<p/>")
	checkSaidAs(t, impl.El{Kind: impl.ElTag, Name: "p", Attrs: []impl.Attr{}, Kids: []impl.El{}}, 0, "<p/>")
	checkSaidAs(t, tagEl("p", x), 0, "<p>x</p>")
	checkSaidAs(t, tagEl("p", n), 0, "<p><!--n--></p>")
	checkSaidAs(t, tagEl("p", noteEl("")), 0, "<p><!----></p>")
	checkSaidAs(t, tagEl("p", n, n, noteEl("m")), 0, "<p><!--n--><!--n--><!--m--></p>")
	checkSaidAs(t, tagEl("p", tagEl("p")), 0, "<p><p/></p>")
	checkSaidAs(t, tagEl("p", tagEl("b"), tagEl("i", x), tagEl("u")), 0, "<p><b/><i>x</i><u/></p>")
	checkSaidAs(t, tagEl("p", x, tagEl("b", textEl("y")), textEl("z"), n, x), 0, "<p>x<b>y</b>z<!--n-->x</p>")
	checkSaidAs(t, tagEl("p", textEl("]]>")), 0, "<p>]]&gt;</p>")
	checkSaidAs(t, tagEl("p", textEl("\"'\t\n\r")), 0, "<p>\"'\t\n&#13;</p>")
	checkSaidAs(t, tagEl("é-1", textEl("€")), 0, "<é-1>€</é-1>")
	checkSaidAs(t, tagEl("xmlns"), 0, "<xmlns/>")
	// Void and raw tags of a page are as all others.
	checkSaidAs(t, tagEl("br"), 0, "<br/>")
	checkSaidAs(t, tagEl("script"), 0, "<script/>")
	checkSaidAs(t, tagEl("script", textEl("1<2&&3>2")), 0, "<script>1&lt;2&amp;&amp;3&gt;2</script>")
	checkSaidAs(t, tagEl("br", x), 0, "<br>x</br>")
}

func TestElSaidOfAttributes(t *testing.T) {
	for _, c := range []struct {
		pairs []string
		want  string
	}{
		{nil, "<p/>"}, {[]string{"a", "1"}, `<p a="1"/>`}, {[]string{"a", ""}, `<p a=""/>`}, {[]string{"a", " "}, `<p a=" "/>`},
		{[]string{"b", "1", "a", "2"}, `<p b="1" a="2"/>`}, {[]string{"c", "", "a", "<", "b", "c"}, `<p c="" a="&lt;" b="c"/>`},
		{[]string{"a", "&<>\r\"\t\n'"}, `<p a="&amp;&lt;&gt;&#13;&quot;&#9;&#10;'"/>`}, {[]string{"a", "/>"}, `<p a="/&gt;"/>`}, {[]string{"a", `" b="`}, `<p a="&quot; b=&quot;"/>`}, {[]string{"a", "&amp;"}, `<p a="&amp;amp;"/>`},
		{[]string{"xmlnsa", svgSpace}, `<p xmlnsa="` + svgSpace + `"/>`}, {[]string{"é", "€"}, `<p é="€"/>`}, {[]string{"a", "xmlns"}, `<p a="xmlns"/>`},
	} {
		checkSaidAs(t, withAttrs(tagEl("p"), c.pairs...), 0, c.want)
		open := strings.TrimSuffix(c.want, "/>")
		checkSaidAs(t, withAttrs(tagEl("p", textEl("\"")), c.pairs...), 0, open+">\"</p>")
		// The Space stands ahead of all of them.
		turned := `<p xmlns="` + htmlSpace + `"` + strings.TrimPrefix(open, "<p")
		checkSaidAs(t, withAttrs(tagEl("p"), c.pairs...), 1, turned+"/>")
		checkSaidAs(t, withAttrs(tagEl("p", noteEl("\"")), c.pairs...), -1, turned+"><!--\"--></p>")
		checkSaidAs(t, spacedEl(2, "q", withAttrs(tagEl("p"), c.pairs...)), 2, "<q>"+turned+"/></q>")
	}
	for n := range 256 {
		s := string([]byte{byte(n)})
		want := `<p a="` + plainEscape(s, true) + `" b=""/>`
		if n < 32 && n != 9 && n != 10 && n != 13 || n > 127 {
			want = ""
		}
		checkSaidAs(t, withAttrs(tagEl("p"), "a", s, "b", ""), 0, want)
		checkElSaid(t, tagEl("p", textEl(s)))
		checkElSaid(t, tagEl("p", noteEl(s)))
		checkElSaid(t, tagEl(s))
		checkElSaid(t, withAttrs(tagEl("p"), s, ""))
	}
	var many []string
	want := "<p"
	for k := range 2000 {
		many = append(many, fmt.Sprint("a", k*37%2000), "<")
		want += fmt.Sprint(" a", k*37%2000, "=\"&lt;\"")
	}
	checkSaidAs(t, withAttrs(tagEl("p"), many...), 0, want+"/>")
}

// TestSpacesThatTurn: what stands about a tag is the Space of the tag that it is in, not of those ahead of it or further out.
func TestSpacesThatTurn(t *testing.T) {
	xmlns := func(space int) string { return ` xmlns="` + plainSpaceName(space) + `"` }
	chain := func(spaces ...int) impl.El {
		e := spacedEl(spaces[len(spaces)-1], "c")
		for k := len(spaces) - 2; k >= 0; k-- {
			e = spacedEl(spaces[k], string(rune('a'+k)), e)
		}
		return e
	}
	checkSaidAs(t, chain(0, 2, 0), 0, "<a><b"+xmlns(2)+"><c"+xmlns(0)+"/></b></a>")
	checkSaidAs(t, chain(0, 2, 0), 2, "<a"+xmlns(0)+"><b"+xmlns(2)+"><c"+xmlns(0)+"/></b></a>")
	checkSaidAs(t, chain(1, 1, 0), 1, "<a><b><c"+xmlns(0)+"/></b></a>")
	checkSaidAs(t, chain(1, 1, 0), 0, "<a"+xmlns(1)+"><b><c"+xmlns(0)+"/></b></a>")
	checkSaidAs(t, chain(2, 2, 2), -1, "<a"+xmlns(2)+"><b><c/></b></a>")
	checkSaidAs(t, chain(0, 1, 1), 3, "<a"+xmlns(0)+"><b"+xmlns(1)+"><c/></b></a>")
	checkSaidAs(t, chain(0, 0, 1), 1, "<a"+xmlns(0)+"><b><c"+xmlns(1)+"/></b></a>")
	checkSaidAs(t, chain(1, 0, 1), 1, "<a><b"+xmlns(0)+"><c"+xmlns(1)+"/></b></a>")
	checkSaidAs(t, chain(1, 2, 0), math.MinInt, "<a"+xmlns(1)+"><b"+xmlns(2)+"><c"+xmlns(0)+"/></b></a>")
	// Beside each other: what one of them turns to is not about the next one.
	checkSaidAs(t, spacedEl(0, "a", spacedEl(2, "b"), spacedEl(0, "c")), 0, "<a><b"+xmlns(2)+"/><c/></a>")
	checkSaidAs(t, spacedEl(0, "a", spacedEl(2, "b"), spacedEl(2, "c")), 0, "<a><b"+xmlns(2)+"/><c"+xmlns(2)+"/></a>")
	checkSaidAs(t, spacedEl(1, "a", spacedEl(0, "b", spacedEl(1, "c")), spacedEl(1, "d", spacedEl(0, "e"))), 0, "<a"+xmlns(1)+"><b"+xmlns(0)+"><c"+xmlns(1)+"/></b><d><e"+xmlns(0)+"/></d></a>")
	checkSaidAs(t, spacedEl(1, "a", textEl("x"), spacedEl(1, "b"), noteEl("n"), spacedEl(0, "c")), 1, "<a>x<b/><!--n--><c"+xmlns(0)+"/></a>")
	// All shapes of up to five tags, with each Space at each.
	all := 0
	eachSmallEl(4, nil, func(e impl.El) {
		eachSpaced(e, func(e impl.El) {
			all++
			checkElSaid(t, e)
			checkRead(t, e)
			checkWrite(t, e)
		})
	})
	if all < 3000 {
		t.Error("trees with Spaces:", all)
	}
}

func TestElSaidOfHowDeepOnesMayBe(t *testing.T) {
	for deep, right := range map[int]bool{1: true, 2: true, 58: true, 59: true, 60: true, 61: false, 62: false, 500: false} {
		starts, ends := "", ""
		for range deep - 1 {
			starts, ends = starts+"<p>", "</p>"+ends
		}
		for inner, want := range map[string]impl.El{"x": textEl("x"), "<!---->": noteEl(""), "<q/>": tagEl("q")} {
			said := starts + inner + ends
			if !right {
				said = ""
			}
			checkSaidAs(t, nestedEl(deep-1, want, nil, nil), 0, said)
		}
		checkWrite(t, noteEl(""), nestedEl(deep-1, tagEl("q"), elsOf(textEl("x")), elsOf(noteEl("n"))))
		turning := textEl("x")
		for k := range deep - 1 {
			turning = spacedEl(k*k%3, "p", turning)
		}
		checkElSaid(t, turning)
		checkRead(t, turning)
	}
	// Far too deep, right and wrong otherwise.
	for _, e := range elsOf(nestedEl(500000, textEl("x"), nil, nil), nestedEl(500000, impl.El{}, nil, nil), unkindly(500000, impl.ElText, textEl("x")), unkindly(500000, 0, impl.El{})) {
		if said, written := impl.ElSaid(e, 0), impl.Write(elsOf(e)); said != "" || written != "" {
			t.Error("what is far too deep is said", shortText(said), shortText(written))
		}
	}
	// A list that is its own kids is too deep, however it is gone through.
	list := elsOf(tagEl("p"), noteEl(""))
	list[0].Kids = list
	if said, written := impl.ElSaid(list[0], 0), impl.Write(list); said != "" || written != "" {
		t.Error("a list that is its own kids is said", shortText(said), shortText(written))
	}
}

func TestWriteByHand(t *testing.T) {
	const head = "<?xml version=\"1.0\"?>\n"
	r, n, m, x := tagEl("r"), noteEl("n"), noteEl(""), textEl("x")
	root := `<r xmlns="` + htmlSpace + `"/>` + "\n"
	for _, c := range []struct {
		list []impl.El
		want string
	}{
		{elsOf(r), head + root},
		{elsOf(r, n), head + root + "<!--n-->\n"},
		{elsOf(n, r), head + "<!--n-->\n" + root},
		{elsOf(n, m, r, m, n), head + "<!--n-->\n<!---->\n" + root + "<!---->\n<!--n-->\n"},
		{elsOf(noteEl("\n&"), r), head + "<!--\n&-->\n" + root},
		{elsOf(spacedEl(1, "r")), head + `<r xmlns="` + svgSpace + `"/>` + "\n"},
		{elsOf(spacedEl(2, "r", spacedEl(2, "q", x), tagEl("q"))), head + `<r xmlns="` + mathSpace + `"><q>x</q><q xmlns="` + htmlSpace + `"/></r>` + "\n"},
		{elsOf(withAttrs(tagEl("r", textEl("\n")), "k", "\n")), head + `<r xmlns="` + htmlSpace + `" k="&#10;">` + "\n</r>\n"},
		// No tag, two, a text beside it, or one that is wrong.
		{nil, ""}, {elsOf(), ""}, {elsOf(n), ""}, {elsOf(n, m), ""}, {elsOf(r, r), ""}, {elsOf(r, n, r), ""}, {elsOf(x), ""}, {elsOf(x, r), ""}, {elsOf(r, x), ""}, {elsOf(r, textEl("\n")), ""}, {elsOf(n, r, x), ""},
		{elsOf(impl.El{}), ""}, {elsOf(r, impl.El{}), ""}, {elsOf(impl.El{}, r), ""}, {elsOf(r, noteEl("-")), ""}, {elsOf(noteEl("--"), r), ""}, {elsOf(noteEl("\r"), r), ""}, {elsOf(tagEl("a:b")), ""}, {elsOf(tagEl("r", x, x)), ""}, {elsOf(n, tagEl("r", textEl(""))), ""}, {elsOf(spacedEl(3, "r")), ""}, {elsOf(spacedEl(-1, "r")), ""},
	} {
		if got := impl.Write(c.list); got != c.want {
			t.Errorf("Write(%s) = %q, want %q", shownEls(c.list...), got, c.want)
		}
		checkWrite(t, c.list...)
	}
	// MaxEls, over a tag and its kids, or over notes beside it, and one more.
	for many, right := range map[int]bool{2999: true, 3000: true, 3001: false, 3002: false, 10000: false} {
		flat := tagEl("r", timesEl(many-1, n)...)
		want := `<r xmlns="` + htmlSpace + `">` + strings.Repeat("<!--n-->", many-1) + "</r>"
		if got := impl.ElSaid(flat, -1); got != want {
			t.Errorf("of %d elements: ElSaid = %s", many, shortText(got))
		}
		beside := append(timesEl(many-1, n), r)
		wants := []string{head + want + "\n", head + strings.Repeat("<!--n-->\n", many-1) + root}
		for k, got := range []string{impl.Write(elsOf(flat)), impl.Write(beside)} {
			if !right {
				wants[k] = ""
			}
			if got != wants[k] {
				t.Errorf("of %d elements: Write = %s", many, shortText(got))
			}
		}
		checkWrite(t, flat)
		checkWrite(t, n, tagEl("r", timesEl(many-2, n)...))
		checkWrite(t, beside...)
	}
}

func TestAllShortDocumentsWritten(t *testing.T) {
	pieces := elsOf(noteEl(""), noteEl("-"), noteEl("n"), withAttrs(spacedEl(1, "p", textEl("<")), "k", "\t"), tagEl("p", textEl("x"), textEl("x")), textEl("x"), textEl("\n"), impl.El{}, nestedEl(59, noteEl(""), nil, nil), nestedEl(60, noteEl(""), nil, nil))
	written := 0
	var grow func(list []impl.El)
	grow = func(list []impl.El) {
		if checkWrite(t, list...) != "" {
			written++
		}
		if len(list) == 4 {
			return
		}
		for _, e := range pieces {
			grow(append(slices.Clone(list), e))
		}
	}
	grow(nil)
	// Of one to four, one is one of two right tags, each of the others is one of two right notes.
	if want := 2 * (1 + 2*2 + 3*4 + 4*8); written != want {
		t.Errorf("%d documents are written, want %d", written, want)
	}
}

func TestNothingIsSaidOfWhatIsWrong(t *testing.T) {
	x, n := textEl("x"), noteEl("n")
	wrong := append(wrongEls(), impl.El{Kind: impl.ElTag, Name: "p", Text: "x", Kids: elsOf(n)}, impl.El{Kind: impl.ElText, Text: "x", Kids: elsOf(n)}, impl.El{Kind: impl.ElText, Text: "x", Kids: elsOf(x)}, impl.El{Kind: 4, Name: "p"}, noteEl("a--b"), noteEl("a-"), withAttrs(tagEl("p"), "xmlns", svgSpace), withAttrs(tagEl("p"), "a", "", "a", ""), spacedEl(math.MaxInt, "p"), spacedEl(math.MinInt, "p"))
	for _, e := range wrong {
		for _, whole := range elsOf(e, tagEl("p", e), spacedEl(1, "q", tagEl("p", n, e, n), n), tagEl("p", x, tagEl("q"), e, tagEl("q", x)), nestedEl(40, e, elsOf(n), elsOf(tagEl("q")))) {
			for _, about := range aboutsToTry {
				if got := impl.ElSaid(whole, about); got != "" {
					t.Fatalf("ElSaid(%s, %d) = %s", shownEls(whole), about, shortText(got))
				}
			}
			checkElSaid(t, whole)
			for _, list := range [][]impl.El{elsOf(whole), elsOf(n, whole), elsOf(whole, n), elsOf(tagEl("p"), whole), elsOf(whole, tagEl("p")), elsOf(whole, whole)} {
				if got := impl.Write(list); got != "" {
					t.Fatalf("Write(%s) = %s", shownEls(list...), shortText(got))
				}
			}
		}
	}
	for name := range namesToTry() {
		checkElSaid(t, tagEl(name, x))
		checkElSaid(t, withAttrs(tagEl("p"), name, "v"))
		checkElSaid(t, tagEl("p", x, withAttrs(tagEl(name), "other", "", name, "")))
	}
	for s := range strictTextsToTry() {
		checkElSaid(t, textEl(s))
		checkElSaid(t, noteEl(s))
		checkElSaid(t, withAttrs(tagEl("p", noteEl(s)), "a", s))
		checkWrite(t, noteEl(s), tagEl("p", textEl(s)))
	}
}

// saidOnce keeps what was said of which element, about one Space: what is said alike is alike.
type saidOnce map[string]string

func (said saidOnce) check(t *testing.T, about int, e impl.El) {
	t.Helper()
	text, shown := impl.ElSaid(e, about), plainElShown(e)
	if was, there := said[text]; there && was != shown {
		t.Fatalf("about %d, %s and %s are both said as %s", about, shortText(was), shortText(shown), shortText(text))
	}
	said[text] = shown
}

// TestWhatIsSaidIsToldApart holds promise 17 for all small trees: two are said alike where they are alike, and nowhere else.
func TestWhatIsSaidIsToldApart(t *testing.T) {
	for _, about := range []int{0, 1, 2, -1, 3} {
		t.Run(fmt.Sprint("about ", about), func(t *testing.T) {
			t.Parallel()
			said := saidOnce{}
			many := 0
			put := func(e impl.El) {
				if impl.ElOk(e) {
					many++
					said.check(t, about, e)
				}
			}
			eachSmallEl(5, elsOf(textEl("x"), noteEl("x"), withAttrs(tagEl("p"), "p", "")), put)
			eachSmallEl(3, elsOf(textEl("<p/>"), textEl("&lt;p/&gt;"), textEl("<!--x-->"), noteEl("<p/>"), noteEl("&lt;p/&gt;"), textEl("\r"), textEl("\n"), textEl("&#13;")), put)
			eachSmallEl(3, elsOf(textEl(" x"), spacedEl(1, "p"), spacedEl(1, "p", tagEl("p")), spacedEl(2, "p", spacedEl(1, "p")), spacedEl(0, "p", noteEl(""))), put)
			unspaced := func(e impl.El) bool { return e.Space == 0 }
			eachSmallEl(3, elsOf(textEl("x")), func(e impl.El) {
				eachSpaced(e, func(e impl.El) {
					// The one with no other Space is there already.
					if !unspaced(e) || slices.ContainsFunc(e.Kids, func(e impl.El) bool { return !unspaced(e) }) {
						put(e)
					}
				})
			})
			values := []string{"", "\"", "&quot;", "\t", "&#9;", "\n", "&#10;", " ", "\r", "a", "a\" b=\"", "' b='"}
			for _, a := range values {
				put(withAttrs(tagEl("p"), "a", a))
				put(withAttrs(tagEl("p", textEl("a")), "a", a))
				for _, b := range values {
					put(withAttrs(tagEl("p"), "a", a, "b", b))
					put(withAttrs(tagEl("p"), "b", b, "a", a))
				}
			}
			for _, e := range elsOf(textEl("x"), textEl("<!--x-->"), noteEl("x"), noteEl(""), textEl("<p/>"), tagEl("pa"), tagEl("p-a"), tagEl("xmlns")) {
				put(e)
			}
			shown := map[string]bool{}
			for _, as := range said {
				shown[as] = true
			}
			if len(said) != len(shown) || len(said) < 1000 || many < len(said) {
				t.Errorf("of %d trees, %d unlike, %d unlike texts are said", many, len(shown), len(said))
			}
		})
	}
}

// TestEveryChangeIsSaid: a strict tree with one change is said otherwise, or, where the change is a fault, not at all.
func TestEveryChangeIsSaid(t *testing.T) {
	for _, e := range elsOf(
		elToTry(), textEl("x"), noteEl(""), tagEl("p"), withAttrs(tagEl("p", textEl("x"), noteEl("n")), "a", "1", "b", "2", "c", "3"), tagEl("p", elToTry(), textEl("x"), elToTry()),
		nestedEl(20, elToTry(), elsOf(noteEl("")), elsOf(textEl("x"))), nestedEl(55, elToTry(), nil, nil),
	) {
		said, written := impl.ElSaid(e, 0), impl.Write(elsOf(e))
		checkElSaid(t, e)
		for _, c := range elChanges() {
			for _, other := range changedEls(e, c.change) {
				checkElSaid(t, other)
				ok := impl.ElOk(other)
				if got := impl.ElSaid(other, 0); got == said || (got == "") == ok {
					t.Errorf("%s: %s is said as %s", c.what, shownEls(other), shortText(got))
				}
				if got := checkWrite(t, other); got != "" && got == written {
					t.Errorf("%s: %s is written as %s", c.what, shownEls(other), shortText(got))
				}
			}
		}
	}
}

// TestStrictTreesSaid holds promises 3 and 17 for trees of every kind of element, with any names and texts.
func TestStrictTreesSaid(t *testing.T) {
	said, returns := map[string]string{}, 0
	for seed := range 300 {
		c := chance(seed + 1)
		e := chanceSigns(&c, chanceEl(&c, 1+seed*2, 60))
		if !impl.ElOk(e) {
			t.Fatalf("%s is not strict", shownEls(e))
		}
		checkElSaid(t, e)
		for inner := range rowsWithin(e) {
			checkEscape(t, inner)
			returns += strings.Count(inner, "\r")
		}
		text := checkWrite(t, noteEl("n"), e, noteEl(""))
		if was, there := said[text]; there && was != plainElShown(e) {
			t.Fatalf("%s and another one are written alike", shownEls(e))
		}
		said[text] = plainElShown(e)
		for _, other := range elsOf(copiedEl(e), roomyEl(e)) {
			if impl.Write(elsOf(noteEl("n"), other, noteEl(""))) != text {
				t.Fatalf("a copy of %s is written otherwise", shownEls(e))
			}
		}
	}
	if returns < 100 || len(said) < 250 {
		t.Errorf("%d bytes 13 in %d unlike trees", returns, len(said))
	}
}

// rowsWithin tells all texts and values of an element.
func rowsWithin(e impl.El) func(yield func(s string) bool) {
	return func(yield func(s string) bool) {
		var all []string
		var look func(e impl.El)
		look = func(e impl.El) {
			all = append(all, e.Text)
			for _, attr := range e.Attrs {
				all = append(all, attr.Value)
			}
			for _, kid := range e.Kids {
				look(kid)
			}
		}
		look(e)
		for _, s := range all {
			if !yield(s) {
				return
			}
		}
	}
}

// TestNilListsAreSaidAsEmptyOnes: so are lists with room behind them.
func TestNilListsAreSaidAsEmptyOnes(t *testing.T) {
	for _, e := range elsOf(tagEl("p"), noteEl("n"), textEl("x"), tagEl("p", tagEl("q"), noteEl(""))) {
		emptied := func(e impl.El) impl.El {
			e.Attrs = attrsOf("a", "b")[:0]
			if e.Kids == nil {
				e.Kids = elsOf(textEl("x"))[:0]
			}
			return e
		}
		other := emptied(copiedEl(e))
		for k := range other.Kids {
			other.Kids[k] = emptied(other.Kids[k])
		}
		for _, about := range aboutsToTry {
			if got, want := impl.ElSaid(other, about), impl.ElSaid(e, about); got != want || got == "" {
				t.Errorf("ElSaid(%s, %d) = %s, want %s", shownEls(other), about, shortText(got), shortText(want))
			}
		}
		checkWrite(t, other)
	}
	if got := impl.Write(elsOf(tagEl("p"))[:0]); got != "" {
		t.Error("Write of an empty list with room behind it is", got)
	}
}

// TestElementsThatShareTheirKidsSaid: one list of kids in two tags is about another Space in each.
func TestElementsThatShareTheirKidsSaid(t *testing.T) {
	kids := elsOf(spacedEl(1, "k", tagEl("i")), textEl("&"))
	e := tagEl("p", spacedEl(1, "a", kids...), spacedEl(2, "b", kids...), tagEl("c", kids...))
	inner := `<i xmlns="` + htmlSpace + `"/></k>&amp;`
	turned := `<k xmlns="` + svgSpace + `">` + inner
	checkSaidAs(t, e, 0, `<p><a xmlns="`+svgSpace+`"><k>`+inner+`</a><b xmlns="`+mathSpace+`">`+turned+"</b><c>"+turned+"</c></p>")
	checkWrite(t, e)
}

func checkWrittenPage(t *testing.T, s string) {
	t.Helper()
	list := impl.Html(s)
	doc := impl.DocOf(list)
	written := checkWrite(t, doc...)
	// Only where notes take all the room there is no tag, and nothing is written.
	if written == "" && (len(list) < impl.MaxItems || impl.DocOk(doc)) {
		t.Fatalf("nothing is written of %q", shortText(s))
	}
	for _, e := range doc {
		checkElSaid(t, e)
	}
}

func TestPagesWritten(t *testing.T) {
	const head, html = "<?xml version=\"1.0\"?>\n", `<html xmlns="` + htmlSpace + `">`
	for page, want := range map[string]string{
		"":                                 html + "<head/><body/></html>\n",
		"<p>x":                             html + "<body><p>x</p></body></html>\n",
		"<!--a--b--><p>x":                  "<!--a- -b-->\n" + html + "<body><p>x</p></body></html>\n",
		"<!doctype html><p a:b='\t\"'>":    html + `<body><p aU00003Ab="&#9;&quot;"/></body></html>` + "\n",
		"<p>&#13;&lt;<br>":                 html + "<body><p>&#13;&lt;<br/></p></body></html>\n",
		"<svg><g/>x</svg><math>y":          html + `<body><svg xmlns="` + svgSpace + `"><g/>x</svg><math xmlns="` + mathSpace + `">y</math></body></html>` + "\n",
		"<p><svg><p>x":                     html + `<body><p><svg xmlns="` + svgSpace + `"/></p><p>x</p></body></html>` + "\n",
		"<script>1<2</script>":             html + "<head><script>1&lt;2</script></head><body/></html>\n",
		"<p>\xff\x01<x xmlns=1>y</x><!-->": html + "<body><p>" + badBytes + badBytes + "<x>y</x><!----></p></body></html>\n",
	} {
		if got := impl.Write(impl.DocOf(impl.Html(page))); got != head+want {
			t.Errorf("of %q is written %q, want %q", page, got, head+want)
		}
		checkWrittenPage(t, page)
	}
	for _, c := range []struct {
		what   string
		ahead  string
		long   int
		pieces []string
	}{
		{"spaces", "<svg>", 3, []string{"<svg>", "</svg>", "<g>", "</g>", "<math/>", "<math>", "<p>", "x", "<!-->"}},
		{"texts", "<p>", 4, []string{"&lt;", "&", "&#13;", "\r", "\t", "\"", "<b>", "]]>", "\x01", "<!--"}},
		{"values", "<p a='", 4, []string{"&lt;", "&", "&#13;", "\r", "\t", "\"", "<", "' b='", ">", "\n"}},
		{"notes", "", 4, []string{"<!--", "-->", "-", "x", "<p>", "<?", ">", "\r"}},
	} {
		t.Run(c.what, func(t *testing.T) {
			t.Parallel()
			eachText(c.pieces, c.long, func(s string) { checkWrittenPage(t, c.ahead+s) })
		})
	}
	var all []string
	for _, word := range everyWord() {
		all = append(all, impl.Spell(wordsOf(word)))
	}
	all = append(all, "&#13;", "\r", "\xff", "<?", "</", ">", "&lt;", "<x:y a:b='\x01\"\t' xmlns>", "<!doctype k>", "]]>")
	for seed := range 200 {
		checkWrittenPage(t, longPage(all, 1+seed%70, seed))
	}
	for page := range deepPages() {
		checkWrittenPage(t, page)
	}
	for _, piece := range []string{"<br>", "<svg>", "x<br>", "<!>x", "<!>"} {
		checkWrittenPage(t, strings.Repeat(piece, 2500))
	}
	checkWrittenPage(t, strings.Repeat("<!>", 3500))
}

func TestWhatIsSaidIsNotWrittenInto(t *testing.T) {
	all := append(wrongEls(), elToTry(), tagEl("p", elToTry(), textEl("x"), elToTry()), nestedEl(59, textEl("x"), elsOf(noteEl("")), elsOf(tagEl("q"))), tagEl("p", timesEl(3000, noteEl(""))...), withAttrs(tagEl("p"), "c", "\t", "a", "<", "b", ""))
	eachSmallEl(4, elsOf(textEl("<"), noteEl("")), func(e impl.El) { all = append(all, e) })
	for seed := range 30 {
		c := chance(seed + 1)
		all = append(all, chanceSigns(&c, chanceEl(&c, 20+seed, 60)))
	}
	for _, e := range all {
		for _, list := range [][]impl.El{elsOf(e), elsOf(noteEl("n"), e), elsOf(e, noteEl("n"))} {
			given := roomyEls(list)
			for _, about := range aboutsToTry {
				impl.ElSaid(given[0], about)
				impl.ElSaid(given[len(given)-1], about)
			}
			impl.Write(given)
			if shownRoom(given) != shownRoom(roomyEls(list)) {
				t.Fatalf("%s became %s", shownEls(list...), shownEls(given...))
			}
		}
	}
}

func TestSaidAtOnceAndAgain(t *testing.T) {
	all := append(wrongEls(), elToTry(), tagEl("p", textEl("<")), noteEl("n"), textEl("\r"), spacedEl(2, "p", spacedEl(1, "q")))
	for k, e := range all {
		said, written := impl.ElSaid(e, 1), impl.Write(elsOf(noteEl(""), e))
		t.Run(fmt.Sprint(k), func(t *testing.T) {
			t.Parallel()
			for range 20 {
				for about, other := range all {
					impl.ElSaid(other, about)
					impl.Write(elsOf(other))
				}
				if impl.ElSaid(e, 1) != said || impl.Write(elsOf(noteEl(""), e)) != written || impl.Escape(said, true) != plainEscape(said, true) || impl.SpaceName(1) != svgSpace {
					t.Fatalf("%s is told otherwise when it is asked again", shownEls(e))
				}
			}
		})
	}
}
