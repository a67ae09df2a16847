package tests

import (
	"fmt"
	"math"
	"slices"
	"strings"
	"testing"

	"loop.example/g00325/impl"
)

// Attributes that tell a Space, with the blank ahead of them, and what a strict text begins with.
const (
	htmlTold  = ` xmlns="` + htmlSpace + `"`
	svgTold   = ` xmlns="` + svgSpace + `"`
	mathTold  = ` xmlns="` + mathSpace + `"`
	xmlHead   = "<?xml version=\"1.0\"?>\n"
	rootInXml = "<r" + htmlTold + "/>"
)

// checkElRead holds ReadEl at that place against the rule, and what is promised of it.
func checkElRead(t *testing.T, s string, at int, about int) int {
	t.Helper()
	e, behind := impl.ReadEl(s, at, about)
	if want, wantBehind := plainReadEl(s, at, about); behind != wantBehind || plainElShown(e) != plainElShown(want) {
		t.Fatalf("ReadEl(%s, %d, %d) = %s, %d, want %s, %d", shortText(s), at, about, shownEls(e), behind, shownEls(want), wantBehind)
	}
	if behind == -1 {
		if plainElShown(e) != plainElShown(impl.El{}) {
			t.Fatalf("ReadEl(%s, %d, %d) = %s, -1", shortText(s), at, about, shownEls(e))
		}
		return behind
	}
	if !impl.ElOk(e) || e.Kind != impl.ElTag || behind <= at || behind > len(s) {
		t.Fatalf("ReadEl(%s, %d, %d) = %s, %d", shortText(s), at, about, shownEls(e), behind)
	}
	checkElSaidAndRead(t, e, about)
	return behind
}

// checkElSaidAndRead holds promise 19 for that tag, with anything ahead of what is said and anything behind it.
func checkElSaidAndRead(t *testing.T, e impl.El, about int) {
	t.Helper()
	said := impl.ElSaid(e, about)
	for _, ahead := range []string{"", "<a>é", "\xff"} {
		for _, behind := range []string{"", "<", "/>", ">", "x", "</a>", " k=\"v\"", "\xff", said} {
			got, end := impl.ReadEl(ahead+said+behind, len(ahead), about)
			if end != len(ahead+said) || !impl.SameEl(got, e) {
				t.Fatalf("%s, said about %d as %s, is read as %s, %d", shownEls(e), about, shortText(said), shownEls(got), end)
			}
		}
	}
}

// checkDocRead holds Read and Well against the rule, and what is promised of them.
func checkDocRead(t *testing.T, s string) bool {
	t.Helper()
	list, ok := impl.Read(s)
	if want, wantOk := plainRead(s); ok != wantOk || !sameEls(list, want) {
		t.Fatalf("Read(%s) = %s, %v, want %s, %v", shortText(s), shownEls(list...), ok, shownEls(want...), wantOk)
	}
	if impl.Well(s) != ok {
		t.Fatalf("Well(%s) = %v", shortText(s), !ok)
	}
	if !ok {
		if len(list) > 0 {
			t.Fatalf("Read(%s) = %s, false", shortText(s), shownEls(list...))
		}
		return false
	}
	if !impl.DocOk(list) {
		t.Fatalf("Read(%s) = %s, true", shortText(s), shownEls(list...))
	}
	checkWrittenAndRead(t, list)
	return true
}

// checkWrittenAndRead holds promise 19 for that list; what is too long when it is written is refused.
func checkWrittenAndRead(t *testing.T, list []impl.El) {
	t.Helper()
	written := impl.Write(list)
	got, ok := impl.Read(written)
	if short := len(written) <= impl.MaxXml; ok != short || impl.Well(written) != short || short != sameEls(got, list) {
		t.Fatalf("%s, written as %s, is read as %s, %v", shownEls(list...), shortText(written), shownEls(got...), ok)
	}
}

func TestElementsReadByHand(t *testing.T) {
	x, n := textEl("x"), noteEl("n")
	p := tagEl("a")
	for _, c := range []struct {
		s      string
		want   impl.El
		behind int
	}{
		{"<a/>", p, 4}, {"<a></a>", p, 7}, {"<a/>x", p, 4}, {"<a></a></a>", p, 7}, {"<a/><a/>", p, 4}, {"<a/>\xff", p, 4}, {"<a/>/>", p, 4}, {"<a></a>\n", p, 7},
		{"<a>x</a>", tagEl("a", x), 8}, {"<a>x</a>y", tagEl("a", x), 8}, {"<a> </a>", tagEl("a", textEl(" ")), 8}, {"<a>\n\t</a>", tagEl("a", textEl("\n\t")), 9}, {"<a>></a>", tagEl("a", textEl(">")), 8}, {"<a>/></a>", tagEl("a", textEl("/>")), 9}, {"<a>\"='</a>", tagEl("a", textEl("\"='")), 10},
		{"<a><!--n--></a>", tagEl("a", n), 15}, {"<a><!----></a>", tagEl("a", noteEl("")), 14}, {"<a><!--</a>--></a>", tagEl("a", noteEl("</a>")), 18}, {"<a><!--&--></a>", tagEl("a", noteEl("&")), 15},
		{"<a><b/></a>", tagEl("a", tagEl("b")), 11}, {"<a><a/></a>", tagEl("a", p), 11}, {"<a><a></a></a>", tagEl("a", p), 14}, {"<a><b></b></a>", tagEl("a", tagEl("b")), 14}, {"<a><ab/></a>", tagEl("a", tagEl("ab")), 12},
		{"<a>x<b/>x</a>", tagEl("a", x, tagEl("b"), x), 13}, {"<a>x<!--n--><b>x</b>x<c/><!--n--></a>", tagEl("a", x, n, tagEl("b", x), x, tagEl("c"), n), 37}, {"<a>x<!----><!--n-->x</a>", tagEl("a", x, noteEl(""), n, x), 24},
		{`<a k="v"/>`, withAttrs(p, "k", "v"), 10}, {`<a k="v" j=""/>`, withAttrs(p, "k", "v", "j", ""), 15}, {`<a k="v" j="w"></a>`, withAttrs(p, "k", "v", "j", "w"), 19}, {`<a j="w" k="v">x</a>`, withAttrs(tagEl("a", x), "j", "w", "k", "v"), 20}, {`<a k=">" j="/>"/>`, withAttrs(p, "k", ">", "j", "/>"), 17}, {`<a k=" j='w' "/>`, withAttrs(p, "k", " j='w' "), 16}, {`<a a="a"/>`, withAttrs(p, "a", "a"), 10}, {`<a k="" K=""/>`, withAttrs(p, "k", "", "K", ""), 14},
		{`<a k="&lt;&#10;&quot;&amp;amp;"/>`, withAttrs(p, "k", "<\n\"&amp;"), 33}, {"<a>&lt;b/&gt;</a>", tagEl("a", textEl("<b/>")), 17},
		// Texts and references beside each other are one text.
		{"<a>x&amp;y</a>", tagEl("a", textEl("x&y")), 14}, {"<a>&lt;&gt;</a>", tagEl("a", textEl("<>")), 15}, {"<a>&#65;B&#67;</a>", tagEl("a", textEl("ABC")), 18}, {"<a>]]&gt;</a>", tagEl("a", textEl("]]>")), 13}, {"<a>]]<!---->></a>", tagEl("a", textEl("]]"), noteEl(""), textEl(">")), 17}, {"<a>]]<b/>></a>", tagEl("a", textEl("]]"), tagEl("b"), textEl(">")), 14}, {"<a k=\"]]\">></a>", withAttrs(tagEl("a", textEl(">")), "k", "]]"), 15}, {"<a>&#13;</a>", tagEl("a", textEl("\r")), 12}, {"<a>&#13;\n</a>", tagEl("a", textEl("\r\n")), 13},
		// Names of any strict signs.
		{"<é-1.·/>", tagEl("é-1.·"), 10}, {"<" + badBytes + "/>", tagEl(badBytes), 6}, {"<xmlns/>", tagEl("xmlns"), 8}, {"<xmlns>x</xmlns>", tagEl("xmlns", x), 16}, {"<A></A>", tagEl("A"), 7}, {"<A><a/></A>", tagEl("A", p), 11}, {`<_ _="_"/>`, withAttrs(tagEl("_"), "_", "_"), 10},
		// Void and raw tags of a page are as all others.
		{"<br/>", tagEl("br"), 5}, {"<br>x</br>", tagEl("br", x), 10}, {"<script>&lt;<b/></script>", tagEl("script", textEl("<"), tagEl("b")), 25},
	} {
		for about := range 3 {
			want := spacedEl(about, c.want.Name, c.want.Kids...)
			want.Attrs = c.want.Attrs
			for k, kid := range want.Kids {
				if kid.Kind == impl.ElTag {
					want.Kids = slices.Clone(want.Kids)
					want.Kids[k].Space = about
				}
			}
			for _, ahead := range []string{"", "<", "é<a>", "\xff"} {
				if got, behind := impl.ReadEl(ahead+c.s, len(ahead), about); behind != len(ahead)+c.behind || plainElShown(got) != plainElShown(want) {
					t.Errorf("ReadEl(%q, %d, %d) = %s, %d, want %s, %d", ahead+c.s, len(ahead), about, shownEls(got), behind, shownEls(want), len(ahead)+c.behind)
				}
			}
		}
		for at := range len(c.s) {
			checkElRead(t, c.s, at, 1)
		}
	}
}

// TestPlacesToReadFrom: an element is read where it begins, and at no other place.
func TestPlacesToReadFrom(t *testing.T) {
	for s, wants := range map[string]map[int]int{"x<a><b/>y<!--<b/>--><c></c></a>": {1: 31, 4: 8, 13: 17, 20: 27}, "": nil, "<a/>": {0: 4}, "é<a/>é": {2: 6}, "<a><b/>": {3: 7}} {
		for _, at := range placesToTry(s) {
			for _, about := range aboutsToTry {
				want, there := wants[at]
				if !there || about < 0 || about > 2 {
					want = -1
				}
				if behind := checkElRead(t, s, at, about); behind != want {
					t.Errorf("ReadEl(%q, %d, %d) ends at %d, want %d", s, at, about, behind, want)
				}
			}
		}
	}
	for _, at := range []int{-1, -4, 4, 5, 6, math.MaxInt, math.MaxInt - 1, math.MinInt, 1 << 32, -1 << 32} {
		if e, behind := impl.ReadEl("<a/>", at, 0); behind != -1 || plainElShown(e) != plainElShown(impl.El{}) {
			t.Errorf("ReadEl at %d = %s, %d", at, shownEls(e), behind)
		}
	}
}

// checkSpaceRead asks for the Spaces of all tags of what is read, the outermost first; none where it is refused.
func checkSpaceRead(t *testing.T, s string, about int, want ...int) {
	t.Helper()
	var spaces []int
	var look func(e impl.El)
	look = func(e impl.El) {
		if e.Kind == impl.ElTag {
			spaces = append(spaces, e.Space)
		}
		for _, kid := range e.Kids {
			look(kid)
		}
	}
	e, _ := impl.ReadEl(s, 0, about)
	look(e)
	if !slices.Equal(spaces, want) {
		t.Errorf("ReadEl(%q, 0, %d) has Spaces %v, want %v", s, about, spaces, want)
	}
	if behind := checkElRead(t, s, 0, about); (behind == len(s)) != (len(want) > 0) {
		t.Errorf("ReadEl(%q, 0, %d) ends at %d", s, about, behind)
	}
}

func TestSpacesReadByHand(t *testing.T) {
	told := []string{htmlTold, svgTold, mathTold}
	for _, about := range aboutsToTry {
		// Without xmlns the Space is the one about, where that is one.
		var want []int
		if about >= 0 && about <= 2 {
			want = []int{about}
		}
		for _, s := range []string{"<a/>", "<a></a>", `<a k="v"/>`, `<a xmlnsa="` + svgSpace + `"/>`, `<a xml="` + svgSpace + `"/>`, `<a XMLNS="` + svgSpace + `"/>`, "<xmlns/>"} {
			checkSpaceRead(t, s, about, want...)
		}
		for space, name := range told {
			want := []int{space}
			if space == about {
				want = nil
			}
			for _, s := range []string{"<a" + name + "/>", "<a" + name + "></a>", "<a" + name + ` k="v" j="w"/>`, `<a k="v"` + name + ` j="w"/>`, `<a k="v" j="w"` + name + "/>"} {
				checkSpaceRead(t, s, about, want...)
			}
			// Twice, and beside another one.
			for _, other := range append([]string{` xmlns=""`, ` xmlns="x"`}, told...) {
				checkSpaceRead(t, "<a"+name+other+"/>", about)
				checkSpaceRead(t, "<a"+name+` k="v"`+other+"/>", about)
				checkSpaceRead(t, "<a"+other+name+"/>", about)
			}
			// What is in the tag is about its Space, and what is told of one kid is not about the next.
			for other, otherName := range told {
				kids := func(want ...int) []int {
					if space == about || space == other {
						return nil
					}
					return want
				}
				checkSpaceRead(t, "<a"+name+"><b"+otherName+"/><c/></a>", about, kids(space, other, space)...)
				checkSpaceRead(t, "<a"+name+"><b"+otherName+"><c/></b><d"+otherName+"/></a>", about, kids(space, other, other, other)...)
				checkSpaceRead(t, "<a"+name+"><b"+otherName+"><c"+name+"/></b></a>", about, kids(space, other, space)...)
				checkSpaceRead(t, "<a"+name+"><b"+otherName+"><c"+otherName+"/></b></a>", about)
				checkSpaceRead(t, "<a"+name+"><b><c"+otherName+"/></b></a>", about, kids(space, space, other)...)
			}
		}
		// No Space is told.
		for _, value := range []string{"", " ", "0", "1", "svg", "html", htmlSpace + "/", htmlSpace + " ", " " + svgSpace, "http://www.w3.org/", "http://www.w3.org/2000/SVG", "HTTP://www.w3.org/2000/svg", "https://www.w3.org/2000/svg", "http://www.w3.org/1998/Math/mathml", svgSpace + mathSpace, svgSpace + "&#9;", "&amp;"} {
			checkSpaceRead(t, `<a xmlns="`+value+`"/>`, about)
			checkSpaceRead(t, `<a k="v" xmlns="`+value+`"></a>`, about)
			checkSpaceRead(t, `<a`+mathTold+`><b xmlns="`+value+`"/></a>`, about)
		}
	}
	// A Space that is told by references is told.
	checkSpaceRead(t, `<a xmlns="http:&#47;/www.w3.org/2000/sv&#103;"/>`, 0, 1)
	checkSpaceRead(t, `<a xmlns="http:&#47;/www.w3.org/2000/sv&#103;"/>`, 1)
	// It is no attribute of the element; the others stay in their order.
	for _, s := range []string{`<a` + svgTold + ` k="v" j="w"/>`, `<a k="v"` + svgTold + ` j="w"/>`, `<a k="v" j="w"` + svgTold + `/>`} {
		if e, _ := impl.ReadEl(s, 0, 0); plainElShown(e) != plainElShown(withAttrs(spacedEl(1, "a"), "k", "v", "j", "w")) {
			t.Errorf("ReadEl(%q, 0, 0) = %s", s, shownEls(e))
		}
	}
	if e, _ := impl.ReadEl("<a"+svgTold+"/>", 0, 0); len(e.Attrs) != 0 {
		t.Errorf("an xmlns is read as %q", e.Attrs)
	}
}

// wrongElements are such texts as no element begins in at 0.
func wrongElements() []string {
	list := []string{
		"", "x", " <a/>", "\n<a/>", "/>", ">", "<", "</", "</>", "<>", "<>x</>", "</a>", "</a/>", "< a/>", "<\na/>", "<a", "<a ", "<a/", "<a/ >", "<a / >", "<a //>", "<a//>", "<a/>"[1:], "&lt;a/>", "<!--n-->", "<!---->", "<!a/>", "<?a?>", "<?xml version=\"1.0\"?>", "<!doctype a>", "<![CDATA[x]]>", "<a><![CDATA[x]]></a>", "<a><?b?></a>", "<a><!b></a>", "<a><!-></a>", "<a><!-n--></a>",
		// Blanks.
		"<a />", "<a  />", "<a ></a>", "<a\n/>", "<a\t/>", "<a></ a>", "<a></a >", "<a></a\n>", "<a>< /a>", "<a></\ta>", `<a k="v" />`, `<a k="v" ></a>`, `<a  k="v"/>`, `<a k="v"  j="w"/>`, `<ak="v"/>`, `<a k="v"j="w"/>`, "<a\tk=\"v\"/>", "<a\nk=\"v\"/>", "<a\rk=\"v\"/>", "<a\x0ck=\"v\"/>", "<a k=\"v\"\tj=\"w\"/>", "<a k=\"v\"\nj=\"w\"/>", `<a k ="v"/>`, `<a k= "v"/>`, "<a\u00a0k=\"v\"/>", "<a/ k=\"v\">", "<a/k=\"v\">",
		// Attributes.
		"<a k/>", "<a k=/>", "<a k=v/>", "<a k='v'/>", "<a k=\"v/>", "<a k=\"v></a>", "<a =\"v\"/>", "<a \"v\"/>", `<a k="v" k="v"/>`, `<a k="v" k="w"/>`, `<a k="v" j="" k="w"/>`, `<a k="v" k=""></a>`, `<a é="v" j="" é="w"/>`, `<a k="<"/>`, `<a k="&"/>`, `<a k="&x;"/>`, "<a k=\"\t\"/>", "<a k=\"\n\"/>", "<a k=\"\r\"/>", `<a k="]]>"/>`, `<a 1="v"/>`, `<a a:b="v"/>`, `<a k="v"x></a>`, `<a k="v">`, `<a k="v"`, `<a k="v" `,
		// Ends of other names, and none.
		"<a>", "<a>x", "<a><", "<a></", "<a></a", "<a></>", "<a></b>", "<a></A>", "<A></a>", "<a></ab>", "<ab></a>", "<a></a/>", "<a></a k=\"v\">", "<a/></a>"[4:], "<a><b></a></b>", "<a><b></a>", "<a><b>x</b>", "<a><b/>", "<a><!--n-->", "<a><!--n--", "<a><!--</a>", "<a><b></b", "<a><b></ab></a>", "<a><b></b></b>", "<ä></å>",
		// Texts and notes.
		"<a>]]></a>", "<a>x]]>x</a>", "<a>\r</a>", "<a>\r\n</a>", "<a>&</a>", "<a>&x;</a>", "<a>&amp</a>", "<a>&#1;</a>", "<a>&#013;</a>", "<a>&#x41;</a>", "<a>\x01</a>", "<a>\x0c</a>", "<a>\ufffe</a>", "<a>\x00</a>", "<a>&nbsp;</a>", "<a>&lt</a>;", "<a><<b/></a>", "<a>a<b</a>", "<a><!--a--b--></a>", "<a><!--a---></a>", "<a><!--\r--></a>", "<a><!--\x01--></a>",
		// Names.
		"<1/>", "<-/>", "<a:b/>", "<:a/>", "<a\x00/>", "<×/>", "<a×></a×>", "<a;/>", "<\"a\"/>", "<a\"/>", "<a=/>", "<&amp;/>", "<a&amp;/>", "<a<b/>/>",
	}
	for _, broken := range []string{"\xff", "\x80", "\xc3", "\xe2\x82", "\xf0\x9f\x98", "\xed\xa0\x80", "\xc1\xa1"} {
		for _, form := range []string{"<%s/>", "<a%s/>", "<a %s=\"v\"/>", "<a k%s=\"v\"/>", "<a k=\"%s\"/>", "<a>%s</a>", "<a>x%sx</a>", "<a><!--%s--></a>", "<a><b>%s</b></a>", "<a></a%s>", "%s<a/>", "<a%s></a%s>"} {
			list = append(list, strings.ReplaceAll(form, "%s", broken))
		}
	}
	return list
}

func TestWhatIsNoElement(t *testing.T) {
	for _, s := range wrongElements() {
		for _, about := range aboutsToTry {
			for _, whole := range []string{s, s + "x", s + "\xff"} {
				if e, behind := impl.ReadEl(whole, 0, about); behind != -1 || plainElShown(e) != plainElShown(impl.El{}) {
					t.Errorf("ReadEl(%q, 0, %d) = %s, %d", whole, about, shownEls(e), behind)
				}
			}
		}
		for _, at := range placesToTry(s) {
			checkElRead(t, s, at, 0)
		}
		for _, about := range []int{0, -1} {
			checkElRead(t, "<a"+svgTold+">"+s+"</a>", 0, about)
			checkElRead(t, "<a"+svgTold+">"+s, 0, about)
			checkElRead(t, "<a"+svgTold+"/>"+s, 0, about)
		}
		checkDocRead(t, s)
		checkDocRead(t, xmlHead+s+"\n")
		checkDocRead(t, xmlHead+rootInXml+"\n"+s)
		checkDocRead(t, xmlHead+"<r"+htmlTold+">"+s+"</r>\n")
	}
}

func TestHowDeepWhatIsReadMayBe(t *testing.T) {
	for deep, right := range map[int]bool{1: true, 2: true, 59: true, 60: true, 61: false, 62: false, 500: false} {
		starts, ends := strings.Repeat("<p>", deep-1), strings.Repeat("</p>", deep-1)
		for inner, want := range map[string]impl.El{"x": textEl("x"), "<!---->": noteEl(""), "<q/>": tagEl("q"), "<q></q>": tagEl("q")} {
			if deep == 1 && want.Kind != impl.ElTag {
				continue
			}
			s := starts + inner + ends
			got, behind := impl.ReadEl(s, 0, 0)
			if (behind == len(s)) != right || right && plainElShown(got) != plainElShown(nestedEl(deep-1, want, nil, nil)) || !right && behind != -1 {
				t.Errorf("of %d within each other, %q innermost: ReadEl = %s, %d", deep, inner, shownEls(got), behind)
			}
			checkElRead(t, s, 0, 0)
			checkElRead(t, "<a><b/>"+s+"</a>", 7, 0)
			turned := strings.Replace(s, ">", htmlTold+">", 1)
			if deep == 1 {
				turned = rootInXml
			}
			if checkDocRead(t, xmlHead+turned+"\n") != right || checkDocRead(t, xmlHead+"<!---->\n"+turned+"\n") != right {
				t.Errorf("of %d within each other, %q innermost: Read refuses it: %v", deep, inner, right)
			}
			// What is too deep is no element; from one within it on it is less deep.
			if deep == 61 {
				if _, behind := impl.ReadEl(s, 3, 0); behind != len(s)-4 {
					t.Errorf("of 60 within another one: ReadEl ends at %d", behind)
				}
			}
		}
	}
	// Far too deep, with all ends, with none, with attributes, and wrong in the end.
	const many = 3000000
	starts := strings.Repeat("<p>", many)
	for _, s := range []string{starts, starts + "x" + strings.Repeat("</p>", many), strings.Repeat("x<p k=\"v\">", many)[1:], strings.Repeat("<!----><p>", many/10)[7:], starts + "\xff"} {
		if e, behind := impl.ReadEl(s, 0, 0); behind != -1 || plainElShown(e) != plainElShown(impl.El{}) {
			t.Errorf("of many within each other: ReadEl = %s, %d", shownEls(e), behind)
		}
		if list, ok := impl.Read(xmlHead + "<r" + htmlTold + ">" + s[:150000]); ok || len(list) > 0 {
			t.Errorf("of many within each other: Read = %s, %v", shownEls(list...), ok)
		}
	}
}

func TestManyElementsRead(t *testing.T) {
	// ReadEl has no limit of how many there are.
	const many = 200000
	for inner, want := range map[string][]impl.El{"<b/>": elsOf(tagEl("b")), "<!---->": elsOf(noteEl("")), "<b></b>x": elsOf(tagEl("b"), textEl("x")), "<b><c/></b>": elsOf(tagEl("b", tagEl("c")))} {
		s := "<a>" + strings.Repeat(inner, many) + "</a>"
		e, behind := impl.ReadEl(s, 0, 0)
		if behind != len(s) || len(e.Kids) != many*len(want) || !sameEls(e.Kids[:len(want)], want) || !sameEls(e.Kids[len(e.Kids)-len(want):], want) {
			t.Errorf("of many %q are read %d, up to %d", inner, len(e.Kids), behind)
		}
		if e, behind := impl.ReadEl(s[:len(s)-1], 0, 0); behind != -1 || len(e.Kids) > 0 {
			t.Errorf("of many %q without an end are read %d, up to %d", inner, len(e.Kids), behind)
		}
	}
	for _, many := range []int{100, 20000} {
		var pairs []string
		s := "<a"
		for k := range many {
			pairs = append(pairs, fmt.Sprint("k", k*37%many), fmt.Sprint(k))
			s += fmt.Sprintf(` k%d="%d"`, k*37%many, k)
		}
		if e, behind := impl.ReadEl(s+"/>", 0, 2); behind != len(s)+2 || !slices.Equal(e.Attrs, attrsOf(pairs...)) {
			t.Errorf("of %d attributes are read %d, up to %d", many, len(e.Attrs), behind)
		}
		for _, twice := range []string{"k0", fmt.Sprint("k", many-1), "k37"} {
			if e, behind := impl.ReadEl(s+" "+twice+`=""/>`, 0, 2); behind != -1 || len(e.Attrs) > 0 {
				t.Errorf("of %d attributes, %s twice, are read %d, up to %d", many, twice, len(e.Attrs), behind)
			}
		}
	}
	// Read tells no more than MaxEls.
	for many, right := range map[int]bool{2999: true, 3000: true, 3001: false, 3002: false, 6000: false} {
		for what, s := range map[string]string{
			"tags in a tag":  "<r" + htmlTold + ">" + strings.Repeat("<p/>", many-1) + "</r>\n",
			"notes in a tag": "<r" + htmlTold + ">" + strings.Repeat("<!---->", many-1) + "</r>\n",
			"texts and tags": "<r" + htmlTold + ">" + strings.Repeat("x<p/>", (many-1)/2) + strings.Repeat("x", (many-1)%2) + "</r>\n",
			"tags with one":  "<r" + htmlTold + ">" + strings.Repeat("<p>x</p>", (many-1)/2) + strings.Repeat("x", (many-1)%2) + "</r>\n",
			"notes ahead":    strings.Repeat("<!--n-->\n", many-1) + rootInXml + "\n",
			"notes behind":   rootInXml + "\n" + strings.Repeat("<!--n-->\n", many-1),
			"here and there": "<!---->\n<r" + htmlTold + ">" + strings.Repeat("<p/>", many-3) + "</r>\n<!---->\n",
		} {
			if got := checkDocRead(t, xmlHead+s); got != right {
				t.Errorf("of %d, %s: Read tells %v", many, what, got)
			}
		}
	}
}

func TestLongTextsRead(t *testing.T) {
	r := func(e impl.El) []impl.El { return elsOf(e) }
	for what, c := range map[string]struct {
		ahead, behind string
		want          func(long string) []impl.El
	}{
		"a text":            {"<r" + htmlTold + ">", "</r>\n", func(long string) []impl.El { return r(tagEl("r", textEl(long))) }},
		"a value":           {"<r" + htmlTold + ` k="`, "\"/>\n", func(long string) []impl.El { return r(withAttrs(tagEl("r"), "k", long)) }},
		"a note":            {rootInXml + "\n<!--", "-->\n", func(long string) []impl.El { return elsOf(tagEl("r"), noteEl(long)) }},
		"a note in it":      {"<r" + htmlTold + "><!--", "--></r>\n", func(long string) []impl.El { return r(tagEl("r", noteEl(long))) }},
		"a name":            {"<", htmlTold + "/>\n", func(long string) []impl.El { return r(tagEl(long)) }},
		"an attribute name": {"<r" + htmlTold + " ", "=\"\"/>\n", func(long string) []impl.El { return r(withAttrs(tagEl("r"), long, "")) }},
	} {
		for many, right := range map[int]bool{199999: true, 200000: true, 200001: false, 200002: false, 300000: false} {
			long := strings.Repeat("x", many-len(xmlHead)-len(c.ahead)-len(c.behind))
			s, want := xmlHead+c.ahead+long+c.behind, c.want(long)
			if impl.Write(want) != s {
				t.Fatalf("%s, %d bytes in all, is written as %s", what, many, shortText(impl.Write(want)))
			}
			if got, ok := impl.Read(s); ok != right || impl.Well(s) != right || right != sameEls(got, want) || !right && len(got) > 0 {
				t.Errorf("%s, %d bytes in all: Read = %s, %v", what, many, shownEls(got...), ok)
			}
			// ReadEl has no such limit.
			if e, behind := impl.ReadEl(s, len(xmlHead), -1); behind < 0 || !impl.SameEl(e, want[0]) {
				t.Errorf("%s, %d bytes in all: ReadEl = %s, %d", what, many, shownEls(e), behind)
			}
		}
	}
	// What is written takes more room than what was read: `>` stands in a text as it is.
	s := xmlHead + "<r" + htmlTold + ">" + strings.Repeat(">", 100000) + "</r>\n"
	list, ok := impl.Read(s)
	if !ok || list[0].Kids[0].Text != strings.Repeat(">", 100000) || impl.Well(impl.Write(list)) {
		t.Errorf("Read of many bytes 62 = %s, %v", shownEls(list...), ok)
	}
}

// xmlPieces are pieces of a strict text, right and wrong ones.
var xmlPieces = []string{
	"<a", "<b", ">", "/>", "</a>", "</b>", "</", "<a>", "<a/>", "<", " ", ` k="v"`, ` j="&lt;"`, svgTold, htmlTold, "x", "&amp;", "&#13;", "&", "]]>", "<!--n-->", "<!--", "-->", "\n", "\r", "\t", "é", "\xff", "\"", "=",
}

func TestRowsOfPiecesRead(t *testing.T) {
	const head, root = xmlHead, rootInXml + "\n"
	for what, c := range map[string]struct {
		long          int
		pieces        []string
		ahead, behind string
		least         int
	}{
		"all":        {3, xmlPieces, "", "", 5},
		"in a tag":   {3, xmlPieces, "<a>", "</a>", 1000},
		"begun":      {3, xmlPieces, "<a", "/>", 50},
		"attributes": {6, []string{" ", "k", "=", "\"", "v", "/"}, "<a", "/>", 5},
		"some":       {4, []string{` k="v"`, ` j=""`, svgTold, ` xmlns=""`, " ", "/", ">", "</a>"}, "<a", "/>", 16},
		"tags":       {6, []string{"<a>", "<b>", "</a>", "</b>", "<a/>", "x"}, "<a>", "</a>", 1000},
		"names":      {4, []string{"a", "b", "<", "/", ">", "</", "<ab"}, "<a", "</a>", 20},
		"spaces":     {4, []string{"<a" + svgTold + ">", "<a" + htmlTold + ">", "<a>", "</a>", "<a" + htmlTold + "/>"}, "<a" + svgTold + ">", "</a>", 10},
		"kids":       {5, []string{"x", "&lt;", "<!---->", "<b/>", "<!--", "-->", ">", "\n"}, "<a>", "</a>", 3000},
	} {
		t.Run("elements: "+what, func(t *testing.T) {
			t.Parallel()
			read := 0
			eachText(c.pieces, c.long, func(s string) {
				if checkElRead(t, c.ahead+s+c.behind, 0, 0) == len(c.ahead+s+c.behind) {
					read++
				}
				checkElRead(t, c.ahead+s, 0, 2)
			})
			if read < c.least {
				t.Error("elements that are read:", read)
			}
		})
	}
	for what, c := range map[string]struct {
		long          int
		pieces        []string
		ahead, behind string
		least         int
	}{
		"all":     {2, append(slices.Clone(xmlPieces), head, root), "", "", 1},
		"lines":   {4, []string{head, root, "<!--n-->", "<!---->\n", "\n", "\r", " ", "x"}, "", "", 5},
		"behind":  {4, []string{root, rootInXml, "<!--n-->", "\n", " ", "x", "<r/>\n", "\r"}, head, "", 5},
		"between": {4, []string{"<!--n-->", "<!--n-->\n", "\n", " ", "x", "&#10;", rootInXml}, head, root, 10},
		"in it":   {3, xmlPieces, head + "<a" + mathTold + ">", "</a>\n", 500},
		"begun":   {4, []string{"<r", htmlTold, svgTold, ` k="v"`, "/>", ">", "</r>", "\n"}, head, "\n", 5},
	} {
		t.Run("documents: "+what, func(t *testing.T) {
			t.Parallel()
			read := 0
			eachText(c.pieces, c.long, func(s string) {
				if checkDocRead(t, c.ahead+s+c.behind) {
					read++
				}
			})
			if read < c.least {
				t.Error("documents that are read:", read)
			}
		})
	}
}

func TestLongRowsOfPiecesRead(t *testing.T) {
	read := 0
	for seed := range 3000 {
		s := longPage(xmlPieces, 3+seed%20, seed)
		for at := range len(s) {
			if s[at] == '<' && checkElRead(t, s, at, seed%5-1) > 0 {
				read++
			}
		}
		checkDocRead(t, xmlHead+s)
		checkDocRead(t, xmlHead+"<r"+htmlTold+">"+s+"</r>\n")
	}
	if read < 500 {
		t.Error("elements that are read:", read)
	}
}

// TestEveryByteChanged: a right text is cut at each of its bytes, and each of them is taken away, doubled, and put another one in its place.
func TestEveryByteChanged(t *testing.T) {
	all := make([]string, 256)
	for n := range all {
		all[n] = string([]byte{byte(n)})
	}
	few := []string{"<", ">", "/", " ", "\n", "\t", "\r", "\"", "=", "&", ";", "#", "-", "!", "?", "x", "a", "0", "]", "\x00", "\x80", "\xc3", "\xff"}
	for _, c := range []struct {
		s      string
		others []string
	}{
		{`<a k="v">x<b/><!--n-->&lt;</a>`, all}, {"<é" + svgTold + ` k="&#9;"/>`, few}, {"<a><a><a/>]]&gt;</a></a>", few}, {xmlHead + rootInXml + "\n", all}, {xmlHead + "<!--n-->\n<r" + htmlTold + ` k="1">a<s` + svgTold + "/><!--m-->&amp;</r>\n<!---->\n", few},
	} {
		check := func(s string) {
			checkElRead(t, s, 0, 0)
			checkDocRead(t, s)
		}
		if _, behind := impl.ReadEl(c.s, 0, 0); behind != len(c.s) && !impl.Well(c.s) {
			t.Errorf("%q is refused", c.s)
		}
		for at := range len(c.s) {
			cut := c.s[:at]
			// Notes may stand behind the element, or not.
			if _, behind := impl.ReadEl(cut, 0, 0); behind != -1 || impl.Well(cut) && !strings.HasSuffix(cut, "</r>\n") {
				t.Errorf("%q is read", cut)
			}
			check(cut)
			check(c.s[at:])
			check(cut + c.s[at+1:])
			check(c.s[:at+1] + c.s[at:])
			for _, other := range c.others {
				check(cut + other + c.s[at+1:])
				check(cut + other + c.s[at:])
			}
		}
	}
}

func TestDocumentsReadByHand(t *testing.T) {
	r, n, x := tagEl("r"), noteEl("n"), textEl("x")
	const root, svg = rootInXml + "\n", "<s" + svgTold + "/>\n"
	for s, want := range map[string][]impl.El{
		root: elsOf(r), "<!--n-->\n" + root: elsOf(n, r), root + "<!--n-->\n": elsOf(r, n), "<!--n-->\n<!---->\n" + root + "<!--n-->\n<!--n-->\n": elsOf(n, noteEl(""), r, n, n), "<!--\n-->\n" + svg: elsOf(noteEl("\n"), spacedEl(1, "s")), "<!--" + root + "-->\n" + svg: elsOf(noteEl(root), spacedEl(1, "s")),
		"<r" + htmlTold + "></r>\n": elsOf(r), "<r" + htmlTold + ">x</r>\n": elsOf(tagEl("r", x)), "<r" + mathTold + ">\n<q/>\n</r>\n": elsOf(spacedEl(2, "r", textEl("\n"), spacedEl(2, "q"), textEl("\n"))), `<r k="1"` + htmlTold + "/>\n": elsOf(withAttrs(r, "k", "1")),
		"<r" + htmlTold + `><s` + svgTold + ` k="&quot;">&#13;<!--n--></s></r>` + "\n": elsOf(tagEl("r", withAttrs(spacedEl(1, "s", textEl("\r"), n), "k", "\""))),
	} {
		got, ok := impl.Read(xmlHead + s)
		if !ok || !sameEls(got, want) {
			t.Errorf("Read(%q) = %s, %v, want %s", xmlHead+s, shownEls(got...), ok, shownEls(want...))
		}
		checkDocRead(t, xmlHead+s)
	}
	heads := []string{
		"", "<?xml version=\"1.0\"?>", "<?xml version=\"1.0\"?>\r\n", "<?xml version=\"1.0\"?>\r", "<?xml version=\"1.0\"?> \n", "<?xml version=\"1.0\"?>\n\n", "<?xml version=\"1.0\"?>\n ", " <?xml version=\"1.0\"?>\n", "\n<?xml version=\"1.0\"?>\n", "\ufeff<?xml version=\"1.0\"?>\n",
		"<?xml version='1.0'?>\n", "<?xml version=\"1.1\"?>\n", "<?xml version=\"1.0\" ?>\n", "<?xml  version=\"1.0\"?>\n", "<?XML version=\"1.0\"?>\n", "<?xml version=\"1.0\" encoding=\"UTF-8\"?>\n", "<?xml version=\"1.0\" standalone=\"yes\"?>\n", "<?xml?>\n", "<?xml version=\"1.0\">\n", "<xml version=\"1.0\"/>\n", "<!--n-->\n" + xmlHead, xmlHead + xmlHead, "<!doctype r>\n", xmlHead + "<!doctype r>\n", xmlHead + "<?r?>\n",
	}
	for _, head := range heads {
		for _, s := range []string{root, "<!--n-->\n" + root, ""} {
			if list, ok := impl.Read(head + s); ok || len(list) > 0 {
				t.Errorf("Read(%q) = %s, %v", head+s, shownEls(list...), ok)
			}
			checkDocRead(t, head+s)
		}
	}
	bodies := []string{
		// No element, two, one that has no Space.
		"", "\n", "<!--n-->\n", "<!--n-->\n<!---->\n", root + root, root + svg, root + "<!--n-->\n" + root, "<r/>\n", "<r></r>\n", root + "<r/>\n", "<r xmlns=\"\"/>\n",
		// Texts and blanks between them, ahead and behind.
		"x" + root, " " + root, "\n" + root, "\t" + root, "\r" + root, "&#10;" + root, root + "x", root + " ", root + "\n", root + "\n\n", root + "\r", root + "x\n", root + " \n", "x\n" + root, "x\n", "x", root + "&amp;\n", "<!--n-->\nx\n" + root, "<!--n-->\n\n" + root, root + "\n<!--n-->\n", root + " <!--n-->\n",
		// Without the byte 10, with another one.
		rootInXml, rootInXml + "\r\n", rootInXml + "\r", rootInXml + " \n", rootInXml + "\n\n", rootInXml + "<!--n-->\n", "<!--n-->" + root, root + "<!--n-->", "<!--n-->\n" + rootInXml, rootInXml + "&#10;", rootInXml + "\v\n", rootInXml + rootInXml + "\n", rootInXml + "x\n",
		// What is wrong in a note or an element.
		"<!--a--b-->\n" + root, "<!--n--->\n" + root, "<!--n-->\n" + root + "<!--", root + "<!--\r-->\n", root + "</r>\n", "<r" + htmlTold + ">\n", "<r" + htmlTold + "></s>\n", "<r" + htmlTold + " />\n", "<r" + htmlTold + "><q" + htmlTold + "/></r>\n", "<r" + htmlTold + ">]]></r>\n", "<r" + htmlTold + ">\xff</r>\n", root + "\xff", root + "\xff\n", root + "\x00",
	}
	for _, s := range bodies {
		if list, ok := impl.Read(xmlHead + s); ok || len(list) > 0 || impl.Well(xmlHead+s) {
			t.Errorf("Read(%q) = %s, %v", xmlHead+s, shownEls(list...), ok)
		}
		checkDocRead(t, xmlHead+s)
	}
}

// TestEverySignStands asks for signs in names, texts, values and notes of a document.
func TestEverySignStands(t *testing.T) {
	read := 0
	check := func(n int) {
		sign := impl.PutSign(n)
		for _, s := range []string{"<r" + htmlTold + ">" + sign + "</r>\n", "<r" + htmlTold + ">&#" + fmt.Sprint(n) + ";</r>\n", "<r" + htmlTold + ` k="` + sign + "\"/>\n", "<!--" + sign + "-->\n" + rootInXml + "\n", "<r" + sign + htmlTold + "/>\n", "<r" + htmlTold + " " + sign + "=\"\"/>\n", rootInXml + sign} {
			if checkDocRead(t, xmlHead+s) {
				read++
			}
		}
	}
	for _, spans := range []kindSpans{textSpans, firstSpans, nextSpans} {
		for _, n := range spanEdges(spans) {
			check(n)
		}
	}
	for n := range 300 {
		check(n)
	}
	if read < 1000 {
		t.Error("documents that are read:", read)
	}
}

// TestWhatWasWrittenIsRead holds promise 19 for trees of every shape, with every Space, any names, texts, values and notes.
func TestWhatWasWrittenIsRead(t *testing.T) {
	n := noteEl("n")
	check := func(t *testing.T, e impl.El, abouts ...int) {
		t.Helper()
		for _, about := range abouts {
			checkElSaidAndRead(t, e, about)
		}
		for _, list := range [][]impl.El{elsOf(e), elsOf(n, e), elsOf(e, n, noteEl(""))} {
			if !impl.DocOk(list) {
				t.Fatalf("%s is no document", shownEls(list...))
			}
			checkWrittenAndRead(t, list)
		}
	}
	t.Run("small trees", func(t *testing.T) {
		t.Parallel()
		many := 0
		eachSmallEl(4, elsOf(textEl("<"), noteEl("")), func(e impl.El) {
			if impl.ElOk(e) {
				eachSpaced(e, func(e impl.El) {
					many++
					check(t, e, many%3, -1)
				})
			}
		})
		if many < 1000 {
			t.Error("trees that are read:", many)
		}
	})
	t.Run("changed trees", func(t *testing.T) {
		t.Parallel()
		many := 0
		for _, e := range elsOf(elToTry(), tagEl("p", elToTry(), textEl("x"), elToTry()), nestedEl(50, elToTry(), elsOf(noteEl("")), elsOf(textEl("x")))) {
			check(t, e, 0, 1, 2, -1, 3)
			for _, c := range elChanges() {
				for _, other := range changedEls(e, c.change) {
					if impl.ElOk(other) && other.Kind == impl.ElTag {
						many++
						check(t, other, many%5-1)
					} else if said := impl.ElSaid(other, 0); said != "" && other.Kind == impl.ElTag || impl.Well(impl.Write(elsOf(other))) {
						t.Fatalf("%s: %s is said as %s", c.what, shownEls(other), shortText(said))
					}
				}
			}
		}
		if many < 500 {
			t.Error("trees that are read:", many)
		}
	})
	t.Run("trees of any signs", func(t *testing.T) {
		t.Parallel()
		for seed := range 300 {
			c := chance(seed + 1)
			check(t, chanceSigns(&c, chanceEl(&c, 1+seed*2, 60)), seed%3, -1)
		}
	})
	t.Run("texts", func(t *testing.T) {
		t.Parallel()
		textsToEscape(func(s string) {
			note := noteEl(impl.NoteOf(s))
			e := withAttrs(tagEl(impl.NameOf(s), note), "k", s, impl.NameOf("k"+s), "")
			if s != "" {
				e.Kids = append(e.Kids, textEl(s), tagEl("q", textEl(s)))
			}
			// The other attribute may have the name of the first one, or tell a Space.
			if !impl.ElOk(e) {
				e.Attrs = e.Attrs[:1]
			}
			list := elsOf(note, e)
			if got, ok := impl.Read(impl.Write(list)); !ok || !sameEls(got, list) {
				t.Fatalf("%s is read as %s, %v", shownEls(list...), shownEls(got...), ok)
			}
		})
	})
	t.Run("documents", func(t *testing.T) {
		t.Parallel()
		var grow func(list []impl.El)
		grow = func(list []impl.El) {
			if impl.DocOk(list) {
				checkWrittenAndRead(t, list)
			} else if impl.Well(impl.Write(list)) {
				t.Fatalf("%s is written and read", shownEls(list...))
			}
			for _, e := range elsOf(noteEl(""), noteEl("\n"), spacedEl(1, "p", textEl("\n")), elToTry(), textEl("\n")) {
				if len(list) < 4 {
					grow(append(slices.Clone(list), e))
				}
			}
		}
		grow(nil)
	})
}

// TestPagesWrittenAndRead: what is made of a page and written is read as it was.
func TestPagesWrittenAndRead(t *testing.T) {
	check := func(s string) {
		doc := impl.DocOf(impl.Html(s))
		// Only where notes take all the room there is no tag.
		if impl.DocOk(doc) {
			checkWrittenAndRead(t, doc)
		} else if len(s) < 3*2990 {
			t.Fatalf("nothing is made of %q", shortText(s))
		}
	}
	eachText([]string{"<p>", "x", "<svg>", "</svg>", "<b k='&#13;\n'>", "<!--a--b-->", "&lt;", "\r", "]]>", "<x:y a:b=\"\t\" xmlns=z>", "\xff"}, 3, check)
	var all []string
	for _, word := range everyWord() {
		all = append(all, impl.Spell(wordsOf(word)))
	}
	for seed := range 150 {
		check(longPage(all, 1+seed%70, seed))
	}
	for page := range deepPages() {
		check(page)
	}
	for _, piece := range []string{"<br>", "<svg>", "x<br>", "<!>x", "<!>"} {
		check(strings.Repeat(piece, 3500))
	}
}

// TestTheLibraryReadsTheSameElements: what is read is no other to the library's reader.
func TestTheLibraryReadsTheSameElements(t *testing.T) {
	many := 0
	check := func(s string) {
		e, behind := impl.ReadEl(s, 0, 0)
		if behind < 0 || !readable(e) {
			return
		}
		many++
		got, err := libraryEls("<about" + htmlTold + ">" + s[:behind] + "</about>")
		if want := spacedEl(0, "about", e); err != nil || len(got) != 1 || plainElShown(got[0]) != plainElShown(want) {
			t.Fatalf("%q is read as %s, by the library as %s: %v", shortText(s[:behind]), shownEls(want), shownEls(got...), err)
		}
	}
	eachText(xmlPieces, 3, func(s string) {
		check("<a>" + s + "</a>")
		check("<a" + s + "/>")
	})
	eachText([]string{"<a>", "</a>", "<b" + svgTold + ">", "</b>", "<a" + htmlTold + "/>", "x", "<!---->"}, 5, func(s string) { check("<a>" + s + "</a>") })
	if many < 2000 {
		t.Error("elements that are read:", many)
	}
}

// textsToRead are such as are read and such as are not, with elements, lists of attributes and of kids of every kind.
func textsToRead() []string {
	said := func(e impl.El) string { return impl.ElSaid(e, 0) }
	list := []string{said(elToTry()), said(nestedEl(59, tagEl("q"), elsOf(noteEl("")), nil)), said(nestedEl(60, tagEl("q"), nil, nil)), said(tagEl("a")), `<a k="1" j="2"><b k="3"/><c/><b k="4"><d i="5"/>x</b></a>`, "<a>", "", "\xff"}
	for seed := range 20 {
		c := chance(seed + 1)
		list = append(list, said(chanceSigns(&c, chanceEl(&c, 10+seed*3, 60))))
	}
	for _, s := range slices.Clone(list) {
		doc := xmlHead + "<!--n-->\n<r" + mathTold + ` k="v"><s` + htmlTold + ">" + s + "</s></r>\n<!---->\n"
		list = append(list, doc, strings.TrimSuffix(doc, "\n"))
	}
	return list
}

// readTold is all that ReadEl tells from each place of that text on, and what Read and Well tell of it.
func readTold(s string) string {
	var told strings.Builder
	for at := -1; at <= len(s)+1; at++ {
		if at < 0 || at >= len(s) || s[at] == '<' {
			e, behind := impl.ReadEl(s, at, 0)
			fmt.Fprint(&told, plainElShown(e), behind, "\n")
		}
	}
	list, ok := impl.Read(s)
	for _, e := range list {
		told.WriteString(plainElShown(e))
	}
	return told.String() + fmt.Sprint(ok, impl.Well(s))
}

func TestWhatIsReadIsNewMemory(t *testing.T) {
	for _, s := range textsToRead() {
		given := strings.Clone(s)
		want := readTold(given)
		var all [][]impl.El
		for range 2 {
			e, _ := impl.ReadEl(given, 0, 0)
			list, _ := impl.Read(given)
			all = append(all, elsOf(e), list)
		}
		var wants [][]impl.El
		for _, list := range all {
			wants = append(wants, copiedEls(list))
		}
		for k, list := range all {
			spoilOneByOne(t, list, wants[k])
			for later := k + 1; later < len(all); later++ {
				if !sameEls(all[later], wants[later]) {
					t.Fatalf("what is told of %s at two times shares memory", shortText(s))
				}
			}
		}
		if given != s || readTold(given) != want {
			t.Fatalf("of %s is told otherwise when what was told is written into", shortText(s))
		}
	}
}

// spoilOneByOne writes into each list of those elements, and into the room behind it, one list after the other; the lists still to come must not feel it.
func spoilOneByOne(t *testing.T, list, want []impl.El) {
	t.Helper()
	for k := range list {
		if !sameEls(list[k:], want[k:]) {
			t.Fatalf("%s shares memory with what is beside it", shownEls(want[k:]...))
		}
		spoilItem(impl.Item{Attrs: list[k].Attrs})
		list[k].Attrs = want[k].Attrs
		spoilOneByOne(t, list[k].Kids, want[k].Kids)
		list[k].Kids = want[k].Kids
	}
	if !sameEls(list, want) {
		t.Fatalf("%s shares memory with what is in it", shownEls(want...))
	}
	clear(list[:cap(list)])
}

func TestReadAtOnceAndAgain(t *testing.T) {
	all := append(textsToRead(), wrongElements()...)
	for k, s := range all {
		if k%10 > 0 && k > 50 {
			continue
		}
		want := readTold(s)
		t.Run(fmt.Sprint(k), func(t *testing.T) {
			t.Parallel()
			for round := range 5 {
				readTold(all[(k*7+round)%len(all)])
				if readTold(s) != want {
					t.Fatalf("of %s is told otherwise when it is asked again", shortText(s))
				}
				// The same bytes within another text.
				if readTold(("é" + s + "\xff")[2:2+len(s)]) != want {
					t.Fatalf("of %s is told otherwise where it is a part of another text", shortText(s))
				}
			}
		})
	}
}
