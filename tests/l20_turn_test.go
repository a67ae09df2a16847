package tests

import (
	"fmt"
	"runtime"
	"strings"
	"testing"
	"testing/synctest"
	"time"

	"loop.example/g00325/impl"
)

// checkTurn holds Turn against the rule, and what is promised of it: what is turned is read, and turned again it is the same.
func checkTurn(t *testing.T, s string) (string, int) {
	t.Helper()
	text, how := impl.Turn(s)
	if want, wantHow := plainTurn(s); text != want || how != wantHow {
		t.Fatalf("Turn(%s) = %s, %d, want %s, %d", shortText(s), shortText(text), how, shortText(want), wantHow)
	}
	if how != impl.CvDone {
		if text != "" {
			t.Fatalf("Turn(%s) = %s, %d", shortText(s), shortText(text), how)
		}
		return text, how
	}
	doc := impl.DocOf(impl.Html(s))
	if got, ok := impl.Read(text); !ok || !sameEls(got, doc) {
		t.Fatalf("Turn(%s) = %s, which is read as %s, %v, want %s", shortText(s), shortText(text), shownEls(got...), ok, shownEls(doc...))
	}
	if again, ok := impl.Again(text); again != text || !ok {
		t.Fatalf("Turn(%s) = %s, turned again %s, %v", shortText(s), shortText(text), shortText(again), ok)
	}
	return text, how
}

// checkAgain holds Again against the rule; what it told is told again, but where it is too long to be read.
func checkAgain(t *testing.T, s string) (string, bool) {
	t.Helper()
	text, ok := impl.Again(s)
	if want, wantOk := plainAgain(s); text != want || ok != wantOk || ok != impl.Well(s) || ok != (text != "") {
		t.Fatalf("Again(%s) = %s, %v, want %s, %v", shortText(s), shortText(text), ok, shortText(want), wantOk)
	}
	short := ok && len(text) <= impl.MaxXml
	if again, againOk := impl.Again(text); againOk != short || short && again != text || !short && again != "" {
		t.Fatalf("Again(%s) = %s, and of that %s, %v", shortText(s), shortText(text), shortText(again), againOk)
	}
	return text, ok
}

func checkWordsOf(t *testing.T, list []impl.El) string {
	t.Helper()
	got := impl.WordsOf(list)
	if want := plainWordsOf(list); got != want {
		t.Fatalf("WordsOf(%s) = %s, want %s", shownEls(list...), shortText(got), shortText(want))
	}
	return got
}

func checkTextsOf(t *testing.T, list []impl.Item) string {
	t.Helper()
	got := impl.TextsOf(list)
	if want := plainTextsOf(list); got != want {
		t.Fatalf("TextsOf(%s) = %s, want %s", shownItems(list), shortText(got), shortText(want))
	}
	return got
}

// checkPageWords holds WordsOf and TextsOf of what a page becomes against the rules.
func checkPageWords(t *testing.T, s string) {
	t.Helper()
	list := impl.Html(s)
	words, texts := checkWordsOf(t, impl.DocOf(list)), checkTextsOf(t, list)
	if impl.Deep(list) <= impl.MaxDeep && plainMostOpen(impl.Scan(s)) <= impl.MaxOpen && words != texts {
		t.Fatalf("of %s WordsOf are %s, TextsOf %s", shortText(s), shortText(words), shortText(texts))
	}
}

// inHtml is the strict text of an html with that in it.
func inHtml(s string) string { return xmlHead + "<html" + htmlTold + ">" + s + "</html>\n" }

func inBody(s string) string { return inHtml("<body>" + s + "</body>") }

func TestTurnByHand(t *testing.T) {
	const empty = "<head/><body/>"
	for page, want := range map[string]string{
		"": inHtml(empty), "<html>": inHtml(empty), " \n\t": inHtml(empty), "<head>": inHtml(empty), "<title></title>": inHtml("<head><title/></head><body/>"),
		"x": inBody("x"), "a<b": inBody("a"), "a < b": inBody("a &lt; b"), "<>": inBody("&lt;&gt;"), "&lt;p&gt;": inBody("&lt;p&gt;"), "]]>": inBody("]]&gt;"), "&amp;amp;": inBody("&amp;amp;"), "a&b;": inBody("a&amp;b;"), "'\"": inBody("'\""),
		// Tags that are left open, cross each other, or stand where they may not.
		"<p>a<br>b": inBody("<p>a<br/>b</p>"), "<p>a<p>b": inBody("<p>a</p><p>b</p>"), "<p>a<b>b<p>c": inBody("<p>a<b>b</b></p><p><b>c</b></p>"), "<b>a<i>b</b>c": inBody("<b>a<i>b</i></b><i>c</i>"), "<ul><li>a<li>b": inBody("<ul><li>a</li><li>b</li></ul>"), "x</p>": inBody("x<p/>"), "</p>": inHtml(empty), "</q>x": inBody("x"), "<br></br>": inBody("<br/>"), "<p><div>x": inBody("<p/><div>x</div>"),
		"<table>x<td>y": inBody("x<table><tbody><tr><td>y</td></tr></tbody></table>"), "<td>x": inBody("x"), "<tr><h1>a<h2>b": inBody("<h1>a</h1><h2>b</h2>"),
		// Attributes whose names are not strict, and values.
		"<p x:y=1>": inBody(`<p xU00003Ay="1"/>`), "<p 1=a>": inBody(`<p U000031="a"/>`), "<p \"=a>": inBody(`<p U000022="a"/>`), "<p a=1 a=2>": inBody(`<p a="1"/>`), "<p x:y=1 xu00003ay=2>": inBody(`<p xU00003Ay="1" xu00003ay="2"/>`), "<p xmlns=a b>": inBody(`<p b=""/>`), "<p xmlns:a=b>": inBody(`<p xmlnsU00003Aa="b"/>`), "<p A=B>": inBody(`<p a="B"/>`),
		"<p a='\t\n\"<>&amp;'>": inBody(`<p a="&#9;&#10;&quot;&lt;&gt;&amp;"/>`), "<p a='&#13;&#12;&#1;'>": inBody("<p a=\"&#13; " + badBytes + "\"/>"), "<html x:y=1>": xmlHead + "<html" + htmlTold + ` xU00003Ay="1">` + empty + "</html>\n", "<body a=1>x": inHtml(`<body a="1">x</body>`),
		// Names of tags.
		"<x:y>a</x:y>": inBody("<xU00003Ay>a</xU00003Ay>"), "<P>a": inBody("<p>a</p>"), "<a1-.>": inBody("<a1-./>"), "<a\xff>": inBody("<a" + badBytes + "/>"), "<q\"r>": inBody("<qU000022r/>"),
		// Notes and kinds.
		"<!--a--b--><p>x": xmlHead + "<!--a- -b-->\n<html" + htmlTold + "><body><p>x</p></body></html>\n", "<!-->x": xmlHead + "<!---->\n<html" + htmlTold + "><body>x</body></html>\n", "<p><!--n-->x": inBody("<p><!--n-->x</p>"), "x<!---a--->": inBody("x<!---a- -->"), "<!a><?b>": xmlHead + "<!--a-->\n<!--?b-->\n<html" + htmlTold + ">" + empty + "</html>\n",
		"<!doctype html>x": inBody("x"), "<!doctype html><!--n-->": xmlHead + "<!--n-->\n<html" + htmlTold + ">" + empty + "</html>\n", "x<!doctype html>y": inBody("xy"),
		// Other spaces.
		"<svg><g/>x</svg>y": inBody("<svg" + svgTold + "><g/>x</svg>y"), "<math><mi>x": inBody("<math" + mathTold + "><mi>x</mi></math>"), "<svg/><math/>": inBody("<svg" + svgTold + "/><math" + mathTold + "/>"), "<svg xmlns=http://www.w3.org/2000/svg>": inBody("<svg" + svgTold + "/>"), "<svg a=1><p>x": inBody("<svg" + svgTold + ` a="1"/><p>x</p>`), "<svg><br>x": inBody("<svg" + svgTold + "><br>x</br></svg>"),
		// Heads, and texts that are taken as they are.
		"<title>a&amp;b</title>x": inHtml("<head><title>a&amp;b</title></head><body>x</body>"), "<script>1<2&amp;</script>": inHtml("<head><script>1&lt;2&amp;amp;</script></head><body/>"), "x<script></script>": inBody("x<script/>"), "<style>]]></style>": inHtml("<head><style>]]&gt;</style></head><body/>"),
		// Signs that are none, and such as may not stand.
		"\xff": inBody(badBytes), "\x00": inBody(badBytes), "a\x0cb": inBody("a b"), "x&#13;": inBody("x&#13;"), "&#13;": inHtml(empty), "a\r\nb": inBody("a\nb"), "&#128;&#xffff;": inBody("€" + badBytes), "\ufeffx": inBody("\ufeffx"), "é😀": inBody("é😀"), "<!--\x00\r-->": xmlHead + "<!--" + badBytes + "\n-->\n<html" + htmlTold + ">" + empty + "</html>\n",
	} {
		if text, how := impl.Turn(page); text != want || how != impl.CvDone {
			t.Errorf("Turn(%q) = %q, %d, want %q", page, text, how, want)
		}
		checkTurn(t, page)
		checkPageWords(t, page)
	}
	if impl.CvDone != 0 || impl.CvLong != 1 || impl.CvRoom != 2 || impl.CvXml != 3 {
		t.Error("the numbers of how it went are others")
	}
}

// TestTurnByAllRules holds Turn against the rules of all chapters that come into it, without what the program makes of words.
func TestTurnByAllRules(t *testing.T) {
	pieces := []string{"<p>", "x", "<table>", "<td>", "</table>", "<b k='&#13;\n\"'>", "</b>", "<svg>", "</svg>", "<title>", "</title>", " ", "<!--a--b-->", "<body a:b>", "<html xmlns=1>", "<li>", "<a>", "</p>", "<!doctype k>", "\x00", "<x:y>", "&lt;"}
	for seed := range 150 {
		page := longPage(pieces, seed/4, seed)
		want := plainWrite(plainDocOf(plainFinish(plainMake(impl.Scan(page))).Items))
		if text, how := impl.Turn(page); text != want || how != impl.CvDone {
			t.Errorf("Turn(%q) = %s, %d, want %s", page, shortText(text), how, shortText(want))
		}
	}
}

func TestAgainByHand(t *testing.T) {
	in := func(s string) string { return xmlHead + "<r" + htmlTold + ">" + s + "</r>\n" }
	root := func(attrs string) string { return xmlHead + "<r" + attrs + "/>\n" }
	for s, want := range map[string]string{
		root(htmlTold): root(htmlTold), in("x"): in("x"), in(""): root(htmlTold), root(svgTold): root(svgTold), in("<a></a>"): in("<a/>"), in("<a>x</a><!--n-->"): in("<a>x</a><!--n-->"), in("\n\t"): in("\n\t"),
		// References, and bytes that are escaped though they may stand.
		in("&#65;&apos;&quot;"): in("A'\""), in("&#10;&#9;&#13;"): in("\n\t&#13;"), in(">]]"): in("&gt;]]"), in("&#60;&#38;&#62;"): in("&lt;&amp;&gt;"), in("&#233;&#128512;"): in("é😀"), in("&lt;a/&gt;"): in("&lt;a/&gt;"), in("&amp;lt;"): in("&amp;lt;"),
		root(htmlTold + ` k="'>&#65;&apos;&quot;&#9;&#10;"`): root(htmlTold + ` k="'&gt;A'&quot;&#9;&#10;"`),
		// Attributes about xmlns, and one that is told by references.
		root(` k="v"` + htmlTold + ` j=""`): root(htmlTold + ` k="v" j=""`), root(` k="v" j=""` + svgTold): root(svgTold + ` k="v" j=""`), root(` xmlns="http:&#47;/www.w3.org/2000/sv&#103;"`): root(svgTold), in(`<a k="v"` + mathTold + `><b/></a>`): in("<a" + mathTold + ` k="v"><b/></a>`),
		xmlHead + "<!--n-->\n<r" + htmlTold + "></r>\n<!---->\n": xmlHead + "<!--n-->\n<r" + htmlTold + "/>\n<!---->\n",
	} {
		if text, ok := impl.Again(s); text != want || !ok {
			t.Errorf("Again(%q) = %q, %v, want %q", s, text, ok, want)
		}
		checkAgain(t, s)
	}
	for _, s := range append(wrongElements(), "", "x", "<p>", xmlHead, xmlHead+"\n", xmlHead+"x\n", xmlHead+"<!--n-->\n", xmlHead+"<r/>\n", xmlHead+rootInXml, rootInXml+"\n", xmlHead+rootInXml+"\n"+rootInXml+"\n", in("<a"+htmlTold+"/>"), in("\r"), in("&nbsp;"), in("\x00"), in("\xff"), in("<a k=\"\n\"/>")) {
		for _, whole := range []string{s, xmlHead + s + "\x00\n"} {
			if text, ok := impl.Again(whole); text != "" || ok {
				t.Errorf("Again(%q) = %q, %v", whole, text, ok)
			}
		}
		checkAgain(t, in(s))
		checkAgain(t, xmlHead+s+"\n")
	}
}

func TestWordsOfByHand(t *testing.T) {
	a, b, n := textEl("a"), textEl("b"), noteEl("n")
	in := func(kind int, kids ...impl.El) impl.El { return impl.El{Kind: kind, Text: "t", Name: "n", Kids: kids} }
	for _, c := range []struct {
		want string
		list []impl.El
	}{
		{"", nil}, {"", []impl.El{}}, {"", elsOf(a)[:0]}, {"a", elsOf(a)}, {"ab", elsOf(a, b)}, {"ba", elsOf(b, a)}, {"aa", elsOf(a, textEl(""), a)}, {"", elsOf(n)}, {"", elsOf(tagEl("p"), n, tagEl("q", n))}, {"a", elsOf(n, a, n)},
		{"a", elsOf(tagEl("p", a))}, {"ab", elsOf(tagEl("p", a), b)}, {"ba", elsOf(b, tagEl("p", a))}, {"abab", elsOf(tagEl("p", a, tagEl("q", b), a), b)}, {"abbab", elsOf(a, tagEl("p", b, tagEl("q"), tagEl("q", n, b), n, a), tagEl("p"), b)}, {"ab", elsOf(tagEl("p", tagEl("q", tagEl("r", a)), b))}, {"abba", elsOf(tagEl("p", tagEl("q", a, b)), tagEl("p", tagEl("q", b, a)))},
		// Texts that stay as they are, strict or not.
		{"<&>\r\n", elsOf(textEl("<&>\r\n"))}, {"\xff\x00\f", elsOf(textEl("\xff"), tagEl("p", textEl("\x00\f")))}, {"\xe2\x82\xac", elsOf(textEl("\xe2\x82"), textEl("\xac"))},
		// Within what is no tag: each one's text ahead of those in it.
		{"tab", elsOf(in(impl.ElText, a, b))}, {"tatb", elsOf(in(impl.ElText, a, in(impl.ElText), b))}, {"ab", elsOf(in(impl.ElTag, a, b))}, {"ab", elsOf(in(impl.ElNote, a, b))}, {"ab", elsOf(in(0, a, b))}, {"ab", elsOf(in(4, a), in(-1, b))}, {"attb", elsOf(in(0, a, in(2, in(1, in(2, in(3))), b)))},
		{"", elsOf(in(0), in(1), in(3), in(4), in(-2), in(1<<32+2))}, {"aba", elsOf(a, nestedEl(200, b, elsOf(n), nil), a)},
	} {
		if got := impl.WordsOf(c.list); got != c.want {
			t.Errorf("WordsOf(%s) = %q, want %q", shownEls(c.list...), got, c.want)
		}
		checkWordsOf(t, c.list)
	}
	for page, want := range map[string]string{
		"": "", "x": "x", "<p>a<b>b<p>c": "abc", "<title>a</title>b<script>c</script>": "abc", "<!--n-->x<!doctype k>y": "xy", "<p k=v>a<br>b</p> c\r\n": "ab c\n", "<svg>a<g>b</svg>c": "abc", "<table>x<td>y</table>z": "xyz", "\x00\f&#13;": badBytes + " \r", "<b>a<i>b</b>c</i>d": "abcd", "<q": "",
	} {
		list := impl.Html(page)
		if words, texts := impl.WordsOf(impl.DocOf(list)), impl.TextsOf(list); words != want || texts != want {
			t.Errorf("of Html(%q) WordsOf are %q, TextsOf %q, want %q", page, words, texts, want)
		}
	}
}

func TestWordsOfManyElements(t *testing.T) {
	const many = 500000
	long := strings.Repeat("x", many)
	x := textEl("x")
	for what, list := range map[string][]impl.El{
		"beside":             timesEl(many, x),
		"in tags":            timesEl(many, tagEl("p", x)),
		"in tags in a tag":   elsOf(tagEl("p", timesEl(many, tagEl("p", x))...)),
		"in each other":      elsOf(unkindly(many, 0, textEl(long))),
		"in tags, first":     elsOf(nestedEl(many, noteEl(""), elsOf(x), nil)),
		"in tags, last":      elsOf(nestedEl(many, tagEl("q"), nil, elsOf(x))),
		"shared by many":     timesEl(1000, tagEl("p", timesEl(500, x)...)),
		"one that is long":   elsOf(tagEl("p", textEl(long), noteEl(long))),
		"two halves of them": elsOf(nestedEl(many/2, noteEl(""), elsOf(x), elsOf(x))),
	} {
		if got := impl.WordsOf(list); got != long {
			t.Errorf("%s: WordsOf are %d bytes, %s", what, len(got), shortText(got))
		}
	}
	// Texts within each other, each one's ahead of those in it and behind those beside it.
	deep := textEl("0")
	want := "0"
	for k := 1; k < 2000; k++ {
		deep = impl.El{Kind: impl.ElText, Text: fmt.Sprint(k, ","), Kids: elsOf(textEl("a"), deep, textEl("b"))}
		want = fmt.Sprint(k, ",") + "a" + want + "b"
	}
	if got := impl.WordsOf(elsOf(deep)); got != want {
		t.Errorf("WordsOf of texts within each other are %s", shortText(got))
	}
	// A list that is the kids of several.
	twice := textEl("x")
	for range 12 {
		twice = tagEl("p", twice, twice)
	}
	if got := impl.WordsOf(elsOf(twice)); got != strings.Repeat("x", 1<<12) {
		t.Errorf("WordsOf of shared ones are %s", shortText(got))
	}
}

func TestTextsOfByHand(t *testing.T) {
	x, y := textItem("x", 1), textItem("y", 1)
	bare := itemsOf(pageItem())
	bare[0].Text, bare[0].Name = "t", "n"
	for _, c := range []struct {
		want string
		list []impl.Item
	}{
		{"", nil}, {"", []impl.Item{}}, {"", itemsOf(pageItem())}, {"", bare}, {"", itemsOf(tagItem("p", -1))}, {"", itemsOf(textItem("x", -1))},
		// Texts of the first item are none of them.
		{"", beside(textItem("x", 0))}, {"", beside(textItem("x", 0), textItem("y", 0), tagItem("p", 0), textItem("z", 0))}, {"", flatTree(9)}, {"", flatTree(impl.MaxItems)}, {"x", itemsOf(pageItem(1, 2, 3), textItem("a", 0), tagItem("p", 0, 4), textItem("b", 0), textItem("x", 2))},
		{"x", treeOf("p", 0, x)}, {"xy", treeOf("p", 0, x, y)}, {"yxx", treeOf("p", 2, y, noteItem("n", 1), x, kindItem("k", 1), tagItem("q", 1), textItem("", 1), x)}, {"", treeOf("p", 0, noteItem("n", 1), kindItem("k", 1))},
		// By Kids, not by numbers; in each tag of the first item, and in tags within each other.
		{"abcd", itemsOf(pageItem(4, 1), tagItem("p", 0, 3, 2), textItem("d", 1), textItem("c", 1), tagItem("q", 0, 6, 5), textItem("b", 4), textItem("a", 4))}, {"badc", treeToTry()},
		{"abc", itemsOf(pageItem(1), tagItem("p", 0, 2, 3, 5), textItem("a", 1), tagItem("q", 1, 4), textItem("b", 3), textItem("c", 1))}, {"x", within(nested("p", "q", "r"), textItem("x", 3))}, {"x", within(deepTree(100), textItem("x", 99))},
		// Each by itself: the bytes of a sign that stand in two texts are none.
		{"a b" + badBytes + "\r\n", treeOf("p", 0, textItem("a\fb", 1), textItem("\x01\r\n", 1))}, {badBytes + badBytes, treeOf("p", 0, textItem("\xe2\x82", 1), textItem("\xac", 1))}, {"<&>]]>\ufeff" + badBytes + badBytes, treeOf("script", 0, textItem("<&>]]>\ufeff\ufffe\xff", 1))},
	} {
		if got := impl.TextsOf(c.list); got != c.want {
			t.Errorf("TextsOf(%s) = %q, want %q", shownItems(c.list), got, c.want)
		}
		checkTextsOf(t, c.list)
	}
	for _, list := range append(wrongTrees(), faultyTrees()...) {
		if got := impl.TextsOf(list); got != "" {
			t.Errorf("TextsOf(%s) = %q", shownItems(list), got)
		}
	}
	// A fault behind all texts, and one item too many.
	for many, want := range map[int]string{impl.MaxItems: "x", impl.MaxItems + 1: ""} {
		list := within(deepTree(many-1), textItem("x", many-2))
		if got := impl.TextsOf(list); got != want || len(list) != many {
			t.Errorf("of %d items TextsOf are %q", many, got)
		}
		list[many-2].Text = "t"
		if got := impl.TextsOf(list); got != "" {
			t.Errorf("of %d items with a fault TextsOf are %q", many, got)
		}
	}
}

func TestWordsAndTextsOfSmallLists(t *testing.T) {
	some := 0
	numbers := []int{0, 1, 2}
	listsOfItems(3, numberLists(numbers, 2), []int{impl.ItPage, impl.ItTag, impl.ItText, impl.ItNote}, []int{-1, 0, 1, 2}, numberLists(numbers, 1), func(list []impl.Item) {
		if checkTextsOf(t, list) != "" {
			some++
		}
	})
	eachTree(5, func(list []impl.Item) {
		if checkTextsOf(t, list) != "" {
			some++
		}
	})
	if some < 300 {
		t.Error("lists with texts:", some)
	}
	eachSmallEl(4, elsOf(textEl("a"), textEl("b"), impl.El{Kind: 4, Text: "c"}), func(e impl.El) {
		checkWordsOf(t, elsOf(e))
		// The same shape with other Kinds.
		e = copiedEl(e)
		e.Kind, e.Text = impl.ElText, "t"
		for k := range e.Kids {
			e.Kids[k].Kind = (e.Kids[k].Kind + k) % 5
		}
		checkWordsOf(t, elsOf(e, textEl("x"), e))
	})
	for _, a := range wrongEls() {
		checkWordsOf(t, elsOf(a, tagEl("p", a, textEl("x"), a)))
	}
	for seed := range 200 {
		c := chance(seed + 1)
		list := chanceTree(&c, 2+seed/2, 1+seed%5)
		checkTextsOf(t, list)
		checkWordsOf(t, impl.DocOf(list))
		checkWordsOf(t, elsOf(chanceEl(&c, 1+seed*2, 60), noteEl("n"), chanceEl(&c, seed, 60)))
	}
}

func TestTurnUpToMaxPage(t *testing.T) {
	for many, how := range map[int]int{19999: impl.CvDone, 20000: impl.CvDone, 20001: impl.CvLong, 20002: impl.CvLong, 60000: impl.CvLong, 3000000: impl.CvLong} {
		for piece, escaped := range map[string]string{"x": "x", "<": "&lt;", "&": "&amp;", ">": "&gt;", "\"": "\""} {
			text, got := checkTurn(t, strings.Repeat(piece, many))
			if got != how || how == impl.CvDone && text != inBody(strings.Repeat(escaped, many)) {
				t.Errorf("%d bytes of %q: Turn = %s, %d", many, piece, shortText(text), got)
			}
		}
		note := strings.Repeat("n", many-4)
		text, got := checkTurn(t, "<!--"+note)
		if got != how || how == impl.CvDone && text != xmlHead+"<!--"+note+"-->\n"+strings.TrimPrefix(inHtml("<head/><body/>"), xmlHead) {
			t.Errorf("a long note, %d bytes: Turn = %s, %d", many, shortText(text), got)
		}
	}
	// The bytes of the page itself are counted: those that grow when they are made clean are not too long, though Scan tells nothing
	// of them where they grow beyond it; those of which lines are made are, though Scan tells something of them.
	for _, c := range []struct {
		page string
		how  int
		want string
	}{
		{strings.Repeat("\xff", 6666), impl.CvDone, inBody(strings.Repeat(badBytes, 6666))}, {strings.Repeat("\xff", 6667), impl.CvDone, inHtml("<head/><body/>")}, {strings.Repeat("\xff", 20000), impl.CvDone, inHtml("<head/><body/>")}, {strings.Repeat("\xff", 20001), impl.CvLong, ""},
		{"x" + strings.Repeat("\x00", 19999), impl.CvDone, inBody("x" + strings.Repeat(badBytes, 19999))}, {strings.Repeat("\x00", 20001), impl.CvLong, ""}, {strings.Repeat("é", 10000), impl.CvDone, inBody(strings.Repeat("é", 10000))}, {"x" + strings.Repeat("é", 10000), impl.CvLong, ""},
		{strings.Repeat("x\r\n", 6666) + "x\n", impl.CvDone, inBody(strings.Repeat("x\n", 6667))}, {strings.Repeat("x\r\n", 6666) + "x\r\n", impl.CvLong, ""}, {"x" + strings.Repeat("\r\n", 10000), impl.CvLong, ""}, {strings.Repeat(" ", 20000), impl.CvDone, inHtml("<head/><body/>")}, {strings.Repeat(" ", 20001), impl.CvLong, ""},
	} {
		if text, how := checkTurn(t, c.page); how != c.how || text != c.want {
			t.Errorf("Turn(%s), %d bytes, = %s, %d, want %s, %d", shortText(c.page), len(c.page), shortText(text), how, shortText(c.want), c.how)
		}
	}
}

// checkItems asks for the code of a page that makes so many items.
func checkItems(t *testing.T, page string, items int) {
	t.Helper()
	want := impl.CvDone
	if items == impl.MaxItems {
		want = impl.CvRoom
	}
	if got := len(impl.Html(page)); got != items {
		t.Errorf("Html(%s) has %d items, want %d", shortText(page), got, items)
	}
	if text, how := checkTurn(t, page); how != want || (text == "") != (want == impl.CvRoom) {
		t.Errorf("Turn(%s) of %d items = %s, %d", shortText(page), items, shortText(text), how)
	}
}

func TestTurnUpToMaxItems(t *testing.T) {
	for _, items := range []int{2998, 2999, 3000, 3001} {
		most := min(items, impl.MaxItems)
		checkItems(t, strings.Repeat("<br>", items-3), most)
		checkItems(t, strings.Repeat("<!>", items-4), most)
		checkItems(t, "x"+strings.Repeat("<!>", items-4), most)
		checkItems(t, strings.Repeat("<p>x", (items-3)/2)+strings.Repeat("<p>", (items-3)%2), most)
		checkItems(t, "<svg>"+strings.Repeat("<a/>x", (items-4)/2)+strings.Repeat("<a/>", (items-4)%2), most)
		checkItems(t, "<table>"+strings.Repeat("<td>", items-6), most)
	}
	// Nothing but notes has no room for an html: it is that there is no room, not that there is no tag.
	checkItems(t, strings.Repeat("<!>", 2999), impl.MaxItems)
	checkItems(t, strings.Repeat("<!>", 6666), impl.MaxItems)
	checkItems(t, strings.Repeat("<!>", 2990)+strings.Repeat("<p>", 100), impl.MaxItems)
}

func TestTurnOfDeepPages(t *testing.T) {
	for page := range deepPages() {
		checkTurn(t, page)
		checkPageWords(t, page)
	}
	// What is deeper than MaxDeep is left away, which is no reason not to turn it.
	for many := range 60 {
		page := strings.Repeat("<a><div>", many)
		text, how := checkTurn(t, page+"x")
		list := impl.Html(page + "x")
		doc := impl.DocOf(list)
		within := impl.Deep(list)-1 <= impl.MaxDeep
		if how != impl.CvDone || !impl.DocOk(doc) || within != strings.Contains(text, ">x<") || within != (impl.WordsOf(doc) == "x") || impl.TextsOf(list) != "x" {
			t.Errorf("of %d within each other Turn = %s, %d", impl.Deep(list)-1, shortText(text), how)
		}
		if deep := impl.ElDeep(doc[len(doc)-1]); deep != min(impl.Deep(list)-1, impl.MaxDeep) {
			t.Errorf("of %d within each other there are %d", impl.Deep(list)-1, deep)
		}
	}
}

// againOpened is a page whose strict text is far longer than it is itself: a format is opened again in each of so many paragraphs.
func againOpened(many int) string {
	return "<p><b k='" + strings.Repeat("&", 3000) + "'>x" + strings.Repeat("<p>x", many-1)
}

func TestTurnUpToMaxXml(t *testing.T) {
	for what, page := range map[string]string{
		"names":         "<a" + strings.Repeat(":", 14000) + ">x",
		"values":        againOpened(13),
		"spaces":        "<p><i k='" + strings.Repeat("\"", 950) + "'>" + strings.Repeat("<svg/><p>", 32) + "x",
		"notes, spaces": "<!--" + strings.Repeat("--", 500) + "--><q" + strings.Repeat("\"", 13800) + ">x",
	} {
		text, how := checkTurn(t, page)
		room := impl.MaxXml - len(text)
		if how != impl.CvDone || room < 10 || room+len(page) > impl.MaxPage-10 {
			t.Errorf("%s: Turn tells %d, and has room for %d", what, how, room)
			continue
		}
		for more := -1; more <= 1; more++ {
			text, how := checkTurn(t, page+strings.Repeat("x", room+more))
			if more <= 0 && (how != impl.CvDone || len(text) != impl.MaxXml+more) || more > 0 && how != impl.CvXml {
				t.Errorf("%s: Turn of what is written in %d bytes tells %d", what, impl.MaxXml+more, how)
			}
		}
		// One sign that is told by some bytes takes the room of these.
		for sign, bytes := range map[string]int{"&": 5, ">": 4, "&#13;": 5, "\xff": 3, "é": 2} {
			for _, more := range []int{0, 1} {
				text, how := impl.Turn(page + strings.Repeat("x", room-bytes+more) + sign)
				if more == 0 && (how != impl.CvDone || len(text) != impl.MaxXml) || more == 1 && (how != impl.CvXml || text != "") {
					t.Errorf("%s: Turn of what is written in %d bytes, the last sign %q, tells %d", what, impl.MaxXml+more, sign, how)
				}
			}
		}
	}
	for _, page := range []string{againOpened(14), againOpened(998), "<a" + strings.Repeat("\"", 19000) + ">x", "<p>" + againOpened(100) + "<!--n-->"} {
		if text, how := checkTurn(t, page); how != impl.CvXml {
			t.Errorf("Turn(%s) = %s, %d", shortText(page), shortText(text), how)
		}
	}
}

// TestTwoReasonsAtOnce: the first one in the order of the document counts. Blanks that are told by two bytes make a page too long
// that still has items.
func TestTwoReasonsAtOnce(t *testing.T) {
	long := func(page string) string { return page + strings.Repeat("\r\n", (20003-len(page))/2) }
	items := strings.Repeat("<br>", 2997)
	names := "<a" + strings.Repeat("\"", 15000) + ">x"
	both := againOpened(998)
	for what, c := range map[string]struct {
		page             string
		long, room, more bool
		how              int
	}{
		"long":                {long("x"), true, false, false, impl.CvLong},
		"long, room":          {long(items), true, true, false, impl.CvLong},
		"long, xml":           {long(names), true, false, true, impl.CvLong},
		"long, room, xml":     {long(both + "<p>x"), true, true, true, impl.CvLong},
		"room":                {items, false, true, false, impl.CvRoom},
		"room, xml":           {both + "<p>x", false, true, true, impl.CvRoom},
		"xml":                 {both, false, false, true, impl.CvXml},
		"room, no html":       {strings.Repeat("<!>", 3000), false, true, false, impl.CvRoom},
		"long, room, no html": {long(strings.Repeat("<!>", 3000)), true, true, false, impl.CvLong},
		"none":                {items[4:], false, false, false, impl.CvDone},
	} {
		list := impl.Html(c.page)
		if len(c.page) > impl.MaxPage != c.long || (len(list) == impl.MaxItems) != c.room || len(impl.Write(impl.DocOf(list))) > impl.MaxXml != c.more {
			t.Errorf("%s: %d bytes, %d items, %d bytes written", what, len(c.page), len(list), len(impl.Write(impl.DocOf(list))))
		}
		if text, how := checkTurn(t, c.page); how != c.how {
			t.Errorf("%s: Turn = %s, %d, want %d", what, shortText(text), how, c.how)
		}
	}
}

func TestAgainUpToMaxXml(t *testing.T) {
	in := func(s string) string { return xmlHead + "<r" + htmlTold + ">" + s + "</r>\n" }
	for many, right := range map[int]bool{199999: true, 200000: true, 200001: false, 200002: false, 400000: false} {
		room := many - len(in(""))
		for what, c := range map[string]struct{ s, want string }{
			"a text":           {in(strings.Repeat("x", room)), in(strings.Repeat("x", room))},
			"shorter":          {in(strings.Repeat("x", room-5) + "&#65;"), in(strings.Repeat("x", room-5) + "A")},
			"far shorter":      {in(strings.Repeat("<a></a>", 2000) + strings.Repeat("x", room-14000)), in(strings.Repeat("<a/>", 2000) + strings.Repeat("x", room-14000))},
			"longer by one >":  {in(strings.Repeat("x", room-1) + ">"), in(strings.Repeat("x", room-1) + "&gt;")},
			"longer by many >": {in(strings.Repeat(">", room)), in(strings.Repeat("&gt;", room))},
		} {
			if !right {
				c.want = ""
			}
			if text, ok := impl.Again(c.s); text != c.want || ok != right {
				t.Errorf("%s, %d bytes: Again = %s, %v", what, len(c.s), shortText(text), ok)
			}
			checkAgain(t, c.s)
		}
	}
	// As many `>` as make it just so long when it is written, and one more byte.
	const many = 30000
	fits := in(strings.Repeat(">", many) + strings.Repeat("x", impl.MaxXml-len(in(""))-4*many))
	for s, again := range map[string]bool{fits: true, strings.Replace(fits, "x<", "xx<", 1): false, strings.Replace(fits, "x<", "<", 1): true} {
		text, ok := checkAgain(t, s)
		if _, againOk := impl.Again(text); !ok || againOk != again {
			t.Errorf("what is written in %d bytes: Again tells %v, and of that %v", len(text), ok, againOk)
		}
	}
	for many, right := range map[int]bool{2999: true, 3000: true, 3001: false} {
		if _, ok := checkAgain(t, in(strings.Repeat("<a></a>", many-1))); ok != right {
			t.Errorf("of %d elements Again tells %v", many, ok)
		}
	}
	for deep, right := range map[int]bool{59: true, 60: true, 61: false} {
		if _, ok := checkAgain(t, in(strings.Repeat("<a>", deep-1)+strings.Repeat("</a>", deep-1))); ok != right {
			t.Errorf("of %d within each other Again tells %v", deep, ok)
		}
	}
}

func TestPagesTurned(t *testing.T) {
	for _, c := range []struct {
		what   string
		ahead  string
		long   int
		pieces []string
	}{
		{"tables", "<table>", 3, []string{"<table>", "</table>", "<tr>", "<td>", "</td>", "x", " ", "<b>", "<p>", "<!doctype k>", "<!--n-->"}},
		{"spaces", "<svg>", 3, []string{"<svg>", "</svg>", "<g:h>", "</g:h>", "<math/>", "<p>", "x", "&#12;", "<!-->"}},
		{"notes", "", 4, []string{"<!--", "-->", "-", "--", "x", "<p>", "<!", ">", "\r"}},
		{"formats", "", 4, []string{"<b>", "</b>", "<i a:=1>", "</i>", "<p>", "</p>", "x", "<a>"}},
		{"heads", "", 3, []string{"<title>", "</title>", "<script/>", "</script>", "<meta>", "x", " ", "<body>", "<html xmlns=1>", "<html x:y=2>", "<html xU00003Ay=3>", "<head>"}},
		{"bytes", "<p", 4, []string{"<", ">", "/", "p", " ", "\xff", "&#1;", "=", "'", "\x00", ":"}},
		{"signs", "x", 4, []string{"\xe2", "\x82", "\xac", "\x00", "\ufeff", "\xf0\x9f", "<", "]", ">", "&"}},
		{"escapes", "<p k=\"", 4, []string{"\"", ">", "<", "&", "&lt;", "\t", "\n", "\r", "]]>", "'", "k="}},
	} {
		t.Run(c.what, func(t *testing.T) {
			t.Parallel()
			eachText(c.pieces, c.long, func(s string) {
				if text, how := checkTurn(t, c.ahead+s); how != impl.CvDone {
					t.Fatalf("Turn(%q) = %s, %d", c.ahead+s, shortText(text), how)
				}
			})
			eachText(c.pieces, c.long-1, func(s string) { checkPageWords(t, c.ahead+s) })
		})
	}
	t.Run("long pages", func(t *testing.T) {
		t.Parallel()
		var all []string
		for _, word := range everyWord() {
			all = append(all, impl.Spell(wordsOf(word)))
		}
		all = append(all, "&#13;", "\r", "\xff", "<?", "</", ">", "<!", "&lt;", "<x:y a:b=\x01 xmlns>", "<!doctype k>", "\x00", "]]>")
		codes := map[int]int{}
		for seed := range 200 {
			page := longPage(all, 1+seed%70, seed)
			checkTurn(t, page)
			checkPageWords(t, page)
		}
		for seed := range 40 {
			_, how := checkTurn(t, "<p><b k='"+strings.Repeat("\"", 20*seed)+"'>"+longPage([]string{"<p>", "x", "<!>", "<br>", "<svg/>", "y", "<i>", "</i>"}, 100*seed, seed))
			codes[how]++
		}
		if codes[impl.CvDone] == 0 || codes[impl.CvRoom] == 0 || codes[impl.CvXml] == 0 {
			t.Error("the codes that are told:", codes)
		}
	})
}

// TestPagesWithOtherBytes: a page is cut at each byte, and each is taken away, doubled, and put another one in its place.
func TestPagesWithOtherBytes(t *testing.T) {
	others := []string{"\x00", "\x01", "\f", "\r", "\x80", "\xc3", "\xed\xa0\x80", "\xff", "<", ">", "&", "\"", "'", "=", "/", "-", "!", " ", ":"}
	for _, page := range []string{
		"<!--a--b--><!doctype k><p x:y='1' é=\"&amp;\">a<b>é&lt;<p>c</b>d]]>", "<title>a&#13;</title><svg a><g/>x</svg><math>😀<td>y", "<table>x<tr><td k=v><script>1<2</script><br/>\r\n",
	} {
		for at := range len(page) {
			cut := page[:at]
			for _, s := range []string{cut, page[at:], cut + page[at+1:], page[:at+1] + page[at:]} {
				checkTurn(t, s)
			}
			for _, other := range others {
				checkTurn(t, cut+other+page[at+1:])
				checkTurn(t, cut+other+page[at:])
			}
		}
	}
}

// TestNearlyStrictTexts: what Turn tells, with each byte cut, taken away, doubled, and put another one in its place.
func TestNearlyStrictTexts(t *testing.T) {
	others := []string{"\x00", "\r", "\n", "\t", "\xff", "<", ">", "&", "\"", "'", "=", "/", "-", " ", ":", "x", "A"}
	refused, changed := 0, 0
	for _, page := range []string{"<!--n--><p k=v j='&'>a<br>&lt;", "<svg a=1><g>x</svg>y]]>\x00"} {
		text, _ := checkTurn(t, page)
		check := func(s string) {
			if again, ok := checkAgain(t, s); !ok {
				refused++
			} else if again != s {
				changed++
			}
		}
		for at := range len(text) {
			for _, s := range []string{text[:at], text[at:], text[:at] + text[at+1:], text[:at+1] + text[at:]} {
				check(s)
			}
			for _, other := range others {
				check(text[:at] + other + text[at+1:])
				check(text[:at] + other + text[at:])
			}
		}
	}
	if refused < 1000 || changed < 10 {
		t.Errorf("%d are refused, %d are told otherwise", refused, changed)
	}
}

func TestRowsOfStrictPiecesAgain(t *testing.T) {
	right, changed := 0, 0
	check := func(s string) {
		if again, ok := checkAgain(t, s); ok {
			right++
			if again != s {
				changed++
			}
		}
	}
	eachText(xmlPieces, 3, func(s string) { check(xmlHead + "<a" + mathTold + ">" + s + "</a>\n") })
	eachText([]string{` k="v"`, ` j="&#65;"`, svgTold, "/>", ">", "</r>", "\n", "<!--n-->\n"}, 4, func(s string) { check(xmlHead + "<r" + s) })
	for _, s := range textsToRead() {
		check(s)
	}
	if right < 500 || changed < 100 {
		t.Errorf("%d are right, %d of these are told otherwise", right, changed)
	}
}

func TestTurningWritesIntoNothing(t *testing.T) {
	all := append(wrongEls(), elToTry(), tagEl("p", elToTry(), textEl("x"), elToTry()), nestedEl(59, textEl("x"), elsOf(noteEl("")), elsOf(tagEl("q"))))
	for _, e := range all {
		given, was := roomyEls(elsOf(noteEl(""), e, e)), shownRoom(roomyEls(elsOf(noteEl(""), e, e)))
		impl.WordsOf(given)
		if shownRoom(given) != was {
			t.Errorf("WordsOf writes into %s", shownEls(e))
		}
	}
	for _, list := range treesToSpoil() {
		given := roomyItems(list)
		impl.TextsOf(given)
		if !sameRoom(given, roomyItems(list)) {
			t.Errorf("%s became %s", shownItems(list), shownItems(given))
		}
	}
}

// pagesToTurn are pages of which each code is told.
func pagesToTurn() []string {
	return []string{
		"", "x", "<p x:y=1>a<br>b", "<!--n--><svg>x<p>y", "\x00\xff", strings.Repeat("<b>x<p>", 50), strings.Repeat("x", 20001), strings.Repeat("<br>", 3000), againOpened(14), againOpened(13), longPage([]string{"<p>", "x", "<b>", "</b>", "<td>", "<table>"}, 300, 1),
	}
}

func TestTurnAtOnceAndAgain(t *testing.T) {
	told := func(s string) string {
		text, how := impl.Turn(s)
		again, ok := impl.Again(text)
		list := impl.Html(s)
		return fmt.Sprintf("%s\n%d\n%v %v\n%s\n%s", text, how, ok, again == text, impl.WordsOf(impl.DocOf(list)), impl.TextsOf(list))
	}
	pages := pagesToTurn()
	codes := map[int]bool{}
	for k, page := range pages {
		want := told(page)
		_, how := impl.Turn(page)
		codes[how] = true
		t.Run(fmt.Sprint(k), func(t *testing.T) {
			t.Parallel()
			for round := range 3 {
				impl.Turn(pages[(k*5+round)%len(pages)])
				if told(page) != want {
					t.Fatalf("of %s is told otherwise when it is asked again", shortText(page))
				}
				if told(("é" + page + "\xff")[2:2+len(page)]) != want {
					t.Fatalf("of %s is told otherwise where it is a part of another text", shortText(page))
				}
			}
			for range 100 {
				if text, how := impl.Turn(page); fmt.Sprintf("%s\n%d\n", text, how) != want[:len(text)+3] {
					t.Fatalf("Turn(%s) = %s, %d", shortText(page), shortText(text), how)
				}
			}
		})
	}
	if len(codes) != 4 {
		t.Error("the codes that are told:", codes)
	}
}

// TestNothingRunsOn: what runs within Turn has come to its end, whichever code it tells.
func TestNothingRunsOn(t *testing.T) {
	for _, page := range pagesToTurn() {
		// What still waited for something when all else has ended would be told as a fault.
		synctest.Test(t, func(t *testing.T) {
			for range 3 {
				checkTurn(t, page)
			}
		})
	}
	before := runtime.NumGoroutine()
	for range 200 {
		for _, page := range pagesToTurn()[:5] {
			impl.Turn(page)
		}
		impl.Turn(strings.Repeat("x", 20001))
	}
	// One that is done is still counted for a moment.
	for wait := 0; runtime.NumGoroutine() > before; wait++ {
		if wait == 1000 {
			t.Fatalf("there were %d goroutines, there are %d", before, runtime.NumGoroutine())
		}
		time.Sleep(time.Millisecond)
	}
}
