package tests

import (
	"fmt"
	"slices"
	"strings"
	"testing"

	"loop.example/g00325/impl"
)

// branch tells item i and what stands in it: a tag as its name, `:` and its Space where that is not 0, its attributes in [ ], its kids in ( );
// a text in quotes, a note behind `!`, a kind behind `?`.
func branch(list []impl.Item, i int) string {
	it := list[i]
	switch it.Kind {
	case impl.ItText:
		return fmt.Sprintf("%q", it.Text)
	case impl.ItNote:
		return "!" + it.Text
	case impl.ItKind:
		return "?" + it.Text
	}
	told := it.Name
	if it.Space != 0 {
		told += fmt.Sprint(":", it.Space)
	}
	if len(it.Attrs) > 0 {
		var attrs []string
		for _, attr := range it.Attrs {
			attrs = append(attrs, attr.Name+"="+attr.Value)
		}
		told += "[" + strings.Join(attrs, " ") + "]"
	}
	if len(it.Kids) > 0 {
		told += "(" + branches(list, i) + ")"
	}
	return told
}

// branches tells what stands in item i, one behind the other.
func branches(list []impl.Item, i int) string {
	var kids []string
	for _, k := range list[i].Kids {
		kids = append(kids, branch(list, k))
	}
	return strings.Join(kids, " ")
}

func checkMake(t *testing.T, list []impl.Token, want string) impl.Page {
	t.Helper()
	p := impl.Make(list)
	if !impl.PageOk(p) {
		t.Fatalf("Make(%s) is not right: %s", shownWords(list), shownPage(p))
	}
	if got := branches(p.Items, 0); got != want {
		t.Errorf("Make(%s) has\n%s, want\n%s", shownWords(list), got, want)
	}
	if rule := plainMake(list); !samePage(p, rule) {
		t.Errorf("Make(%s) = %s, the rule has %s", shownWords(list), shownPage(p), shownPage(rule))
	}
	return p
}

// checkPages holds pages, each a text, against all that stands in the first item; checkBodies against what stands in the body, alone in html.
func checkPages(t *testing.T, pairs ...string) {
	t.Helper()
	for k := 0; k < len(pairs); k += 2 {
		t.Run(pairs[k], func(t *testing.T) {
			t.Helper()
			checkMake(t, impl.Scan(pairs[k]), pairs[k+1])
		})
	}
}

func checkBodies(t *testing.T, pairs ...string) {
	t.Helper()
	for k := 1; k < len(pairs); k += 2 {
		pairs[k] = "html(body(" + pairs[k] + "))"
	}
	checkPages(t, pairs...)
}

func TestMakeOfPages(t *testing.T) {
	checkPages(t,
		`<p>a<p>b`, `html(body(p("a") p("b")))`,
		`<title>T</title>c`, `html(head(title("T")) body("c"))`,
		"<!doctype html>\n<html lang=en><head><title>t</title></head>\n<body><h1>h</h1>\n<p>a <b>b</b></body></html>\n", `?html html[lang=en](head(title("t")) body(h1("h") "\n" p("a " b("b") "\n")))`,
		``, ``,
	)
	checkBodies(t,
		`<b><i>x</b>y`, `b(i("x")) i("y")`,
		`<table>x<tr><td>y</table>z`, `"x" table(tbody(tr(td("y")))) "z"`,
		`<ul><li>a<li>b</ul>`, `ul(li("a") li("b"))`,
		`<p><b>x<p>y`, `p(b("x")) p(b("y"))`,
		`a</p>b`, `"a" p "b"`,
		`<svg><path/><p>d`, `svg:1(path:1) p("d")`,
		`<h1>a<h2>b`, `h1("a") h2("b")`,
		`<a href=1>x<a>y`, `a[href=1]("x") a("y")`,
	)
}

func TestStepsByHand(t *testing.T) {
	p := impl.StartTag(impl.PageNew(), "div", nil, false)
	checkPage(t, "StartTag of div", p, impl.Page{Items: itemsOf(pageItem(1), tagItem("html", 0, 2), tagItem("body", 1, 3), tagItem("div", 2)), Open: []int{1, 2, 3}, Body: 2})
	p = impl.Text(p, "q")
	checkPage(t, "Text of q", p, impl.Page{Items: itemsOf(pageItem(1), tagItem("html", 0, 2), tagItem("body", 1, 3), tagItem("div", 2, 4), textItem("q", 3)), Open: []int{1, 2, 3}, Body: 2})
	p = impl.EndTag(p, "div")
	checkPage(t, "EndTag of div", p, impl.Page{Items: itemsOf(pageItem(1), tagItem("html", 0, 2), tagItem("body", 1, 3), tagItem("div", 2, 4), textItem("q", 3)), Open: []int{1, 2}, Body: 2})
	p = impl.Step(p, noteWord("n"))
	checkPage(t, "Step of a note", p, impl.Page{Items: itemsOf(pageItem(1), tagItem("html", 0, 2), tagItem("body", 1, 3, 5), tagItem("div", 2, 4), textItem("q", 3), noteItem("n", 2)), Open: []int{1, 2}, Body: 2})
	// Each of the three is what Step does by Kind.
	for _, p := range []impl.Page{impl.PageNew(), p, tablePage(), formPage(), pageToTry()} {
		attrs := attrsOf("x", "1")
		for _, name := range []string{"b", "p", "td", "svg", "title", "q"} {
			for _, self := range []bool{false, true} {
				word := impl.Token{Kind: impl.TkStart, Name: name, Attrs: attrs, Self: self, Text: "t"}
				checkPage(t, "StartTag", impl.StartTag(p, name, attrs, self), impl.Step(p, word))
			}
			checkPage(t, "EndTag", impl.EndTag(p, name), impl.Step(p, impl.Token{Kind: impl.TkEnd, Name: name, Attrs: attrs, Text: "t"}))
			checkPage(t, "Text", impl.Text(p, name), impl.Step(p, impl.Token{Kind: impl.TkText, Text: name, Name: "p"}))
		}
	}
}

// TestMakeOfOpenTags holds what is open, what waits, and which items head and body are.
func TestMakeOfOpenTags(t *testing.T) {
	for _, c := range []struct {
		text  string
		open  string
		forms []int
		head  int
		body  int
	}{
		{"", "", nil, 0, 0},
		{"<!--n-->", "", nil, 0, 0},
		{"<html>", "html", nil, 0, 0},
		{"<head>", "html head", nil, 2, 0},
		{"<meta>", "html head", nil, 2, 0},
		{"<title>", "html head title", nil, 2, 0},
		{"<title></title>", "html head", nil, 2, 0},
		{"<title></title>x", "html body", nil, 2, 4},
		{"x", "html body", nil, 0, 2},
		{"<body>", "html body", nil, 0, 2},
		{"<br>", "html body", nil, 0, 2},
		{"<hr>", "html body", nil, 0, 2},
		{"<p/>", "html body p", nil, 0, 2},
		{"<q/>", "html body", nil, 0, 2},
		{"<svg/>", "html body", nil, 0, 2},
		{"<b/>", "html body b", []int{3}, 0, 2},
		{"<b><i></b>", "html body", []int{4}, 0, 2},
		{"<b><p></b>", "html body b p", nil, 0, 2},
		{"<p><b>x<p>", "html body p", []int{4}, 0, 2},
		{"<p><b>x<p>y", "html body p b", []int{7}, 0, 2},
		{"<a><p><a>", "html body p a", []int{5}, 0, 2},
		{"<table><td><b>", "html body table tbody tr td b", []int{-1, 7}, 0, 2},
		{"<table><td><b><td>", "html body table tbody tr td", []int{-1}, 0, 2},
		{"<table><td><b></td>", "html body table tbody tr", nil, 0, 2},
		{"<b><table><th><i></table>", "html body b", []int{3}, 0, 2},
		{"<b><table><th><i><svg><tr>", "html body b table tbody tr", []int{3}, 0, 2},
		{"<svg><b><td>", "html body", nil, 0, 2},
	} {
		p := impl.Make(impl.Scan(c.text))
		var open []string
		for _, i := range p.Open {
			open = append(open, p.Items[i].Name)
		}
		if strings.Join(open, " ") != c.open || !slices.Equal(p.Forms, c.forms) || p.Head != c.head || p.Body != c.body {
			t.Errorf("%s: %s", c.text, shownPage(p))
		}
	}
}

func TestMakeWhereARawOneIsOpen(t *testing.T) {
	const inHead, inBody = "html(head(title(%s)))", "html(body(textarea(%s)))"
	for _, c := range [][2]string{{"title", inHead}, {"textarea", inBody}} {
		for _, word := range []impl.Token{startWord("html", "a", "1"), startWord("head"), startWord("body", "a", "1"), startWord("p"), startWord("br"), startWord("script"), startWord(c[0]), selfWord("svg"), startWord("svg"), startWord("td"), startWord("table"), startWord("b"), startWord("q"), endWord("p"), endWord("html"), endWord("b"), endWord("script"), endWord("table"), endWord("br"), kindWord("k"), textWord("")} {
			checkMake(t, wordsOf(startWord(c[0]), word, textWord(" "), noteWord("n")), fmt.Sprintf(c[1], `" " !n`))
		}
	}
	checkMake(t, wordsOf(startWord("textarea"), startWord("p"), textWord("x"), endWord("p"), noteWord("n"), textWord("y"), endWord("textarea"), textWord("z")), `html(body(textarea("x" !n "y") "z"))`)
	checkMake(t, wordsOf(startWord("title"), textWord(" "), endWord("title"), textWord(" ")), `html(head(title(" ")))`)
	// Formats are not opened again in one, and what waits is opened again behind it.
	checkBodies(t,
		`<p><b>x<p><textarea>y</textarea>z`, `p(b("x")) p(b(textarea("y") "z"))`,
		`<p><b>x<p><title>y</title>z`, `p(b("x")) p(b(title("y") "z"))`,
		`<table><textarea>y</textarea>z`, `textarea("y") "z" table`,
		`<svg><title>a</title>b`, `svg:1(title:1("a") "b")`,
		`<svg><script><b></script>b`, `svg:1(script:1("<b>") "b")`,
		// Self counts where all others do, not in the head.
		`<p><title/>x`, `p(title "x")`,
		`<p><textarea/>x`, `p(textarea "x")`,
	)
	checkPages(t,
		`<title/>x<p></title>y`, `html(head(title("x")) body("y"))`,
		`<script/><p>x</script>y`, `html(head(script("x")) body("y"))`,
	)
	// In another space nothing is Raw.
	checkMake(t, wordsOf(startWord("svg"), startWord("title"), startWord("b"), textWord("x"), startWord("p")), `html(body(svg:1(title:1(b:1("x"))) p))`)
}

func TestMakeOfHeads(t *testing.T) {
	checkPages(t,
		`<meta><link><base>x<meta>`, `html(head(meta link base) body("x" meta))`,
		`<meta a=1><title b=2>c</title>`, `html(head(meta[a=1] title[b=2]("c")))`,
		`<head><title>a</title></head><style>b</style>`, `html(head(title("a") style("b")))`,
		`<p><title>a</title>b<style>c</style><script>d</script>`, `html(body(p(title("a") "b" style("c") script("d"))))`,
		`<body><meta><link/><base>x`, `html(body(meta link base "x"))`,
		`<p><b>x<p><meta>`, `html(body(p(b("x")) p(b(meta))))`,
		`<table><meta>`, `html(body(meta table))`,
		`<br><title>a</title>`, `html(body(br title("a")))`,
		`<html a=1 b=2><html b=3 c=4>`, `html[a=1 b=2 c=4]`,
		`<html c=1><html b=2 a=3>`, `html[c=1 b=2 a=3]`,
		`<html><html a=1>`, `html[a=1]`,
		`<head a=1><head a=2 b=3>x<head c=4>`, `html(head[a=1] body("x"))`,
		`<meta><head a=1>`, `html(head(meta))`,
		`<body a=1><body a=2 b=3>`, `html(body[a=1 b=3])`,
		`x<html a=1><body b=2>y`, `html[a=1](body[b=2]("xy"))`,
		`<body><head a=1>x`, `html(body("x"))`,
		`<html><head><body>`, `html(head body)`,
		`<head><html a=1>x`, `html[a=1](head body("x"))`,
		`<head><body a=1><html b=2><head c=3>`, `html[b=2](head body[a=1])`,
		`<p><body a=1>x<html b=2>y`, `html[b=2](body[a=1](p("xy")))`,
		`<table><body a=1><html b=1><tr>`, `html[b=1](body[a=1](table(tbody(tr))))`,
		`<svg><html a=1><body b=2><head>x`, `html[a=1](body[b=2](svg:1("x")))`,
		`<html/><head/><body/>x`, `html(head body("x"))`,
		`<p>a</body>b</html>c</head>d`, `html(body(p("abcd")))`,
		`<head></head><title>a</title>`, `html(head(title("a")))`,
		`</p>`, ``,
		`</p></b></td></svg></q></html><p>`, `html(body(p))`,
		`<title>a</title></p></div></b></q></head></title>`, `html(head(title("a")))`,
		`<html></p>`, `html`,
	)
}

func TestMakeOfVoidAndSelfOnes(t *testing.T) {
	checkBodies(t,
		`<br><hr><img><input><wbr><col>x`, `br hr img input wbr col "x"`,
		`<br/><hr/><img/><input/><wbr/><col/>x`, `br hr img input wbr col "x"`,
		`<p>a<br>b<hr>c`, `p("a" br "b") hr "c"`,
		`<ul><li><hr>a`, `ul(li(hr "a"))`,
		`a</br>b</hr>c</img>d`, `"abcd"`,
		`<p>a</hr>b`, `p("ab")`,
		`<p><b>x<p><br>y`, `p(b("x")) p(b(br "y"))`,
		`<p><b>x<hr>y`, `p(b("x")) hr b("y")`,
		`<table><br><col><hr>x`, `br col hr "x" table`,
		`<p/>a`, `p("a")`,
		`<div/>a`, `div("a")`,
		`<b/>a`, `b("a")`,
		`<span/>a`, `span "a"`,
		`<ul><li/>a`, `ul(li("a"))`,
		`<table/><tr/><td/>a`, `table(tbody(tr(td("a"))))`,
		`<table><tbody/><th/>a`, `table(tbody(tr(th("a"))))`,
		`<br x=1 y=2><img z=3/ >`, `br[x=1 y=2] img[z=3/]`,
	)
}

func TestMakeOfOtherSpaces(t *testing.T) {
	checkBodies(t,
		`<svg>a</svg>b`, `svg:1("a") "b"`,
		`<svg/>a`, `svg:1 "a"`,
		`<math><mi>x</mi></math>y`, `math:2(mi:2("x")) "y"`,
		`<math/>a`, `math:2 "a"`,
		`<svg a=1><g b=2 c=3>`, `svg:1[a=1](g:1[b=2 c=3])`,
		// In each other.
		`<svg><math>a`, `svg:1(math:1("a"))`,
		`<math><svg>a`, `math:2(svg:2("a"))`,
		`<svg><svg>a</svg>b</svg>c`, `svg:1(svg:1("a") "b") "c"`,
		`<svg><svg/>a`, `svg:1(svg:1 "a")`,
		`<math></math><svg>`, `math:2 svg:1`,
		// In them: void ones, formats, those of the head, Raw ones.
		`<svg><br>a`, `svg:1(br:1("a"))`,
		`<svg><br/>a`, `svg:1(br:1 "a")`,
		`<svg><b>a</b>b`, `svg:1(b:1("a") "b")`,
		`<svg><b></svg>c`, `svg:1(b:1) "c"`,
		`<svg><a>x<a>y`, `svg:1(a:1("x" a:1("y")))`,
		`<a>x<svg><a>y`, `a("x" svg:1(a:1("y")))`,
		`<svg><title>a</title><style>b</style><meta>c`, `svg:1(title:1("a") style:1("b") meta:1("c"))`,
		`<math><textarea>a</textarea>b`, `math:2(textarea:2("a") "b")`,
		// Blocks and parts leave them.
		`<svg><g><div>a`, `svg:1(g:1) div("a")`,
		`<svg><g><hr>a`, `svg:1(g:1) hr "a"`,
		`<div><svg><g><svg><div>a`, `div(svg:1(g:1(svg:1)) div("a"))`,
		`<p><svg><g><p>a`, `p(svg:1(g:1)) p("a")`,
		`<ul><li><svg><li>a`, `ul(li(svg:1) li("a"))`,
		`<h1><svg><h2>a`, `h1(svg:1) h2("a")`,
		`<svg><td>a`, `svg:1 "a"`,
		`<svg><g><table>a`, `svg:1(g:1) "a" table`,
		`<table><td><svg><g><td>a`, `table(tbody(tr(td(svg:1(g:1)) td("a"))))`,
		`<table><td><math><tr>a`, `"a" table(tbody(tr(td(math:2)) tr))`,
		// In a table, and in formats.
		`<table><svg><tr>`, `svg:1 table(tbody(tr))`,
		`<table><svg>a</svg>b`, `svg:1("a") "b" table`,
		`<table><svg/>a`, `svg:1 "a" table`,
		`<b>a<svg>b</svg>c`, `b("a" svg:1("b") "c")`,
		`<p><b>a<p><svg>b`, `p(b("a")) p(b(svg:1("b")))`,
		`<p><b>a<p><math/>b`, `p(b("a")) p(b(math:2 "b"))`,
		`<p><b>a<p><table><svg>b</svg>c`, `p(b("a")) p svg:1("b") "c" table`,
		`<table><svg> </svg> `, `svg:1(" ") table(" ")`,
		// Ends.
		`<svg><g><path></g>a`, `svg:1(g:1(path:1) "a")`,
		`<svg><g><path></path>a`, `svg:1(g:1(path:1 "a"))`,
		`<svg><g><g></g>a`, `svg:1(g:1(g:1 "a"))`,
		`<svg><g></svg>a`, `svg:1(g:1) "a"`,
		`<svg></svg></svg>a`, `svg:1 "a"`,
		`<p></svg>a`, `p("a")`,
		`<svg></x>a`, `svg:1("a")`,
		`<svg><g></x>a`, `svg:1(g:1("a"))`,
		`<svg></math>a`, `svg:1("a")`,
		`<svg></html></body></head>a`, `svg:1("a")`,
		`<svg></br>a`, `svg:1("a")`,
		`<svg><br></br>a`, `svg:1(br:1 "a")`,
		`<div><svg><g></div>a`, `div(svg:1(g:1)) "a"`,
		`<span><svg></span>a`, `span(svg:1) "a"`,
		`<g><svg></g>a`, `g(svg:1) "a"`,
		`<g><svg><g></g>a`, `g(svg:1(g:1 "a"))`,
		`<b><svg></b>a`, `b(svg:1) "a"`,
		`<b><svg><b></b>a`, `b(svg:1(b:1 "a"))`,
		`<svg></p>a`, `svg:1 p "a"`,
		`<p><svg></p>a`, `p(svg:1) "a"`,
		`<svg><p></svg>a`, `svg:1 p("a")`,
		`<table><tr><svg></tr>a`, `svg:1 "a" table(tbody(tr))`,
		`<table><td><svg></table>a`, `table(tbody(tr(td(svg:1)))) "a"`,
		`<table><td><svg></td><td>a`, `table(tbody(tr(td(svg:1) td("a"))))`,
		`<h1><svg></h2>a`, `h1(svg:1) "a"`,
		`<svg><li></svg>a`, `svg:1 li("a")`,
	)
}

func TestMakeOfTables(t *testing.T) {
	checkPages(t, `<td>`, `html(body)`, `<tbody><tr>`, `html(body)`)
	checkBodies(t,
		`<table>`, `table`,
		`<table><tbody>`, `table(tbody)`,
		`<table><tr>`, `table(tbody(tr))`,
		`<table><td>`, `table(tbody(tr(td)))`,
		`<table><th>`, `table(tbody(tr(th)))`,
		`<table><tbody><tbody>`, `table(tbody tbody)`,
		`<table><tbody><tr>`, `table(tbody(tr))`,
		`<table><tbody><td>`, `table(tbody(tr(td)))`,
		`<table><tr><tbody>`, `table(tbody(tr) tbody)`,
		`<table><tr><tr>`, `table(tbody(tr tr))`,
		`<table><tr><th>`, `table(tbody(tr(th)))`,
		`<table><td>a<tbody>`, `table(tbody(tr(td("a"))) tbody)`,
		`<table><td>a<tr>`, `table(tbody(tr(td("a")) tr))`,
		`<table><td>a<td>b`, `table(tbody(tr(td("a") td("b"))))`,
		`<table><td>a<th>b<td>c`, `table(tbody(tr(td("a") th("b") td("c"))))`,
		`<table><td><p><b>a<td>b`, `table(tbody(tr(td(p(b("a"))) td("b"))))`,
		`<table><tr><p><tr>`, `p table(tbody(tr tr))`,
		`<table><tr><q><td>a`, `q table(tbody(tr(td("a"))))`,
		`<table a=1><tbody b=2><tr c=3><td d=4 e=5>`, `table[a=1](tbody[b=2](tr[c=3](td[d=4 e=5])))`,
		`<table a=1><th d=4><tr c=3>`, `table[a=1](tbody(tr(th[d=4]) tr[c=3]))`,
		// With no table open.
		`<p><tbody>a<tr>b<td>c<th>d</td>e</tr></tbody></table>f`, `p("abcdef")`,
		`<table></table><td>a`, `table "a"`,
		// A table in a table.
		`<table><td><table><td>a</table>b<td>c`, `table(tbody(tr(td(table(tbody(tr(td("a")))) "b") td("c"))))`,
		`<table><td><table><tbody><tr></tr><tbody></tbody></table><tr>`, `table(tbody(tr(td(table(tbody(tr) tbody))) tr))`,
		`<table><td><table></td>a`, `table(tbody(tr(td("a" table))))`,
		`<table><td><table></tr></tbody>a`, `table(tbody(tr(td("a" table))))`,
		`<table><td><table><td>a</table></table>b`, `table(tbody(tr(td(table(tbody(tr(td("a")))))))) "b"`,
		`<table a=1><table b=1>x`, `"x" table[b=1] table[a=1]`,
		`<table a=1><tr><table b=1><td>x</table>y`, `table[b=1](tbody(tr(td("x")))) "y" table[a=1](tbody(tr))`,
		// Ends.
		`<table><td>a</td>b`, `"b" table(tbody(tr(td("a"))))`,
		`<table><td>a</td><td>b`, `table(tbody(tr(td("a") td("b"))))`,
		`<table><td>a</th>b`, `table(tbody(tr(td("ab"))))`,
		`<table><td>a</tr><td>b`, `table(tbody(tr(td("a")) tr(td("b"))))`,
		`<table><td>a</tbody><td>b`, `table(tbody(tr(td("a"))) tbody(tr(td("b"))))`,
		`<table><tr></td></tr><tr>`, `table(tbody(tr tr))`,
		`<table></tr></tbody></td><tr>`, `table(tbody(tr))`,
		`<table><td><p>a</td>b`, `"b" table(tbody(tr(td(p("a")))))`,
		`<table><td><div><ul><li>a</table>b`, `table(tbody(tr(td(div(ul(li("a"))))))) "b"`,
		`<p></table>a`, `p("a")`,
		`<table></q></div></body></html>a`, `"a" table`,
		`<div><table></div>a`, `div("a" table)`,
	)
}

func TestMakeOfTextsAndTables(t *testing.T) {
	checkPages(t,
		` `, ``,
		"\t\n\f\r ", ``,
		` a`, `html(body(" a"))`,
		`<html> <head> <title>x</title> `, `html(head(title("x")))`,
		`<html> <head> <title>x</title> y `, `html(head(title("x")) body(" y "))`,
		"<head>\x0b", "html(head body(\"\\v\"))",
		`<head>&nbsp;`, `html(head body("\u00a0"))`,
		`<body> `, `html(body(" "))`,
		`<title></title> <p> `, `html(head(title) body(p(" ")))`,
	)
	checkBodies(t,
		`<table> <tr> <td> `, `table(" " tbody(tr(" " td(" "))))`,
		"<table>\t\n\f\r <tbody> ", `table("\t\n\f\n " tbody(" "))`,
		"<table>\x0b<tr>", `"\v" table(tbody(tr))`,
		`<table> a <tr>`, `" a " table(tbody(tr))`,
		`<table>a<tr>b`, `"ab" table(tbody(tr))`,
		`x<table>y`, `"xy" table`,
		`x<br><table>y`, `"x" br "y" table`,
		`<table> <!--n--> `, `table(" " !n " ")`,
		`<table> </q> </q>a`, `"a" table("  ")`,
		`<table> a</q> <tr>`, `" a" table(" " tbody(tr))`,
		`<table><tr> </tr> <tr> `, `table(tbody(tr(" ") " " tr(" ")))`,
		`<table></table> `, `table " "`,
		// Formats are not opened again in a table, but in its cells and behind it.
		`<table><b>x`, `b("x") table`,
		`<table><b>x<tr>y<td>z</table>w`, `b("x") "y" table(tbody(tr(td("z")))) b("w")`,
		`<p><b>x<table>y`, `p(b("x")) "y" table`,
		`<p><b>x<table> <i>y`, `p(b("x")) i("y") table(" ")`,
		`<p><b>x<table><q>y`, `p(b("x")) q(b("y")) table`,
		`<p><b>x<table><td>y`, `p(b("x")) table(tbody(tr(td("y"))))`,
		`<table><td><b>x</table>y`, `table(tbody(tr(td(b("x"))))) "y"`,
		`<table><td><b>x<td>y`, `table(tbody(tr(td(b("x")) td("y"))))`,
	)
	// Texts beside each other, and empty ones, which no Scan tells.
	checkMake(t, wordsOf(startWord("table"), textWord(" "), textWord(""), textWord("\n"), textWord("x"), textWord(" "), textWord("y")), `html(body("xy" table(" \n ")))`)
	checkMake(t, wordsOf(textWord(""), textWord(" "), textWord("x"), textWord(" "), textWord("")), `html(body("x "))`)
	checkMake(t, wordsOf(startWord("p"), startWord("b"), textWord("x"), startWord("p"), textWord("")), `html(body(p(b("x")) p))`)
	checkMake(t, wordsOf(startWord("table"), textWord("")), `html(body(table))`)
}

func TestMakeOfBlocks(t *testing.T) {
	checkBodies(t,
		// li
		`<li>a<li>b`, `li("a") li("b")`,
		`<ul><li>a<ul><li>b<li>c</ul>d<li>e`, `ul(li("a" ul(li("b") li("c")) "d") li("e"))`,
		`<ol><li>a<div><li>b`, `ol(li("a" div) li("b"))`,
		`<ul><li><p>a<li>b`, `ul(li(p("a")) li("b"))`,
		`<ul><p>a<li>b`, `ul(p("a") li("b"))`,
		`<li>a<ul>b</li>c`, `li("a" ul("bc"))`,
		`<li>a<ol>b</ol>c</li>d`, `li("a" ol("b") "c") "d"`,
		`<li>a<div>b</li>c`, `li("a" div("b")) "c"`,
		`<li>a<table><td><li>b</li></li>c`, `li("a" table(tbody(tr(td(li("b") "c")))))`,
		`<p></li>a`, `p("a")`,
		// p
		`<p>a<div>b</p>c`, `p("a") div("b" p "c")`,
		`<div><p>a</div>b`, `div(p("a")) "b"`,
		`<p>a<table><td>b</p>c`, `p("a") table(tbody(tr(td("b" p "c"))))`,
		`<table></p>a`, `p "a" table`,
		`<table><tr></p><td>a`, `p table(tbody(tr(td("a"))))`,
		`<p><span><b>x</p>y`, `p(span(b("x"))) b("y")`,
		`<p>a<ul><li>b<p>c<p>d`, `p("a") ul(li("b" p("c") p("d")))`,
		`<p>a</p></p>b`, `p("a") p "b"`,
		`<p a=1>x</p></p>`, `p[a=1]("x") p`,
		`<p><b>x</p></p>y`, `p(b("x")) p b("y")`,
		`<p>a<pre>b<form>c<section>d`, `p("a") pre("b" form("c" section("d")))`,
		`<span><p>a<span>b<p>c`, `span(p("a" span("b")) p("c"))`,
		// headings
		`<h1>a<h2>b</h1>c`, `h1("a") h2("b") "c"`,
		`<h1>a</h1>b</h1>c`, `h1("a") "bc"`,
		`<h1><div><h2>a</h3>b</h1>c</h2>d`, `h1(div(h2("a") "b")) "cd"`,
		`<h1><table><td></h1>a`, `h1(table(tbody(tr(td("a")))))`,
		`<h1><b>a<h2>b`, `h1(b("a" h2("b")))`,
		`<h1><p>a<h2>b`, `h1(p("a")) h2("b")`,
		`<h3>a<p>b</h1>c`, `h3("a" p("b")) "c"`,
		`<h1>a<div>b<h1>c`, `h1("a" div("b" h1("c")))`,
		// others
		`<div>a<div>b</div>c</div>d</div>e`, `div("a" div("b") "c") "de"`,
		`<div><ul>a</div>b`, `div(ul("a")) "b"`,
		`<div><table><td></div>a`, `div(table(tbody(tr(td("a")))))`,
		`<form>a<section>b</form>c`, `form("a" section("b")) "c"`,
		`<pre>a</div>b</pre>c`, `pre("ab") "c"`,
		`<p></ul></ol></section>a`, `p("a")`,
		`<b>x<div>y</div>z`, `b("x" div("y") "z")`,
	)
}

func TestMakeOfFormats(t *testing.T) {
	checkBodies(t,
		`<b>a<i>b</b>c</i>d`, `b("a" i("b")) i("c") "d"`,
		`<b><i><u>a</b>b</u>c`, `b(i(u("a"))) i(u("b") "c")`,
		`<em>a<strong>b<code>c<small>d</em>e`, `em("a" strong("b" code("c" small("d")))) strong(code(small("e")))`,
		`<p></b>a`, `p("a")`,
		`<b>a</i>b`, `b("ab")`,
		`<b x=1>a<p>b</p></b><b x=2>c`, `b[x=1]("a" p("b")) b[x=2]("c")`,
		`<p><b x=1 y=2>a<p>b`, `p(b[x=1 y=2]("a")) p(b[x=1 y=2]("b"))`,
		// Beyond a block, beyond a wall.
		`<b><div>a</b>b</div>c`, `b(div("ab") "c")`,
		`<b><div><i>a</b>b</div>c`, `b(div(i("ab")) i("c"))`,
		`<b>a<table><td>b</b>c`, `b("a" table(tbody(tr(td("bc")))))`,
		`<b>a<table>b</b>c</table>d`, `b("abc" table "d")`,
		`<b>a<table>b</b>c</table>d</b>e`, `b("abc" table "d") "e"`,
		`<b>a<table><td>b<b>c</b></b>d`, `b("a" table(tbody(tr(td("b" b("c") "d")))))`,
		// In Forms and not open, open and not in Forms.
		`<p><b>x<p></b>y`, `p(b("x")) p("y")`,
		`<b><b><b><b>x</b></b></b></b>y`, `b(b(b(b("x")))) "y"`,
		`<b><b><b><b>x</b></b></b></b></b>y`, `b(b(b(b("x")))) "y"`,
		`<b><div>x</b></b>y`, `b(div("xy"))`,
		// Thrice alike, and more.
		`<p><b><b><b>x<p>y`, `p(b(b(b("x")))) p(b(b(b("y"))))`,
		`<p><b><b><b><b>x<p>y`, `p(b(b(b(b("x"))))) p(b(b(b("y"))))`,
		`<p><b><b><b><b><b>x<p>y`, `p(b(b(b(b(b("x")))))) p(b(b(b("y"))))`,
		`<p><b x=1><b x=1><b><b x=1><b x=1>x<p>y`, `p(b[x=1](b[x=1](b(b[x=1](b[x=1]("x")))))) p(b[x=1](b(b[x=1](b[x=1]("y")))))`,
		`<p><b x=1 y=2><b y=2 x=1><b x=1 y=2><b y=2 x=1>x<p>y`, `p(b[x=1 y=2](b[y=2 x=1](b[x=1 y=2](b[y=2 x=1]("x"))))) p(b[y=2 x=1](b[x=1 y=2](b[y=2 x=1]("y"))))`,
		`<p><b><i><b><i><b><i><b>x<p>y`, `p(b(i(b(i(b(i(b("x")))))))) p(i(b(i(b(i(b("y")))))))`,
		// a in a
		`<a>x<a>y</a>z`, `a("x") a("y") "z"`,
		`<a>x<div>y<a>z</a>w</div>v`, `a("x" div("y" a("z") "w")) "v"`,
		`<a>x<table><a>y`, `a("x" a("y") table)`,
		`<a>x<table><td><a>y</a>z</table>w`, `a("x" table(tbody(tr(td(a("y") "z")))) "w")`,
		`<a>x<table><td>y<a>z<a>w`, `a("x" table(tbody(tr(td("y" a("z") a("w"))))))`,
		`<a>x<table><td>y</table>z<a>w`, `a("x" table(tbody(tr(td("y")))) "z") a("w")`,
		`<a><b>x<a>y`, `a(b("x")) b(a("y"))`,
		`<p><a>x<p><a>y`, `p(a("x")) p(a("y"))`,
		`<a>x<span>y<a>z`, `a("x" span("y")) a("z")`,
		`<a>x<p>y<b>z<a>w<p>v`, `a("x" p("y" b("z" a("w")))) p(b(a("v")))`,
		`<b>x<b>y`, `b("x" b("y"))`,
	)
}

func TestMakeOfOthers(t *testing.T) {
	checkBodies(t,
		`<x>a</y>b`, `x("ab")`,
		`<span>a<em>b</span>c`, `span("a" em("b")) em("c")`,
		`<span><div>a</span>b`, `span(div("ab"))`,
		`<span><table><td>a</span>b`, `span(table(tbody(tr(td("ab")))))`,
		`<span><table></span>a`, `span("a" table)`,
		`<q><x><q>a</q>b</q>c`, `q(x(q("a") "b")) "c"`,
		`<x a=1 b=2>`, `x[a=1 b=2]`,
		`<p><b>x<p><q>y`, `p(b("x")) p(b(q("y")))`,
		`<thead>a`, `thead("a")`,
		`<h4>a<h4>b`, `h4("a" h4("b"))`,
		`<table><thead>a<tr>`, `thead("a") table(tbody(tr))`,
	)
	// Names of no kind, as no Scan tells them: letters count as they are.
	checkMake(t, wordsOf(startWord("P"), startWord("HTML"), startWord(" "), textWord("x"), endWord("P"), startWord("Br"), textWord("y")), `html(body(P(HTML( ("x"))) Br("y")))`)
	checkMake(t, wordsOf(startWord("\xff", "", ""), endWord("\xfe"), textWord("x"), endWord("\xff"), textWord("y")), "html(body(\xff[=](\"x\") \"y\"))")
	// Ends without starts.
	checkMake(t, wordsOf(endWord("p"), endWord("b"), endWord("table"), endWord("svg"), endWord("html")), ``)
	checkMake(t, wordsOf(startWord("body"), endWord("b"), endWord("table"), endWord("td"), endWord("svg"), endWord("li"), endWord("h1"), endWord("div"), endWord("q"), endWord("title"), endWord("br"), endWord("a")), `html(body)`)
	checkMake(t, nil, ``)
}

func TestMakeOfNotesAndKinds(t *testing.T) {
	checkPages(t,
		`<!doctype html><!--n--><p>a`, `?html !n html(body(p("a")))`,
		`<!--n--><!doctype html>x`, `!n ?html html(body("x"))`,
		`<!--n--><!--m--><!doctype html>`, `!n !m ?html`,
		` <!doctype a>`, `?a`,
		`</p><!doctype a>`, `?a`,
		`<!doctype>`, `?`,
		`<!doctype a><!doctype b>`, `?a`,
		`<!doctype a><!--n--><!doctype b>`, `?a !n`,
		`x<!doctype a>`, `html(body("x"))`,
		`<html><!doctype a>`, `html`,
		`<!--a-->x<!--b-->`, `!a html(body("x" !b))`,
		`<!--a--><html><!--b--><head><!--c--><title>t</title><!--d--><body><!--e-->`, `!a html(!b head(!c title("t") !d) body(!e))`,
		`<table><!--n--><tr><!--m--><td><!--k-->`, `html(body(table(!n tbody(tr(!m td(!k))))))`,
		`<p>a</p></body></html><!--n-->`, `html(body(p("a") !n))`,
		`<svg><!--n--></svg><!--m-->`, `html(body(svg:1(!n) !m))`,
		`<p><b>x<p><!--n-->y`, `html(body(p(b("x")) p(!n b("y"))))`,
		`<!---->`, `!`,
	)
	checkMake(t, wordsOf(noteWord(""), kindWord(""), kindWord("k"), textWord("x")), `! ? html(body("x"))`)
}

// checkStep holds a step of a page that is right: by the rule, right again, and with no item less than there were.
func checkStep(t *testing.T, p impl.Page, word impl.Token) impl.Page {
	t.Helper()
	got := impl.Step(p, word)
	if rule := plainStep(p, word); !samePage(got, rule) {
		t.Fatalf("%+v in %s makes\n%s, the rule has\n%s", word, shownPage(p), shownPage(got), shownPage(rule))
	}
	if !impl.PageOk(got) {
		t.Fatalf("%+v in %s makes %s", word, shownPage(p), shownPage(got))
	}
	for i, it := range p.Items {
		if !stillThere(it, got.Items[i]) {
			t.Fatalf("%+v in %s: item %d became %+v", word, shownPage(p), i, got.Items[i])
		}
	}
	return got
}

// stillThere tells whether an item is what it was, but that it may have more kids, more text and more attributes.
func stillThere(was, is impl.Item) bool {
	at := 0
	for _, k := range is.Kids {
		if at < len(was.Kids) && was.Kids[at] == k {
			at++
		}
	}
	return at == len(was.Kids) && is.Kind == was.Kind && is.Name == was.Name && is.Space == was.Space && is.Up == was.Up &&
		strings.HasPrefix(is.Text, was.Text) && len(is.Attrs) >= len(was.Attrs) && slices.Equal(is.Attrs[:len(was.Attrs)], was.Attrs)
}

// keptText is what a word adds to the texts of a page that has room, and in which no table is.
func keptText(p impl.Page, word impl.Token) string {
	if word.Kind != impl.TkText || p.Body == 0 && onlyBlanks(word.Text) && !plainInRaw(p) {
		return ""
	}
	return word.Text
}

// wordOf is the word of a text that is just one.
func wordOf(s string) impl.Token {
	list := impl.Scan(s)
	if len(list) != 1 {
		panic(s)
	}
	return list[0]
}

// checkRows holds promise 10, and all of the rules, for all rows of so many of those words, behind those of a text.
func checkRows(t *testing.T, ahead string, long int, pieces ...string) {
	var words []impl.Token
	for _, piece := range pieces {
		words = append(words, wordOf(piece))
	}
	tables := slices.ContainsFunc(append(words, impl.Scan(ahead)...), func(word impl.Token) bool { return word.Name == "table" })
	var next func(p impl.Page, row []impl.Token, kept string)
	next = func(p impl.Page, row []impl.Token, kept string) {
		if !textsApart(p.Items) || !tables && impl.Texts(p.Items) != kept {
			t.Fatalf("%s makes %s, its texts are not %q", shownWords(row), shownPage(p), kept)
		}
		if len(row) == long {
			if got := impl.Make(append(impl.Scan(ahead), row...)); !samePage(got, p) {
				t.Fatalf("%s behind %s: Make has %s, Steps have %s", shownWords(row), ahead, shownPage(got), shownPage(p))
			}
			return
		}
		for _, word := range words {
			next(checkStep(t, p, word), append(row[:len(row):len(row)], word), kept+keptText(p, word))
		}
	}
	p := impl.Make(impl.Scan(ahead))
	next(p, nil, impl.Texts(p.Items))
}

func TestMakeByTheRule(t *testing.T) {
	for _, c := range []struct {
		what   string
		ahead  string
		long   int
		pieces []string
	}{
		{"tables", "<table>", 4, []string{"<table>", "</table>", "<tbody>", "<tr>", "</tr>", "<td>", "</td>", "x", " ", "<b>", "</b>", "<!--n-->"}},
		{"cells", "<b>v<table><td><i>w", 4, []string{"<table>", "</table>", "<tr>", "<th>", "</th>", "x", "<i>", "</b>", "</i>", "<a>", "<p>", "</p>"}},
		{"formats", "", 5, []string{"<a>", "</a>", "<b>", "</b>", "<i>", "</i>", "<p>", "<div>", "</div>", "x"}},
		{"links", "<a>", 5, []string{"<a>", "</a>", "<b>", "</b>", "<table>", "<td>", "</table>", "<div>", "x"}},
		{"spaces", "", 4, []string{"<svg>", "<svg/>", "</svg>", "<math>", "<g>", "</g>", "<g/>", "<p>", "</p>", "<td>", "<table>", "<b>", "</b>", "<title>", "x"}},
		{"spaces in a cell", "<table><td><b><svg>", 4, []string{"<svg>", "</svg>", "<math/>", "<br>", "</br>", "<td>", "<tr>", "</table>", "<b>", "</b>", "x", " "}},
		{"heads", "", 4, []string{"<html a=1>", "<html a=2 b=3>", "<head c=4>", "<body d=5>", "<body d=6 e=7>", "<title>", "</title>", "<meta>", "x", " ", "<!--n-->", "<!doctype k>", "<p>", "</p>", "<script/>", "</body>"}},
		{"blocks", "", 4, []string{"<p>", "</p>", "<ul>", "</ul>", "<li>", "</li>", "<h1>", "<h2>", "</h1>", "<hr>", "<div>", "</div>", "x", "<table>", "<td>", "<b>"}},
	} {
		t.Run(c.what, func(t *testing.T) {
			t.Parallel()
			checkRows(t, c.ahead, c.long, c.pieces...)
		})
	}
}

// everyWord is a start and an end of each name that the document has in this chapter, and of some that it has not; texts, notes and a kind.
func everyWord() []impl.Token {
	list := wordsOf(textWord("x"), textWord(" "), textWord("\n"), textWord(" y"), textWord(""), noteWord("n"), noteWord(""), kindWord("k"))
	for _, name := range append(listedTags(), "head", "body", "textarea", "svg", "math", "q", "P", "caption", "\xff") {
		list = append(list, startWord(name), startWord(name, "x", "1", "y", "2"), selfWord(name), endWord(name))
	}
	return list
}

// rightPages are pages that are right: of texts, and such as no text makes, laid by hand.
func rightPages() []impl.Page {
	var pages []impl.Page
	for _, s := range []string{
		"", "<!--n-->", "<!doctype k>", "<html>", "<html x=0>", "<head>", "<title>", "<meta>", "<body y=0>", "x", "<p>", "<p>x", "<b>", "<p><b>x<p>", "<a><div>", "<table>", "<table> ", "x<table>", "<table><tbody>", "<table><tr>", "<table><td>",
		"<table><td><b>x<td>", "<b><table>", "<a><table>", "<table><b>", "<table><td><table><tr>", "<ul><li>", "<ul><li><ul>", "<h1>", "<h1><b>", "<svg>", "<math><g>", "<table><svg>", "<table><td><svg><g>", "<b><svg><b>", "<p><svg>", "<textarea>", "<q><div>", "<b><b><b>",
	} {
		pages = append(pages, impl.Make(impl.Scan(s)))
	}
	noBody := openPage("html", "div", "p", "table")
	noHtml := openPage("div", "b")
	noHtml.Forms = []int{2}
	nothingOpen := pageToTry()
	nothingOpen.Open = nil
	onlyForms := formPage()
	onlyForms.Open = nil
	htmlOpenTwice := openPage("html", "p", "html", "td", "b")
	headClosed := kindsPage()
	headClosed.Open, headClosed.Body = []int{1, 8}, 0
	round := openPage("html", "body", "table", "tr", "td", "p", "a", "li")
	round.Body = 2
	slices.Reverse(round.Open)
	round.Forms = []int{7, -1, 7, 7}
	spaces := openPage("html", "body", "svg", "p", "math", "table", "tr", "b")
	spaces.Body, spaces.Forms = 2, []int{8}
	for i, space := range []int{0, 0, 0, 1, 0, 2, 1, 2, 0} {
		spaces.Items[i].Space = space
	}
	within := copiedPage(spaces)
	within.Items[8].Space = 2
	rawWithin := openPage("html", "body", "title", "script")
	rawWithin.Items[3].Space, rawWithin.Body = 1, 2
	parts := openPage("html", "body", "tr", "td", "tbody")
	parts.Body = 2
	twoLinks := waitingPage([]string{"a", "a", "b"}, 4, 5, 4, 6, 5)
	twoLinks.Open, twoLinks.Body = []int{1, 2, 5, 3, 4, 6}, 2
	inHead := openPage("html", "head", "q")
	inHead.Head = 2
	voidOnes := openPage("html", "body", "br", "hr")
	voidOnes.Body = 2
	cellAlone := openPage("html", "body", "q", "b", "td", "i")
	cellAlone.Body, cellAlone.Forms = 2, []int{4}
	return append(pages, tablePage(), formPage(), pageToTry(), kindsPage(), inHead, voidOnes, cellAlone, noBody, noHtml, besidePage(), nothingOpen, onlyForms, htmlOpenTwice, headClosed, round, spaces, within, rawWithin, parts, twoLinks)
}

// besidePage has an html that is not open beside a `div` and a table in it that are; no head and no body.
func besidePage() impl.Page {
	return impl.Page{Items: itemsOf(pageItem(1, 2), tagItem("html", 0), tagItem("div", 0, 3), tagItem("table", 2)), Open: []int{2, 3}}
}

// TestHeadComesIntoTheHtml goes on in pages in which the html is not what is open innermost: the head stands in it all the same, and what comes behind it in the head.
func TestHeadComesIntoTheHtml(t *testing.T) {
	nothingOpen := openPage("html", "div")
	nothingOpen.Open = nil
	most := openPage(append([]string{"html"}, slices.Repeat([]string{"q"}, 39)...)...)
	deep := strings.Repeat("q(", 38) + "q" + strings.Repeat(")", 38)
	for _, c := range []struct {
		p          impl.Page
		head, meta string
		open       []int
	}{
		{openPage("html"), `html(head[k=v])`, `html(head(meta))`, []int{1, 2}},
		{openPage("html", "div"), `html(div head[k=v])`, `html(div head(meta))`, []int{1, 2, 3}},
		{openPage("html", "div", "p"), `html(div(p) head[k=v])`, `html(div(p) head(meta))`, []int{1, 2, 3, 4}},
		// Not ahead of the table, as other tags in it.
		{openPage("html", "table"), `html(table head[k=v])`, `html(table head(meta))`, []int{1, 2, 3}},
		{openPage("html", "div", "table", "tr"), `html(div(table(tr)) head[k=v])`, `html(div(table(tr)) head(meta))`, []int{1, 2, 3, 4, 5}},
		// An html that is there, and not open.
		{nothingOpen, `html(div head[k=v])`, `html(div head(meta))`, []int{3}},
		{besidePage(), `html(head[k=v]) div(table)`, `html(head(meta)) div(table)`, []int{2, 3, 4}},
		// None is put where something is open: the head comes to where any tag does.
		{openPage("div"), `div(head[k=v])`, `div(head(meta))`, []int{1, 2}},
		{openPage("div", "table"), `div(head[k=v] table)`, `div(head(meta) table)`, []int{1, 2, 3}},
		// No more than MaxOpen are open: the head is there, and what comes behind it in what is open.
		{most, `html(` + deep + ` head[k=v])`, `html(` + strings.Replace(deep, "q)", "q(meta))", 1) + ` head)`, most.Open},
	} {
		checkPageOk(t, true, c.p)
		head := checkStep(t, c.p, startWord("head", "k", "v"))
		meta := checkStep(t, c.p, startWord("meta"))
		if told := branches(head.Items, 0); told != c.head {
			t.Errorf("head in %s: %s, want %s", shownPage(c.p), told, c.head)
		}
		if told := branches(meta.Items, 0); told != c.meta {
			t.Errorf("meta in %s: %s, want %s", shownPage(c.p), told, c.meta)
		}
		for _, q := range []impl.Page{head, meta} {
			if q.Head != len(c.p.Items) || q.Items[q.Head].Name != "head" || !slices.Equal(q.Open, c.open) || !impl.PageOk(q) {
				t.Errorf("in %s: the head is %d, open are %v, want %v", shownPage(c.p), q.Head, q.Open, c.open)
			}
		}
		// There is one head then, and its attributes stay.
		checkPage(t, "another head", impl.StartTag(head, "head", attrsOf("k", "w", "l", "v"), false), head)
	}
	// A body behind it stands in the html, too.
	body := impl.Text(impl.StartTag(openPage("html", "div"), "head", nil, false), "x")
	if told := branches(body.Items, 0); told != `html(div head body("x"))` || !slices.Equal(body.Open, []int{1, 4}) {
		t.Errorf("a body behind the head: %s, open %v", told, body.Open)
	}
	// There is no head where there is no room for it.
	full := filledPage(openPage("html", "div"), 3000)
	checkPage(t, "a full page behind a head", impl.StartTag(full, "head", nil, false), full)
	last := impl.StartTag(filledPage(openPage("html", "div"), 2999), "meta", nil, false)
	if last.Head != 2999 || last.Items[2999].Up != 1 || len(last.Items) != 3000 {
		t.Errorf("the last item is the head %d: %+v", last.Head, last.Items[len(last.Items)-1])
	}
}

func TestEveryWordInEveryPage(t *testing.T) {
	for k, p := range rightPages() {
		t.Run(fmt.Sprint(k), func(t *testing.T) {
			t.Parallel()
			checkPageOk(t, true, p)
			for _, word := range everyWord() {
				q := checkStep(t, p, word)
				for _, other := range everyWord() {
					if !other.Self && len(other.Attrs) == 0 {
						checkStep(t, q, other)
					}
				}
			}
		})
	}
}

// filledPage is the page with so many items, by tags and notes ahead of all in the first item; none of these is open.
func filledPage(p impl.Page, many int) impl.Page {
	p = copiedPage(p)
	for len(p.Items) < many {
		tag := len(p.Items)
		p.Items[0].Kids = slices.Insert(p.Items[0].Kids, 0, tag)
		p.Items = append(p.Items, tagItem("x", 0))
		for len(p.Items) < many && len(p.Items) < tag+60 {
			p.Items[tag].Kids = append(p.Items[tag].Kids, len(p.Items))
			p.Items = append(p.Items, noteItem("n", tag))
		}
	}
	return p
}

// TestStepsUpToMaxItems holds each rule that puts more than one item where there is room for all of them, for some, for none, and where there are too many.
func TestStepsUpToMaxItems(t *testing.T) {
	for _, c := range []struct {
		ahead string
		word  impl.Token
		most  int // so many items it puts where there is room
	}{
		{"", textWord("x"), 3},
		{"", startWord("html", "a", "1"), 1},
		{"", startWord("head", "a", "1"), 2},
		{"", startWord("body", "a", "1"), 2},
		{"", startWord("title"), 3},
		{"", startWord("meta"), 3},
		{"", startWord("p"), 3},
		{"", startWord("td"), 2},
		{"", startWord("svg"), 3},
		{"", startWord("b"), 3},
		{"", startWord("q"), 3},
		{"", noteWord("n"), 1},
		{"<html>", startWord("meta"), 2},
		{"<head>", textWord("x"), 2},
		{"<head>", startWord("script"), 1},
		{"<head><title>", textWord("x"), 1},
		{"<title>a", textWord("x"), 0},
		{"<title></title>", textWord("x"), 2},
		{"<title></title>", startWord("body", "a", "1"), 1},
		{"<html>", startWord("html", "a", "1"), 0},
		{"<body>", startWord("body", "a", "1"), 0},
		{"<p>", textWord("x"), 1},
		{"<p>a", textWord("x"), 0},
		{"<p><b>a<p>", textWord("x"), 2},
		{"<p><b><i><u>a<p>", textWord("x"), 4},
		{"<p><b><i><u>a<p>", startWord("q"), 4},
		{"<p><b><i><u>a<p>", startWord("br"), 4},
		{"<p><b><i><u>a<p>", startWord("svg"), 4},
		{"<p><b><i><u>a<p>", startWord("em"), 4},
		{"<p><b><i><u>a<p>", startWord("p"), 1},
		{"<p><a><i>a<p>", startWord("a"), 2},
		{"<a><p>", startWord("a"), 1},
		{"<table>", startWord("tbody", "a", "1"), 1},
		{"<table>", startWord("tr", "a", "1"), 2},
		{"<table>", startWord("td", "a", "1"), 3},
		{"<table><tbody>", startWord("th", "a", "1"), 2},
		{"<table><tr>", startWord("td"), 1},
		{"<table><td><b>", startWord("td"), 1},
		{"<table><td><b>", startWord("tr"), 1},
		{"<table>", textWord("x"), 1},
		{"<table>", textWord(" "), 1},
		{"<table> ", textWord(" "), 0},
		{"a<table>", textWord("x"), 0},
		{"<table>", startWord("b"), 1},
		{"<table>", endWord("p"), 1},
		{"<div>", endWord("p"), 1},
		{"<p>", endWord("p"), 0},
		{"<svg>", endWord("p"), 1},
		{"<svg>", startWord("g"), 1},
		{"<p><svg>", startWord("p"), 1},
	} {
		t.Run(c.ahead+" "+fmt.Sprint(c.word.Kind)+c.word.Name+c.word.Text, func(t *testing.T) {
			t.Parallel()
			p := impl.Make(impl.Scan(c.ahead))
			for room := 0; room <= c.most+1; room++ {
				got := checkStep(t, filledPage(p, 3000-room), c.word)
				if want := 3000 - room + min(room, c.most); len(got.Items) != want {
					t.Errorf("with room for %d there are %d items, want %d", room, len(got.Items), want)
				}
			}
			tooMany := filledPage(p, 3001)
			checkPage(t, "a page of too many items", impl.Step(tooMany, c.word), tooMany)
		})
	}
}

// TestCellsWithLittleRoom tells by hand what of a cell, and what stands about it, is put and opened.
func TestCellsWithLittleRoom(t *testing.T) {
	p := impl.Make(impl.Scan("<table>"))
	for room, c := range []struct {
		told  string
		open  int
		forms []int
	}{
		{`table`, 3, nil},
		{`table(tbody)`, 4, nil},
		{`table(tbody(tr))`, 5, nil},
		{`table(tbody(tr(td)))`, 6, []int{-1}},
	} {
		got := impl.StartTag(filledPage(p, 3000-room), "td", nil, false)
		if told := branches(got.Items, 2); told != c.told || len(got.Open) != c.open || !slices.Equal(got.Forms, c.forms) {
			t.Errorf("with room for %d: %s, open %v, forms %v", room, told, got.Open, got.Forms)
		}
	}
	// No format that was not put waits to be opened.
	full := impl.StartTag(filledPage(impl.PageNew(), 2997), "b", nil, false)
	if len(full.Items) != 3000 || !slices.Equal(full.Forms, []int{2999}) {
		t.Errorf("the last three items are %s", shownItems(full.Items[2997:]))
	}
	checkPage(t, "a full page behind a format", impl.StartTag(full, "b", nil, false), full)
	// No head and no body that was not put is one; what is open goes all the same.
	full = filledPage(impl.Make(impl.Scan("<title>a</title>")), 3000)
	got := impl.Text(full, "x")
	full.Open = full.Open[:1]
	checkPage(t, "a full page behind a text", got, full)
	full = filledPage(impl.Make(impl.Scan("<html>")), 3000)
	checkPage(t, "a full page behind a meta", impl.StartTag(full, "meta", nil, false), full)
	// A full page takes attributes still.
	full = filledPage(impl.Make(impl.Scan("<body a=1>")), 3000)
	got = impl.StartTag(impl.StartTag(full, "body", attrsOf("a", "2", "b", "3"), false), "html", attrsOf("c", "4"), false)
	full.Items[1].Attrs, full.Items[2].Attrs = attrsOf("c", "4"), attrsOf("a", "1", "b", "3")
	checkPage(t, "a full page behind its body", got, full)
}

// checkDeep holds pages in which so many `div`s are open, in html and body, ahead of a text: what stands in the innermost of them.
func checkDeep(t *testing.T, many int, pairs ...string) {
	t.Helper()
	for k := 0; k < len(pairs); k += 2 {
		within := pairs[k+1]
		if within != "" {
			within = "(" + within + ")"
		}
		checkMake(t, impl.Scan(strings.Repeat("<div>", many)+pairs[k]), "html(body("+strings.Repeat("div(", many-1)+"div"+within+strings.Repeat(")", many-1)+"))")
	}
}

func TestMakeUpToMaxOpen(t *testing.T) {
	checkDeep(t, 38, "", ``, "<div>x", `div "x"`, "<p>x<p>y", `p "x" p "y"`, "<svg>x", `svg:1 "x"`, "<q>x", `q "x"`, "<br>x", `br "x"`, "<table>x<td>y", `table "xy"`,
		"<title>a</title>b", `title "ab"`, "</p>x", `p "x"`, "<b>x", `b b "x"`, "<ul><li>a<li>b", `ul li "a" li "b"`, "<h1>a<h2>b", `h1 "a" h2 "b"`)
	checkDeep(t, 37, "<div>x", `div("x")`, "<div><div>x", `div(div "x")`, "<p>x<p>y", `p("x") p("y")`, "<b>x", `b("x")`, "<b><i>x", `b(i i "x")`, "<svg><g>x", `svg:1(g:1 "x")`,
		"<table>x", `"x" table`, "<table><td>x", `"x" table(tbody tr td)`, "<table><tr>x", `"x" table(tbody tr)`, "<table><tbody><td>", `table(tbody tbody tr td)`, "<table></p>x", `p "x" table`)
	checkDeep(t, 36, "<table><td>x", `"x" table(tbody(tr td))`, "<table><td><td>", `table(tbody(tr td tr td))`, "<table><tr><tr>", `table(tbody(tr tr))`, "<p><b>x<p>y", `p(b("x")) p(b("y"))`)
	checkDeep(t, 35, "<table><td>x", `"x" table(tbody(tr(td)))`, "<table><td><b>x", `b "x" table(tbody(tr(td)))`)
	checkDeep(t, 34, "<table><td>x<td>y", `table(tbody(tr(td("x") td("y"))))`, "<table><td><b>x", `table(tbody(tr(td(b b "x"))))`)
	// No mark where the cell was not opened.
	for many, marks := range map[int]int{34: 1, 35: 0, 36: 0, 37: 0} {
		p := impl.Make(impl.Scan(strings.Repeat("<div>", many) + "<table><td>"))
		if len(p.Forms) != marks || len(p.Open) != 40 {
			t.Errorf("%d: open %v, forms %v", many, p.Open, p.Forms)
		}
	}
}

// TestEveryWordUpToMaxOpen goes on from pages in which MaxOpen are open, or a few less.
func TestEveryWordUpToMaxOpen(t *testing.T) {
	for _, ahead := range []string{"", "<table>", "<table><tr>", "<table><td>", "<b>", "<p><b><i>x<p>", "<a>", "<svg>", "<ul><li>", "<h1>", "<textarea>", "<q>"} {
		t.Run(ahead, func(t *testing.T) {
			t.Parallel()
			for many := 35; many <= 39; many++ {
				p := impl.Make(impl.Scan(strings.Repeat("<div>", many) + ahead))
				for _, word := range everyWord() {
					q := checkStep(t, p, word)
					for _, other := range wordsOf(textWord("x"), startWord("td"), startWord("a"), endWord("p"), endWord("b")) {
						checkStep(t, q, other)
					}
				}
			}
		})
	}
}

// TestStepsUpToTheMostForms goes on from pages in which 3 MaxOpen wait, or a few less: in a cell whose mark stands among them, and in a block.
func TestStepsUpToTheMostForms(t *testing.T) {
	for _, many := range []int{117, 118, 119, 120} {
		cell := openPage("html", "body", "table", "tbody", "tr", "td", "b")
		block := openPage("html", "body", "b", "p")
		cell.Body, block.Body = 2, 2
		cell.Forms = append([]int{7, -1}, slices.Repeat([]int{7}, many-2)...)
		block.Forms = slices.Repeat([]int{3}, many)
		for _, p := range []impl.Page{cell, block} {
			checkPageOk(t, true, p)
			for _, word := range wordsOf(startWord("b"), startWord("b", "k", "7"), startWord("i"), startWord("a"), startWord("td"), startWord("table"), textWord("x"), endWord("b"), endWord("i"), endWord("td"), endWord("table"), startWord("p")) {
				q := checkStep(t, p, word)
				checkStep(t, checkStep(t, q, startWord("table")), startWord("td"))
				checkStep(t, q, endWord("table"))
			}
		}
		// A format that finds no place there is put all the same, and a cell that finds none for its mark, too.
		got := impl.StartTag(block, "i", nil, false)
		if len(got.Forms) != min(many+1, 120) || len(got.Items) != len(block.Items)+1 || len(got.Open) != len(block.Open)+1 {
			t.Errorf("%d wait: a format makes %d, %d items", many, len(got.Forms), len(got.Items))
		}
		got = impl.StartTag(impl.StartTag(block, "table", nil, false), "td", nil, false)
		if len(got.Forms) != min(many+1, 120) || len(got.Items) != len(block.Items)+4 {
			t.Errorf("%d wait: a cell makes %d, %d items", many, len(got.Forms), len(got.Items))
		}
	}
}

// TestMakeOfLongRows goes on for long, by a rule of its own for which word comes next: with many open, many waiting, many tables in each other.
func TestMakeOfLongRows(t *testing.T) {
	some := map[string][]string{
		"all":     nil,
		"tables":  {"<table>", "<td>", "<td>", "<tr>", "<b>", "</b>", "</table>", "x", " ", "<th>", "</td>", "<svg>", "<p>"},
		"formats": {"<b>", "<i>", "<b a=1>", "</b>", "</i>", "<p>", "<a>", "</a>", "x", "<div>", "</div>", "<u>", "<em>"},
		"deep":    {"<div>", "<ul>", "<li>", "<q>", "<b>", "<table>", "<td>", "x", "</div>", "<svg>", "<h1>", "<p>", "</li>"},
	}
	for what, pieces := range some {
		for seed := range 6 {
			t.Run(fmt.Sprint(what, seed), func(t *testing.T) {
				t.Parallel()
				words := everyWord()
				if pieces != nil {
					words = nil
				}
				for _, piece := range pieces {
					words = append(words, wordOf(piece))
				}
				var row []impl.Token
				p, next := impl.PageNew(), uint64(seed*7919+17)
				for range 200 {
					next = next*6364136223846793005 + 1442695040888963407
					word := words[next>>33%uint64(len(words))]
					row = append(row, word)
					p = checkStep(t, p, word)
				}
				if !samePage(impl.Make(row), p) {
					t.Errorf("Make of %d words is not what their Steps make", len(row))
				}
			})
		}
	}
}

// TestWordsAreKept holds that all texts of a long page without a table are there, in order, as long as there is room.
func TestWordsAreKept(t *testing.T) {
	var page, want strings.Builder
	tags := []string{"<p>", "<b>", "</p>", "<i>", "</b>", "<ul>", "<li>", "</ul>", "<svg>", "<td>", "</svg>", "<a>", "<div>", "</div>", "</i>", "<h1>", "<br>", "<q>"}
	for k := range 400 {
		word := fmt.Sprint(k, ";")
		page.WriteString(tags[(k*k+k/7)%len(tags)] + word + tags[(k*5+k/3)%len(tags)])
		want.WriteString(word)
	}
	p := impl.Make(impl.Scan(page.String()))
	if got := impl.Texts(p.Items); got != want.String() || !impl.PageOk(p) || len(p.Items) >= impl.MaxItems {
		t.Errorf("%d items, texts %s", len(p.Items), shortText(got))
	}
	// More words than there is room for: what was there stays, and what comes is let go.
	full := impl.Make(slices.Repeat(wordsOf(textWord("x"), startWord("br"), textWord("y"), startWord("p")), 1500))
	if !impl.PageOk(full) || len(full.Items) != impl.MaxItems || !strings.HasPrefix(strings.Repeat("xy", 3000), impl.Texts(full.Items)) {
		t.Errorf("%d items", len(full.Items))
	}
}

func TestStepsInWrongPages(t *testing.T) {
	for _, p := range append(wrongPages(), impl.Page{}) {
		for _, word := range everyWord() {
			checkPage(t, fmt.Sprintf("%+v", word), impl.Step(p, word), p)
		}
		for _, name := range []string{"", "p", "html", "head", "body", "td", "b"} {
			for _, self := range []bool{false, true} {
				checkPage(t, "StartTag of "+name, impl.StartTag(p, name, attrsOf("a", "1"), self), p)
			}
			checkPage(t, "EndTag of "+name, impl.EndTag(p, name), p)
			checkPage(t, "Text of "+name, impl.Text(p, name), p)
		}
	}
}

func TestStepsOfWrongWords(t *testing.T) {
	for _, p := range rightPages() {
		for _, self := range []bool{false, true} {
			checkPage(t, "StartTag of no name", impl.StartTag(p, "", nil, self), p)
			checkPage(t, "StartTag of no name", impl.StartTag(p, "", attrsOf("a", "1"), self), p)
			for _, name := range append(listedTags(), "head", "body", "svg", "math", "textarea", "q") {
				for _, attrs := range [][]impl.Attr{attrsOf("a", "1", "a", "1"), attrsOf("a", "1", "b", "2", "a", "3"), attrsOf("", "", "", "1"), attrsOf("x", "", "y", "", "y", "")} {
					checkPage(t, "StartTag of "+name+" with a name twice", impl.StartTag(p, name, attrs, self), p)
				}
			}
		}
		checkPage(t, "EndTag of no name", impl.EndTag(p, ""), p)
		checkPage(t, "Text of nothing", impl.Text(p, ""), p)
		for _, kind := range []int{0, -1, 6, 7, 1 << 40, -1 << 63} {
			checkPage(t, fmt.Sprint("Step of kind ", kind), impl.Step(p, impl.Token{Kind: kind, Name: "p", Text: "x", Attrs: attrsOf("a", "1")}), p)
		}
		checkPage(t, "Step of the zero word", impl.Step(p, impl.Token{}), p)
		checkPage(t, "Step of a start without a name", impl.Step(p, impl.Token{Kind: impl.TkStart, Text: "x"}), p)
		checkPage(t, "Step of an end without a name", impl.Step(p, impl.Token{Kind: impl.TkEnd, Text: "x"}), p)
		checkPage(t, "Step of an empty text", impl.Step(p, impl.Token{Kind: impl.TkText, Name: "p"}), p)
	}
	// What is let go leaves no trace between others.
	checkMake(t, wordsOf(impl.Token{}, startWord(""), startWord("p", "a", "1", "a", "2"), kindWord("k"), endWord(""), impl.Token{Kind: 9, Name: "p"}, textWord("x")), `?k html(body("x"))`)
}

// roomyWord is a word with room behind its attributes, and something in it.
func roomyWord(word impl.Token) impl.Token {
	word.Attrs = append(slices.Clone(word.Attrs), attrsOf("spare", "1", "room", "2")...)[:len(word.Attrs)]
	return word
}

func sameRoomOfWords(a, b impl.Token) bool {
	many := len(a.Attrs)
	return sameWord(a, b) && slices.Equal(a.Attrs[:many+2], b.Attrs[:many+2])
}

func spoilWord(word impl.Token) { spoilItem(impl.Item{Attrs: word.Attrs}) }

func TestStepsWriteIntoNothing(t *testing.T) {
	for k, p := range append(rightPages(), wrongPages()...) {
		t.Run(fmt.Sprint(k), func(t *testing.T) {
			t.Parallel()
			for _, word := range append(everyWord(), startWord("p", "a", "1", "a", "2"), startWord(""), impl.Token{Kind: 9}) {
				given, own := roomyPage(p), roomyWord(word)
				got := impl.Step(given, own)
				if !sameRoomOfPages(given, roomyPage(p)) || !sameRoomOfWords(own, roomyWord(word)) {
					t.Fatalf("%+v in %s: the page became %s, the word %+v", word, shownPage(p), shownPage(given), own)
				}
				want := copiedPage(got)
				spoilWord(own)
				if !samePage(got, want) {
					t.Fatalf("%+v in %s: the answer shares memory with the word", word, shownPage(p))
				}
				own = roomyWord(word)
				spoilPage(impl.Step(given, own))
				if !sameRoomOfWords(own, roomyWord(word)) {
					t.Fatalf("%+v in %s: the word shares memory with the answer", word, shownPage(p))
				}
				checkNewPage(t, p, func(given impl.Page) impl.Page { return impl.Step(given, word) })
			}
		})
	}
	for _, p := range []impl.Page{impl.PageNew(), tablePage(), formPage(), kindsPage()} {
		for _, name := range []string{"html", "body", "p", "b", "td", "svg", "q", ""} {
			attrs := roomyWord(startWord(name, "y", "1", "x", "2")).Attrs
			got := impl.StartTag(p, name, attrs, false)
			want := copiedPage(got)
			if !slices.Equal(attrs[:4], attrsOf("y", "1", "x", "2", "spare", "1", "room", "2")) {
				t.Errorf("StartTag of %s writes into the attributes", name)
			}
			spoilItem(impl.Item{Attrs: attrs})
			if !samePage(got, want) {
				t.Errorf("StartTag of %s shares memory with the attributes", name)
			}
			checkNewPage(t, p, func(given impl.Page) impl.Page { return impl.EndTag(given, name) })
			checkNewPage(t, p, func(given impl.Page) impl.Page { return impl.Text(given, name) })
		}
	}
}

func TestMakeWritesIntoNoWords(t *testing.T) {
	made := func() []impl.Token {
		var list []impl.Token
		for _, word := range impl.Scan("<!doctype k><!--n--><html a=1 b=2><head c=3><title d=4>t</title><body e=5 f=6><body g=7><p h=8><b i=9 j=10>x<p>y<table k=11><td l=12 m=13>z<svg n=14><g o=15>") {
			list = append(list, roomyWord(word))
		}
		return append(list, impl.Token{Kind: 77}, impl.Token{Kind: 78})[:len(list)]
	}
	list, same := made(), made()
	got := impl.Make(list)
	want := copiedPage(got)
	if !slices.EqualFunc(list, same, sameRoomOfWords) || !sameWords(list[:len(list)+2], same[:len(list)+2]) {
		t.Errorf("the list became %s", shownWords(list[:len(list)+2]))
	}
	for k := range list {
		spoilWord(list[k])
	}
	clear(list[:cap(list)])
	if !samePage(got, want) {
		t.Errorf("%s shares memory with the list", shownPage(got))
	}
	list = made()
	spoilPage(impl.Make(list))
	if !slices.EqualFunc(list, same, sameRoomOfWords) {
		t.Errorf("%s shares memory with what is told", shownWords(list))
	}
	// Each list of the answer is its own.
	again := impl.Make(made())
	spoilNumbers(again.Open)
	spoilNumbers(again.Forms)
	for k := range again.Items {
		if !sameItems(again.Items[k:], want.Items[k:]) {
			t.Fatalf("items from %d on share memory with those ahead: %s", k, shownItems(again.Items[k:]))
		}
		spoilItem(again.Items[k])
	}
	checkPage(t, "Make again", impl.Make(made()), want)
}
