package tests

import (
	"fmt"
	"regexp"
	"slices"
	"strings"
	"testing"

	"loop.example/g00325/impl"
)

var (
	scanNote    = regexp.MustCompile(`(?s)^<!--(?:-?>|(.*?)(?:-->|\z))`)
	scanKind    = regexp.MustCompile(`(?s)^<![dD][oO][cC][tT][yY][pP][eE][\t\n\f\r ]*([^>]*)(?:>|\z)`)
	scanNothing = regexp.MustCompile(`^</>`)
	scanMark    = regexp.MustCompile(`(?s)^<(\?[^>]*)(?:>|\z)`)
	scanTag     = regexp.MustCompile(`(?s)^<(/?)([a-zA-Z][^\t\n\f\r />]*)`)
	scanOther   = regexp.MustCompile(`(?s)^<[!/]([^>]*)(?:>|\z)`)
	scanText    = regexp.MustCompile(`(?s)^(?:<?[^<]|<\z)(?:[^<]|<[^!?/a-zA-Z<]|<\z)*`)
)

// plainScan is the document's rule for a page, by patterns of which the first that fits counts.
func plainScan(s string) []impl.Token {
	rest := plainLines(impl.Clean(s))
	if len(rest) > 20000 {
		return nil
	}
	var list []impl.Token
	for rest != "" {
		words, many := plainWords(rest)
		for _, word := range words {
			last := len(list) - 1
			if last >= 0 && word.Kind == 1 && list[last].Kind == 1 {
				list[last].Text += word.Text
			} else {
				list = append(list, word)
			}
		}
		rest = rest[many:]
	}
	return list
}

// plainWords tells the words at the head of s, at most a tag with the text that it takes, and how many bytes they take.
func plainWords(s string) ([]impl.Token, int) {
	if m := scanNote.FindStringSubmatch(s); m != nil {
		return []impl.Token{{Kind: 4, Text: m[1]}}, len(m[0])
	}
	if m := scanKind.FindStringSubmatch(s); m != nil {
		return []impl.Token{{Kind: 5, Text: impl.Small(m[1])}}, len(m[0])
	}
	if m := scanNothing.FindString(s); m != "" {
		return nil, len(m)
	}
	if m := scanTag.FindStringSubmatch(s); m != nil {
		return plainTag(s, m[1] == "/", m[2], len(m[0]))
	}
	for _, pattern := range []*regexp.Regexp{scanMark, scanOther} {
		if m := pattern.FindStringSubmatch(s); m != nil {
			return []impl.Token{{Kind: 4, Text: m[1]}}, len(m[0])
		}
	}
	// Bytes 60 that stand side by side begin nothing but, perhaps, the last of them.
	many := 0
	for many+1 < len(s) && s[many] == '<' && s[many+1] == '<' {
		many++
	}
	if many == 0 {
		many = len(scanText.FindString(s))
	}
	return []impl.Token{{Kind: 1, Text: plainRefs(s[:many], false)}}, many
}

func plainTag(s string, ends bool, name string, behind int) ([]impl.Token, int) {
	end := plainTagEnd(s, 0)
	if end < 0 {
		return nil, len(s)
	}
	name = impl.Small(name)
	if ends {
		return []impl.Token{{Kind: 3, Name: name}}, end + 1
	}
	attrs, self := plainAttrs(s[behind:end])
	words := []impl.Token{{Kind: 2, Name: name, Attrs: attrs, Self: self}}
	if self || !slices.Contains([]string{"script", "style", "title", "textarea"}, name) {
		return words, end + 1
	}
	many := plainRawEnd(s, end+1, name)
	text := s[end+1 : many]
	if name == "title" || name == "textarea" {
		text = plainRefs(text, false)
	}
	if text != "" {
		words = append(words, impl.Token{Kind: 1, Text: text})
	}
	return words, many
}

func textWord(s string) impl.Token { return impl.Token{Kind: impl.TkText, Text: s} }

func startWord(name string, pairs ...string) impl.Token {
	return impl.Token{Kind: impl.TkStart, Name: name, Attrs: attrsOf(pairs...)}
}

func selfWord(name string, pairs ...string) impl.Token {
	return impl.Token{Kind: impl.TkStart, Name: name, Attrs: attrsOf(pairs...), Self: true}
}

func endWord(name string) impl.Token { return impl.Token{Kind: impl.TkEnd, Name: name} }

func noteWord(s string) impl.Token { return impl.Token{Kind: impl.TkNote, Text: s} }

func kindWord(s string) impl.Token { return impl.Token{Kind: impl.TkKind, Text: s} }

func wordsOf(list ...impl.Token) []impl.Token { return list }

func sameWord(a, b impl.Token) bool {
	return a.Kind == b.Kind && a.Name == b.Name && a.Text == b.Text && a.Self == b.Self && slices.Equal(a.Attrs, b.Attrs)
}

func sameWords(a, b []impl.Token) bool { return slices.EqualFunc(a, b, sameWord) }

func shownWords(list []impl.Token) string { return shortText(fmt.Sprintf("%+v", list)) }

// shortText is s, or its head and how long it is, where that would fill the page.
func shortText(s string) string {
	if len(s) > 200 {
		return fmt.Sprintf("%q.. of %d bytes", s[:200], len(s))
	}
	return fmt.Sprintf("%q", s)
}

func checkScan(t *testing.T, s string, want ...impl.Token) {
	t.Helper()
	if got := impl.Scan(s); !sameWords(got, want) {
		t.Errorf("Scan(%s) = %s, want %s", shortText(s), shownWords(got), shownWords(want))
	}
	if rule := plainScan(s); !sameWords(rule, want) {
		t.Errorf("the rule has %s for %s", shownWords(rule), shortText(s))
	}
}

func checkSpell(t *testing.T, want string, list ...impl.Token) {
	t.Helper()
	if got := impl.Spell(list); got != want {
		t.Errorf("Spell(%s) = %q, want %q", shownWords(list), got, want)
	}
}

func checkTokensOk(t *testing.T, want bool, list ...impl.Token) {
	t.Helper()
	if got := impl.TokensOk(list); got != want {
		t.Errorf("TokensOk(%s) = %v", shownWords(list), got)
	}
}

func TestScanOfAPage(t *testing.T) {
	checkScan(t, "<!DOCTYPE html>\n<html lang=en><head><title>A &amp; B</title><style>p > a { }</style></head>\r\n<body><!-- note -->1 &lt; 2<p CLASS=\"x &quot;y&quot;\" id>Text<br/>more</P><script>if (a<b && c) {}</script><textarea>\n&euro;</textarea></body></html>",
		kindWord("html"), textWord("\n"), startWord("html", "lang", "en"), startWord("head"),
		startWord("title"), textWord("A & B"), endWord("title"), startWord("style"), textWord("p > a { }"), endWord("style"), endWord("head"), textWord("\n"),
		startWord("body"), noteWord(" note "), textWord("1 < 2"), startWord("p", "class", "x \"y\"", "id", ""), textWord("Text"), selfWord("br"), textWord("more"), endWord("p"),
		startWord("script"), textWord("if (a<b && c) {}"), endWord("script"), startWord("textarea"), textWord("\n€"), endWord("textarea"), endWord("body"), endWord("html"))
	checkScan(t, "")
	checkScan(t, "a", textWord("a"))
	checkScan(t, "<p>", startWord("p"))
	checkScan(t, "</p>", endWord("p"))
	checkScan(t, "<p></p>", startWord("p"), endWord("p"))
	checkScan(t, " <p> </p> ", textWord(" "), startWord("p"), textWord(" "), endWord("p"), textWord(" "))
}

func TestScanNotes(t *testing.T) {
	for _, c := range []struct{ s, note, behind string }{
		{"<!--a-->", "a", ""}, {"<!--a-->b", "a", "b"}, {"<!-- a -- b -->c", " a -- b ", "c"}, {"<!--a--!>b-->c", "a--!>b", "c"}, {"<!--<p>&lt;-->c", "<p>&lt;", "c"}, {"<!--a\r\nb\r-->", "a\nb\n", ""},
		// Notes that end at once.
		{"<!-->", "", ""}, {"<!--->", "", ""}, {"<!---->", "", ""}, {"<!-->a", "", "a"}, {"<!--->a", "", "a"}, {"<!---->a", "", "a"}, {"<!-->-->", "", "-->"}, {"<!--->-->", "", "-->"}, {"<!---->-->", "", "-->"},
		{"<!----->", "-", ""}, {"<!------>a", "--", "a"}, {"<!-- -->", " ", ""}, {"<!--a--->", "a-", ""}, {"<!--a---->", "a--", ""}, {"<!-- >-->", " >", ""}, {"<!-- ->-->", " ->", ""}, {"<!--a->-->", "a->", ""}, {"<!--a>b-->", "a>b", ""},
		// Notes without an end.
		{"<!--", "", ""}, {"<!---", "-", ""}, {"<!----", "--", ""}, {"<!--a", "a", ""}, {"<!--a-", "a-", ""}, {"<!--a--", "a--", ""}, {"<!--a->", "a->", ""}, {"<!--a<p>b</p>", "a<p>b</p>", ""}, {"<!--a-- >", "a-- >", ""}, {"<!--<!--", "<!--", ""}, {"<!--&amp;", "&amp;", ""},
	} {
		var behind []impl.Token
		if c.behind != "" {
			behind = wordsOf(textWord(c.behind))
		}
		checkScan(t, c.s, append(wordsOf(noteWord(c.note)), behind...)...)
		checkScan(t, "x"+c.s, append(wordsOf(textWord("x"), noteWord(c.note)), behind...)...)
		checkScan(t, "<p>"+c.s, append(wordsOf(startWord("p"), noteWord(c.note)), behind...)...)
	}
	checkScan(t, "<!--a--><!--b--><!-->", noteWord("a"), noteWord("b"), noteWord(""))
	checkScan(t, "<!--a<!--b-->c-->", noteWord("a<!--b"), textWord("c-->"))
}

// strangeOnes are what is neither a tag nor a note in `<!--`, ahead of the byte 62 that may stand behind it, and the notes that they are.
var strangeOnes = []struct{ s, note string }{
	{"<!", ""}, {"<!-", "-"}, {"<! ", " "}, {"<!a", "a"}, {"<!A b='", "A b='"}, {"<!-a--", "-a--"}, {"<!<p", "<p"}, {"<!&lt;", "&lt;"}, {"<! --", " --"}, {"<!- -", "- -"}, {"<![CDATA[a]]", "[CDATA[a]]"},
	{"<!doctyp", "doctyp"}, {"<! doctype a", " doctype a"}, {"<!doc type", "doc type"}, {"<!/doctype", "/doctype"}, {"<!ELEMENT doctype", "ELEMENT doctype"}, {"<!doct\u00ffpe", "doct\u00ffpe"},
	{"<?", "?"}, {"<? ", "? "}, {"<?p", "?p"}, {"<?XML a='b'?", "?XML a='b'?"}, {"<?doctype a", "?doctype a"}, {"<??", "??"}, {"<?--", "?--"}, {"<?<", "?<"},
	{"</ ", " "}, {"</ a", " a"}, {"</1", "1"}, {"<//", "/"}, {"<//a", "/a"}, {"</!", "!"}, {"</!--", "!--"}, {"</-", "-"}, {"</<", "<"}, {"</<p", "<p"}, {"</?", "?"}, {"</=", "="}, {"</&lt;", "&lt;"}, {"</\u00e4", "\u00e4"}, {"</\n", "\n"}, {"</'", "'"},
	{"</@", "@"}, {"</[", "["}, {"</`", "`"}, {"</{", "{"}, {"</!doctype a", "!doctype a"},
}

func TestScanWhatIsStrange(t *testing.T) {
	for _, c := range strangeOnes {
		checkScan(t, c.s, noteWord(c.note))
		checkScan(t, c.s+">", noteWord(c.note))
		checkScan(t, c.s+">>", noteWord(c.note), textWord(">"))
		checkScan(t, c.s+">a<b>", noteWord(c.note), textWord("a"), startWord("b"))
		checkScan(t, "a"+c.s+">b", textWord("a"), noteWord(c.note), textWord("b"))
		checkScan(t, "<p>"+c.s, startWord("p"), noteWord(c.note))
	}
	// `</>` alone is nothing; without its byte 62, `</` is a note.
	checkScan(t, "</>")
	checkScan(t, "</></></>")
	checkScan(t, "</", noteWord(""))
	checkScan(t, "a</", textWord("a"), noteWord(""))
	checkScan(t, "</>a", textWord("a"))
	checkScan(t, "<p></></p>", startWord("p"), endWord("p"))
	checkScan(t, "<!></>", noteWord(""))
	checkScan(t, "<?></>", noteWord("?"))
	// Byte by byte: what stands behind `</`.
	for b := range 128 {
		s := "</" + string(rune(b)) + ">"
		switch {
		case impl.IsLetter(b):
			checkScan(t, s, endWord(strings.ToLower(string(rune(b)))))
		case b == '>':
			checkScan(t, s, textWord(">"))
		default:
			checkScan(t, s, noteWord(plainLines(string(rune(b)))))
		}
	}
}

func TestScanKinds(t *testing.T) {
	for _, c := range []struct{ s, kind string }{
		{"<!doctype html", "html"}, {"<!DOCTYPE HTML", "html"}, {"<!DocTYPE hTml", "html"}, {"<!doctypehtml", "html"}, {"<!DOCTYPEHTML", "html"}, {"<!doctype", ""}, {"<!DOCTYPE", ""}, {"<!doctype ", ""}, {"<!doctype \t\n\f\r ", ""},
		{"<!doctype\thtml", "html"}, {"<!doctype\r\nhtml", "html"}, {"<!doctype   html  ", "html  "}, {"<!doctype a b", "a b"}, {"<!doctype HTML PUBLIC \"-//X//Y\" 'Z'", "html public \"-//x//y\" 'z'"}, {"<!doctype/a", "/a"}, {"<!doctype-a", "-a"},
		{"<!doctypes", "s"}, {"<!doctypedoctype a", "doctype a"}, {"<!doctype <p", "<p"}, {"<!doctype &LT;", "&lt;"}, {"<!doctype \u00c4", "\u00c4"}, {"<!doctype a--", "a--"}, {"<!doctype\u00a0a", "\u00a0a"}, {"<!doctype\va", "\va"}, {"<!doctype a\rb", "a\nb"},
	} {
		checkScan(t, c.s, kindWord(c.kind))
		checkScan(t, c.s+">", kindWord(c.kind))
		checkScan(t, "a"+c.s+">>b", textWord("a"), kindWord(c.kind), textWord(">b"))
	}
	checkScan(t, "<!doctype a><!doctype b>", kindWord("a"), kindWord("b"))
	checkScan(t, "<!doctype a='>'>", kindWord("a='"), textWord("'>"))
}

func TestScanTags(t *testing.T) {
	for _, c := range []struct {
		s    string
		want impl.Token
	}{
		{"<a>", startWord("a")}, {"<A>", startWord("a")}, {"<aBc1-x>", startWord("abc1-x")}, {"<a >", startWord("a")}, {"<a\n>", startWord("a")}, {"<Z\t>", startWord("z")}, {"<h1>", startWord("h1")},
		{"<a/>", selfWord("a")}, {"<a />", selfWord("a")}, {"<a//>", selfWord("a")}, {"<a/ >", startWord("a")}, {"<a/b>", startWord("a", "b", "")}, {"<a/b/>", selfWord("a", "b", "")},
		{"<a b>", startWord("a", "b", "")}, {"<a b=c>", startWord("a", "b", "c")}, {"<a b=c/>", startWord("a", "b", "c/")}, {"<a b='c'/>", selfWord("a", "b", "c")}, {"<a b=\"c\" D='E' f=G>", startWord("a", "b", "c", "d", "E", "f", "G")},
		{"<a b='>'>", startWord("a", "b", ">")}, {"<a b=\"<c>\">", startWord("a", "b", "<c>")}, {"<a b='</a>'>", startWord("a", "b", "</a>")}, {"<a b='<!--'>", startWord("a", "b", "<!--")}, {"<a b='\r\n'>", startWord("a", "b", "\n")},
		{"<a b='&lt;&amp;lt;'>", startWord("a", "b", "<&lt;")}, {"<a b=&copy=1>", startWord("a", "b", "&copy=1")}, {"<a b=&copy>", startWord("a", "b", "\u00a9")}, {"<a b='&#13;'>", startWord("a", "b", "\r")}, {"<a b=1 B=2>", startWord("a", "b", "1")},
		{"<a<b>", startWord("a<b")}, {"<a&lt;>", startWord("a&lt;")}, {"<a=b>", startWord("a=b")}, {"<a='>", startWord("a='")}, {"<a\">", startWord("a\"")}, {"<a\u00c4>", startWord("a\u00c4")}, {"<a!>", startWord("a!")}, {"<a\v>", startWord("a\v")}, {"<a\x00>", startWord("a\x00")},
		{"<a <b>", startWord("a", "<b", "")}, {"<a =>", startWord("a", "=", "")}, {"<a =b=c>", startWord("a", "=b", "c")},
		{"</a>", endWord("a")}, {"</A>", endWord("a")}, {"</a >", endWord("a")}, {"</a/>", endWord("a")}, {"</a b>", endWord("a")}, {"</a b='>'>", endWord("a")}, {"</a/b=c/>", endWord("a")}, {"</a<b>", endWord("a<b")}, {"</a\n>", endWord("a")}, {"</a='>", endWord("a='")}, {"</script>", endWord("script")}, {"</TITLE x>", endWord("title")},
	} {
		checkScan(t, c.s, c.want)
		checkScan(t, "x"+c.s+"y", textWord("x"), c.want, textWord("y"))
		checkScan(t, c.s+c.s, c.want, c.want)
		checkScan(t, c.s+">", c.want, textWord(">"))
		// Without the byte 62 that ends it, nothing is told; what stands ahead is.
		open := strings.TrimSuffix(c.s, ">")
		checkScan(t, open)
		checkScan(t, "x"+open, textWord("x"))
		checkScan(t, "&lt;<b>"+open, textWord("<"), startWord("b"))
	}
}

func TestScanTagsWithoutAnEnd(t *testing.T) {
	for _, open := range []string{
		"<a", "</a", "<a ", "<a/", "</a/", "<a b", "<a b=", "<a b=c", "<a b='c'", "<a <b", "<a <!--", "<script", "</script", "<title x",
		"<a b='>", "<a b=\">", "<a b='>\">", "<a b=\">c<p>d</p>'", "</a b='>", "<a b='<!-- x -->", "<a b=\"" + strings.Repeat(">", 1000),
	} {
		checkScan(t, open)
		checkScan(t, "x"+open, textWord("x"))
		checkScan(t, "x &amp; y"+open, textWord("x & y"))
		checkScan(t, "x<"+"<"+open, textWord("x<<"))
		checkScan(t, "<p>x</p>"+open, startWord("p"), textWord("x"), endWord("p"))
		checkScan(t, "<!--n-->"+open, noteWord("n"))
		checkScan(t, "a</>"+open, textWord("a"))
		checkScan(t, "<script>x</script>"+open, startWord("script"), textWord("x"), endWord("script"))
	}
	// The end of a script that has no end of its own.
	checkScan(t, "<script>x</script ", startWord("script"), textWord("x"))
	checkScan(t, "<script></script ", startWord("script"))
	checkScan(t, "<title>x</title a='>", startWord("title"), textWord("x"))
}

func TestScanTexts(t *testing.T) {
	for _, c := range []struct{ s, want string }{
		{"a", "a"}, {" ", " "}, {"\n\t\f", "\n\t\f"}, {"a > b", "a > b"}, {">", ">"}, {"-->", "-->"}, {"a\x00b", "a\x00b"}, {"\u00e4\U0001F600", "\u00e4\U0001F600"},
		// A byte 60 that begins nothing.
		{"<", "<"}, {"a<", "a<"}, {"< a", "< a"}, {"a < b", "a < b"}, {"<1", "<1"}, {"<<", "<<"}, {"<<<", "<<<"}, {"< <", "< <"}, {"<>", "<>"}, {"<=>", "<=>"}, {"<-", "<-"}, {"<&lt;", "<<"}, {"<\n", "<\n"}, {"<\u00e4>", "<\u00e4>"}, {"<@[`{", "<@[`{"}, {"<\"a\">", "<\"a\">"}, {"<$a>", "<$a>"}, {"<\x00", "<\x00"},
		// References.
		{"&lt;p&gt;", "<p>"}, {"&lt;!--", "<!--"}, {"&amp;lt;", "&lt;"}, {"&copy=1", "\u00a9=1"}, {"&notx", "\u00acx"}, {"&notin;", "\u2209"}, {"&#60;b>", "<b>"}, {"&#x3c/b>", "</b>"}, {"&#13;", "\r"}, {"&#0;", "\ufffd"}, {"&#128;", "\u20ac"}, {"&", "&"}, {"&x;", "&x;"}, {"a&lt", "a<"},
		// Two texts with something that tells nothing between, each with references of its own.
		{"a</>b", "ab"}, {"a</></>b</>c", "abc"}, {"</>a</>", "a"}, {"&am</>p;", "&amp;"}, {"&lt</>;", "<;"}, {"&lt;</>&gt;", "<>"}, {"<</>p>", "<p>"}, {"&#6</>5;", "\x065;"}, {"&</>amp;", "&amp;"}, {"<</><", "<<"},
		// Bytes 13, and bytes that are no signs.
		{"a\r\nb", "a\nb"}, {"\r", "\n"}, {"\r\r\n\n\r", "\n\n\n\n"}, {"\xff", "\ufffd"}, {"a\xc3b", "a\ufffdb"}, {"\xe2\x82", "\ufffd"}, {"\xed\xa0\x80", "\ufffd\ufffd\ufffd"}, {"<\xff>", "<\ufffd>"}, {"\xf0\x9f\x98</>\x80", "\ufffd\ufffd"}, {"&lt\xff;", "<\ufffd;"},
	} {
		checkScan(t, c.s, textWord(c.want))
		checkScan(t, "<p>"+c.s+" </p>", startWord("p"), textWord(c.want+" "), endWord("p"))
		checkScan(t, "<!--\xff\r-->"+c.s+" <p\xff>", noteWord("\ufffd\n"), textWord(c.want+" "), startWord("p\ufffd"))
	}
	// What tells something parts texts.
	checkScan(t, "a<!-->b", textWord("a"), noteWord(""), textWord("b"))
	checkScan(t, "a<?>b", textWord("a"), noteWord("?"), textWord("b"))
	checkScan(t, "a<!doctype>b", textWord("a"), kindWord(""), textWord("b"))
}

func TestScanRawTexts(t *testing.T) {
	for _, name := range []string{"script", "style", "title", "textarea"} {
		refs := name == "title" || name == "textarea"
		large := strings.ToUpper(name)
		begin, end := startWord(name), endWord(name)
		for _, s := range []string{
			"x", " ", "\n", "<", "<p>", "</p>", "<!--", "<!-- x -->", "<![CDATA[", "<?", "</>", "</", "a<b", "a && b", "</" + name, "</" + name + "x>", "</ " + name + ">", "<" + name + ">", "</" + name[1:] + ">", "&amp;lt;", "&#65;&copy=", "&lt;/" + name + ">", "\u00e4",
			"</scripts>", "</styles>", "</titles>", "</textareas>", "<a b='", "</" + name + "\u00a0>",
		} {
			text := s
			if refs {
				text = impl.Refs(s, false)
			}
			checkScan(t, "<"+name+">"+s+"</"+name+">", begin, textWord(text), end)
			checkScan(t, "<"+large+">"+s+"</"+large+">", begin, textWord(text), end)
			checkScan(t, "<"+name+">"+s+"</"+name+" a='>'/>z", begin, textWord(text), end, textWord("z"))
			checkScan(t, "a<"+name+" b>"+s+"</"+large+"\n>c", textWord("a"), startWord(name, "b", ""), textWord(text), end, textWord("c"))
			// Its end is missing.
			checkScan(t, "<"+name+">"+s, begin, textWord(text))
			checkScan(t, "<"+name+">"+s+"</"+name, begin, textWord(text+"</"+name))
		}
		// Nothing in it, and what stands behind it.
		checkScan(t, "<"+name+">", begin)
		checkScan(t, "<"+name+"></"+name+">", begin, end)
		checkScan(t, "<"+name+"></"+name+">x</"+name+">", begin, end, textWord("x"), end)
		checkScan(t, "<"+name+">a</"+name+"><"+name+">&lt;</"+large+">", begin, textWord("a"), end, begin, textWord(map[bool]string{true: "<", false: "&lt;"}[refs]), end)
		// One that is Self has no text of its own.
		checkScan(t, "<"+name+"/>a<b>&lt;</b>", selfWord(name), textWord("a"), startWord("b"), textWord("<"), endWord("b"))
		checkScan(t, "<"+name+" x=1 />", selfWord(name, "x", "1"))
		checkScan(t, "<"+name+" x=1/></b></"+name+">", startWord(name, "x", "1/"), textWord("</b>"), end)
		// Names that are not that one.
		checkScan(t, "<"+name+"s><b>", startWord(name+"s"), startWord("b"))
		checkScan(t, "</"+name+"><b>", end, startWord("b"))
		checkScan(t, "<"+name+">\r\n\xff</"+name+">", begin, textWord("\n\ufffd"), end)
	}
	checkScan(t, "<script></style></script>", startWord("script"), textWord("</style>"), endWord("script"))
	checkScan(t, "<title>a</script></title>", startWord("title"), textWord("a</script>"), endWord("title"))
	checkScan(t, "<xmp><b>", startWord("xmp"), startWord("b"))
}

func TestScanOfAllShortTexts(t *testing.T) {
	check := func(s string) {
		if got, want := impl.Scan(s), plainScan(s); !sameWords(got, want) {
			t.Fatalf("Scan(%q) = %s, want %s", s, shownWords(got), shownWords(want))
		}
	}
	eachText([]string{"<", "!", "-", ">", "/", "a", "?"}, 6, check)
	eachText([]string{"<", ">", "/", "a", "=", "'", " "}, 6, func(s string) { check("<a" + s + ">b") })
	eachText([]string{"<!--", "-", ">", "-->", "a", "<", "\r"}, 5, check)
	eachText([]string{"<title>", "<STYLE>", "</style", "</TITLE", ">", "&lt", ";", "<a/"}, 5, check)
	eachText([]string{"<!", "DocType", " ", "A", ">", "&amp;", "</", "\xc3", "\n"}, 4, check)
	eachText([]string{"<p", "<script", "</script", ">", "/>", " b='", "'", "&gt;", "</>", "<!-"}, 4, check)
	for b := range 256 {
		every := string([]byte{byte(b)})
		for _, s := range []string{every, "<" + every, "<" + every + ">", "</" + every, "<a" + every + "b>", "</a" + every + "b>", "<!" + every + ">", "<!--" + every + "-->", "<?" + every + ">", "<!doctype" + every + "a>", "<title>" + every + "</title" + every + ">", "a<!--" + every + ">", "<" + every + "a>", "<script" + every + ">a</script" + every} {
			check(s)
		}
	}
}

// TestScanOfLongPages holds the limit: it counts what is scanned, Lines of Clean of the text.
func TestScanOfLongPages(t *testing.T) {
	for _, c := range []struct {
		s    string
		want []impl.Token
	}{
		{strings.Repeat("a", 20000), wordsOf(textWord(strings.Repeat("a", 20000)))}, {strings.Repeat("a", 20001), nil}, {strings.Repeat("a", 100000), nil},
		{"<p>" + strings.Repeat("a", 19997), wordsOf(startWord("p"), textWord(strings.Repeat("a", 19997)))}, {"<p>" + strings.Repeat("a", 19998), nil}, {"<!--" + strings.Repeat("a", 19997), nil},
		{strings.Repeat("</>", 6666) + "a", wordsOf(textWord("a"))}, {strings.Repeat("</>", 6667), nil},
		// A byte that is no sign has three of them when it is clean.
		{strings.Repeat("a", 19997) + "\xff", wordsOf(textWord(strings.Repeat("a", 19997) + "\ufffd"))}, {strings.Repeat("a", 19998) + "\xff", nil}, {strings.Repeat("a", 19999) + "\xff", nil}, {strings.Repeat("\xff", 6666), wordsOf(textWord(strings.Repeat("\ufffd", 6666)))}, {strings.Repeat("\xff", 6667), nil}, {strings.Repeat("\xff", 20000), nil},
		{strings.Repeat("a", 19998) + "\xe2\x82", nil}, {strings.Repeat("a", 19997) + "\xe2\x82", wordsOf(textWord(strings.Repeat("a", 19997) + "\ufffd"))},
		// Two bytes 13 and 10 are one.
		{strings.Repeat("\r\n", 10000), wordsOf(textWord(strings.Repeat("\n", 10000)))}, {strings.Repeat("a", 19999) + "\r\n", wordsOf(textWord(strings.Repeat("a", 19999) + "\n"))}, {strings.Repeat("\r\n", 20000), wordsOf(textWord(strings.Repeat("\n", 20000)))}, {strings.Repeat("\r\n", 20001), nil}, {strings.Repeat("\r", 20001), nil},
		// References are told behind the limit.
		{strings.Repeat("&lt;", 5000), wordsOf(textWord(strings.Repeat("<", 5000)))}, {strings.Repeat("&lt;", 5000) + "a", nil},
	} {
		checkScan(t, c.s, c.want...)
	}
	// Long pages of many words.
	for _, piece := range []string{"<", "</", "<!", "<!-->", "<p>", "<p a=b>", "</p>", "<script>", "<script></script>", "<title>&lt;</title>", "<a b='>'/>", "a</>", "<!doctype>", "<?>", "&amp", "<!--", "<a b=\"", " a=1 b=2", "\r", "\xf0\x9f"} {
		s := strings.Repeat(piece, 20000/3/len(piece))
		if got, want := impl.Scan(s), plainScan(s); !sameWords(got, want) {
			t.Errorf("Scan of many %q: %d words, want %d", piece, len(got), len(want))
		}
	}
}

func TestSpell(t *testing.T) {
	checkSpell(t, "")
	checkSpell(t, "a", textWord("a"))
	checkSpell(t, "&amp;&lt;&gt;\"'=", textWord("&<>\"'="))
	checkSpell(t, "&amp;lt;&amp;amp;", textWord("&lt;&amp;"))
	checkSpell(t, "<p>", startWord("p"))
	checkSpell(t, "<p/>", selfWord("p"))
	checkSpell(t, "<p a=\"\" b=\"1\">", startWord("p", "a", "", "b", "1"))
	checkSpell(t, "<p a=\"&amp;&quot;<>'\"/>", selfWord("p", "a", "&\"<>'"))
	checkSpell(t, "<p a=\"&amp;quot;&amp;lt;\">", startWord("p", "a", "&quot;&lt;"))
	checkSpell(t, "</p>", endWord("p"))
	checkSpell(t, "<!--a & <b>-->", noteWord("a & <b>"))
	checkSpell(t, "<!---->", noteWord(""))
	checkSpell(t, "<!doctype html>", kindWord("html"))
	checkSpell(t, "<!doctype >", kindWord(""))
	checkSpell(t, "<!doctype a&b>", kindWord("a&b"))
	checkSpell(t, "<!doctype html><p>a&lt;b<br/></p><!--n-->c", kindWord("html"), startWord("p"), textWord("a<b"), selfWord("br"), endWord("p"), noteWord("n"), textWord("c"))
	checkSpell(t, "a\r\xff\x00", textWord("a\r\xff\x00"))
}

func TestSpellRawTexts(t *testing.T) {
	for _, name := range []string{"script", "style"} {
		checkSpell(t, "<"+name+">a<b&c>d</"+name+">&lt;", startWord(name), textWord("a<b&c>d"), endWord(name), textWord("<"))
		checkSpell(t, "<"+name+" a=\"&amp;\">&</"+name+">", startWord(name, "a", "&"), textWord("&"), endWord(name))
		checkSpell(t, "<"+name+">&", startWord(name), textWord("&"))
		checkSpell(t, "<"+name+"/>&amp;", selfWord(name), textWord("&"))
		checkSpell(t, "</"+name+">&amp;", endWord(name), textWord("&"))
		checkSpell(t, "<"+name+"s>&amp;", startWord(name+"s"), textWord("&"))
		// Only what stands at once behind it is as it is.
		checkSpell(t, "<"+name+"><b>&amp;", startWord(name), startWord("b"), textWord("&"))
		checkSpell(t, "<"+name+"></b>&amp;", startWord(name), endWord("b"), textWord("&"))
		checkSpell(t, "<"+name+"><!---->&amp;", startWord(name), noteWord(""), textWord("&"))
	}
	for _, name := range []string{"title", "textarea", "p", "xmp", "SCRIPT"} {
		checkSpell(t, "<"+name+">a&lt;b&amp;c&gt;d</"+name+">", startWord(name), textWord("a<b&c>d"), endWord(name))
	}
	checkSpell(t, "&amp;", textWord("&"))
}

// TestSpellOfWrongWords: what a Kind does not name is not spelt, and a Kind that is none not at all.
func TestSpellOfWrongWords(t *testing.T) {
	full := func(kind int) impl.Token {
		return impl.Token{Kind: kind, Name: "n", Attrs: attrsOf("a", "v"), Text: "t", Self: true}
	}
	for kind, want := range map[int]string{1: "t", 2: "<n a=\"v\"/>", 3: "</n>", 4: "<!--t-->", 5: "<!doctype t>", 0: "", -1: "", 6: "", 1 << 40: "", -1 << 63: "", 1<<32 + 1: ""} {
		checkSpell(t, want, full(kind))
		checkSpell(t, "a"+want+"</b>", textWord("a"), full(kind), endWord("b"))
	}
	checkSpell(t, "", impl.Token{})
	checkSpell(t, "", textWord(""))
	checkSpell(t, "<>", startWord(""))
	checkSpell(t, "</>", endWord(""))
	checkSpell(t, "< =\"\"/>", selfWord("", "", ""))
	checkSpell(t, "<A b=\"1\" b=\"2\">", startWord("A", "b", "1", "b", "2"))
	checkSpell(t, "<!---->-->", noteWord("-->"))
	checkSpell(t, "<!doctype >>", kindWord(">"))
	checkSpell(t, "ab", textWord("a"), textWord("b"))
}

func TestTokensOk(t *testing.T) {
	for _, list := range [][]impl.Token{
		nil, {}, {textWord("a")}, {textWord(" ")}, {textWord("\n\x00<>&\"\ufffd\U0010FFFF\u00c4A")}, {startWord("p")}, {selfWord("p")}, {endWord("p")}, {noteWord("")}, {kindWord("")}, {kindWord("html")},
		{startWord("p", "a", "", "b", "B>\"'&\n")}, {startWord("a1=\"'<&!-\u00c4\ufffd")}, {endWord("a1=\"'<&!-\u00c4\ufffd")}, {startWord("p", "=", "", "=a", "", "\"", "", "'", "", "<", "", "1", "", "\u00c4", "", "-", "", "\v", "")}, {startWord("p", "a", "x", "ab", "x")},
		{noteWord("a"), noteWord("A -- -> > <!-- --!>\n"), noteWord("-"), noteWord("--"), noteWord("a>"), noteWord("a->"), noteWord(" >"), noteWord("- >"), noteWord("-a->")},
		{kindWord("a b\n\"-//\u00c4\" "), kindWord("<&--")}, {textWord("a"), startWord("p"), textWord("b"), endWord("q"), textWord("c"), noteWord(""), textWord("d"), kindWord(""), textWord("e")}, {startWord("p", "a", "")},
		{impl.Token{Kind: impl.TkText, Text: "a", Attrs: []impl.Attr{}}},
	} {
		checkTokensOk(t, true, list...)
	}
	for _, list := range [][]impl.Token{
		{{}}, {{Kind: 6}}, {{Kind: -1}}, {{Kind: 6, Text: "a"}}, {{Kind: 0, Name: "p"}}, {{Kind: 1 << 40, Text: "a"}}, {{Kind: 1<<32 + 1, Text: "a"}}, {textWord("a"), {}}, {{}, textWord("a")},
		{textWord("")}, {startWord("p"), textWord(""), endWord("p")}, {textWord("a"), textWord("b")}, {startWord("p"), textWord("a"), textWord("b")}, {textWord("a"), textWord("")},
		{textWord("\r")}, {textWord("a\r\nb")}, {textWord("\xff")}, {textWord("a\xc3")}, {textWord("\xed\xa0\x80")}, {noteWord("\r")}, {noteWord("\xff")}, {kindWord("a\rb")}, {kindWord("\xff")}, {startWord("p", "a", "\r")}, {startWord("p", "a", "b\r\n")}, {startWord("p", "a", "\xff")}, {startWord("p", "a", "", "b", "\xe2\x82")},
		{startWord("")}, {endWord("")}, {selfWord("")}, {startWord("p", "", "")}, {startWord("p", "a", "", "", "b")},
		{startWord("p", "a", "1", "a", "2")}, {startWord("p", "a", "", "a", "")}, {startWord("p", "a", "", "b", "", "a", "1")}, {selfWord("p", "=", "", "=", "")},
		{noteWord(">")}, {noteWord("->")}, {noteWord(">a")}, {noteWord("->a")}, {noteWord("-->")}, {noteWord("a-->")}, {noteWord("a-->b")}, {noteWord("--->")},
		{kindWord("A")}, {kindWord("htmL")}, {kindWord(" a")}, {kindWord("\ta")}, {kindWord("\na")}, {kindWord("\fa")}, {kindWord(" ")}, {kindWord(">")}, {kindWord("a>b")}, {kindWord("a>")},
		{textWord("a"), startWord("P")}, {noteWord("a"), noteWord("-->")},
	} {
		checkTokensOk(t, false, list...)
	}
}

// TestTokensOkOfFieldsThatAreNotNamed: what a Kind does not have is zero or empty.
func TestTokensOkOfFieldsThatAreNotNamed(t *testing.T) {
	right := wordsOf(textWord("a"), startWord("p"), endWord("p"), noteWord("a"), kindWord("a"))
	for _, word := range right {
		checkTokensOk(t, true, word)
		named, texted, attred, selfed := word, word, word, word
		named.Name, texted.Text, attred.Attrs, selfed.Self = "p", "a", attrsOf("a", "b"), true
		tag := word.Kind == impl.TkStart || word.Kind == impl.TkEnd
		checkTokensOk(t, tag, named)
		checkTokensOk(t, !tag, texted)
		checkTokensOk(t, word.Kind == impl.TkStart, attred)
		checkTokensOk(t, word.Kind == impl.TkStart, selfed)
		attred.Attrs = attrsOf("", "")
		checkTokensOk(t, false, attred)
	}
}

// TestTokensOkOfNamesWithEachByte: which bytes names of tags and of attributes may have, at the beginning and behind it.
func TestTokensOkOfNamesWithEachByte(t *testing.T) {
	for b := range 256 {
		every := string([]byte{byte(b)})
		ok := b < 128 && strings.IndexByte(tokenBlanks+"/>", byte(b)) < 0 && !(b >= 'A' && b <= 'Z')
		small := b >= 'a' && b <= 'z'
		for _, word := range wordsOf(startWord(every), selfWord(every+"b"), endWord(every)) {
			checkTokensOk(t, small, word)
		}
		for _, name := range []string{"a" + every, "a" + every + "b"} {
			checkTokensOk(t, ok, startWord(name))
			checkTokensOk(t, ok, endWord(name))
			checkTokensOk(t, ok && b != '=', startWord("p", name, "v"))
			checkTokensOk(t, ok && b != '=', selfWord("p", "k", "", name, "v"))
		}
		checkTokensOk(t, ok, startWord("p", every, "v"))
		checkTokensOk(t, ok, startWord("p", every+"a", "v"))
		checkTokensOk(t, b < 128 && b != 13, textWord(every))
		checkTokensOk(t, b < 128 && b != 13, startWord("p", "a", every))
		checkTokensOk(t, b < 128 && b != 13 && b != '>', noteWord(every))
	}
	for _, n := range []int{128, 0xC4, 0x212A, 0xFFFD, 0x10FFFF} {
		sign := string(rune(n))
		checkTokensOk(t, false, startWord(sign))
		checkTokensOk(t, true, startWord("a"+sign), endWord("b"+sign), startWord("p", sign, sign), textWord(sign), noteWord(sign), kindWord(sign))
	}
}

func TestTokensOkBehindRawTags(t *testing.T) {
	for _, name := range []string{"script", "style", "title", "textarea"} {
		asItIs := name == "script" || name == "style"
		begin, end := startWord(name, "a", "b"), endWord(name)
		for _, list := range [][]impl.Token{
			{begin}, {begin, end}, {begin, textWord("x")}, {begin, textWord("x"), end}, {begin, end, textWord("x"), begin}, {begin, textWord("x"), end, begin, end}, {begin, end, end}, {end}, {end, begin},
			{begin, textWord("</" + name)}, {begin, textWord("</" + name + "x>"), end}, {begin, textWord("<" + name + ">"), end}, {begin, textWord("</p>")}, {begin, textWord("&lt;</ " + name + ">"), end}, {startWord("p"), begin, end, endWord("p")},
			{selfWord(name)}, {selfWord(name), startWord("p")}, {selfWord(name), textWord("x"), startWord("p")}, {selfWord(name), endWord("p")}, {selfWord(name), noteWord("")}, {selfWord(name), textWord("</" + name + ">")}, {startWord(name + "s"), startWord("p")},
		} {
			checkTokensOk(t, true, list...)
		}
		for _, list := range [][]impl.Token{
			{begin, begin}, {begin, startWord("p")}, {begin, selfWord(name)}, {begin, endWord("p")}, {begin, endWord(name + "s")}, {begin, noteWord("")}, {begin, kindWord("")}, {begin, {}}, {begin, textWord("")},
			{begin, textWord("x"), textWord("y")}, {begin, textWord("x"), begin}, {begin, textWord("x"), startWord("p")}, {begin, textWord("x"), endWord("p")}, {begin, textWord("x"), noteWord("")}, {begin, textWord("x"), kindWord("")}, {begin, textWord("x"), selfWord("p"), end}, {begin, textWord("x"), {}},
			{begin, endWord("p"), end}, {end, begin, startWord("p")}, {begin, end, begin, endWord("p")},
		} {
			checkTokensOk(t, false, list...)
		}
		for _, text := range []string{"</" + name + ">", "x</" + name + " y", "</" + strings.ToUpper(name) + "/", "</" + name + "\n", "</" + name + "</" + name + ">"} {
			checkTokensOk(t, !asItIs, begin, textWord(text))
			checkTokensOk(t, !asItIs, begin, textWord(text), end)
		}
		for _, other := range []string{"script", "style", "title", "textarea"} {
			checkTokensOk(t, other == name, begin, endWord(other))
			checkTokensOk(t, true, begin, textWord("</"+other), end)
			checkTokensOk(t, other != name || !asItIs, begin, textWord("</"+other+">"), end)
		}
	}
}

// wordsToTry are words, right and wrong, of which lists are made.
var wordsToTry = []impl.Token{
	textWord("a"), textWord("&lt;<b>&"), textWord(""), textWord("\r"), textWord("</script>"), textWord("</TITLE >x"), textWord("</style"),
	startWord("p"), selfWord("p", "a", "\"&\n", "=", ">"), startWord("P"), startWord("p", "a", "1", "a", "2"), startWord("p=", "a=b", "c"), startWord("p'", "=a\"", "'"),
	startWord("script"), selfWord("script"), startWord("style", "a", ""), startWord("title"), startWord("textarea"), selfWord("title"),
	endWord("p"), endWord("script"), endWord("style"), endWord("title"), endWord("TITLE"), endWord("textarea"), endWord(""),
	noteWord(""), noteWord("-"), noteWord("->"), noteWord("a-->b"), noteWord("?x"), noteWord("\xff"), kindWord("html"), kindWord(" a"), kindWord("a "), kindWord("A"), {}, {Kind: 6, Text: "a"}, {Kind: 3, Name: "p", Text: "a"}, {Kind: 1, Name: "p", Text: "a"},
}

// TestWhatIsSpeltIsScannedAsItWas holds promise 5 both ways: what is TokensOk comes back, what is not does not.
func TestWhatIsSpeltIsScannedAsItWas(t *testing.T) {
	right := 0
	check := func(list []impl.Token) {
		ok := impl.TokensOk(list)
		if ok {
			right++
		}
		if got := impl.Scan(impl.Spell(list)); sameWords(got, list) != ok {
			t.Fatalf("TokensOk(%s) = %v, spelt %q, scanned %s", shownWords(list), ok, impl.Spell(list), shownWords(got))
		}
	}
	check(nil)
	for _, a := range wordsToTry {
		check(wordsOf(a))
		for _, b := range wordsToTry {
			check(wordsOf(a, b))
			for _, c := range wordsToTry {
				check(wordsOf(a, b, c))
			}
		}
	}
	for _, a := range wordsToTry[13:19] {
		for _, b := range wordsToTry[:7] {
			for _, c := range wordsToTry[13:26] {
				for _, d := range wordsToTry {
					check(wordsOf(a, b, c, d))
				}
			}
		}
	}
	if right < 5000 {
		t.Errorf("only %d lists were right", right)
	}
}

// TestWhatIsScannedIsRight: what a page tells is TokensOk, but for bytes 13 that references tell, and comes back.
func TestWhatIsScannedIsRight(t *testing.T) {
	check := func(s string) {
		list := impl.Scan(s)
		if !impl.TokensOk(list) {
			t.Fatalf("Scan(%q) = %s, which is not TokensOk", s, shownWords(list))
		}
		if again := impl.Scan(impl.Spell(list)); !sameWords(again, list) {
			t.Fatalf("Scan(%q) = %s, spelt %q, scanned %s", s, shownWords(list), impl.Spell(list), shownWords(again))
		}
	}
	eachText([]string{"<", "!", "-", ">", "/", "a", "?"}, 6, check)
	eachText([]string{"<a", "<!--", "</", "B", "=", "'", "\"", " ", "/", ">", "&amp;"}, 4, check)
	eachText([]string{"<script>", "<TITLE a>", "</title", "</Script", ">", "&lt", ";", "</p>", "\xff", "\r"}, 4, check)
	eachText([]string{"<!", "DocType", " ", "A", ">", "&amp;", "</", "\n"}, 5, check)
	for _, s := range []string{"&#13;", "<p a='&#xd;'>", "<title>a&#13"} {
		if impl.TokensOk(impl.Scan(s)) {
			t.Errorf("Scan(%q) is TokensOk", s)
		}
	}
}

// TestAPageAndItsCleanTextAreOne holds the other half of promise 5.
func TestAPageAndItsCleanTextAreOne(t *testing.T) {
	check := func(s string) {
		for _, same := range []string{impl.Clean(s), impl.Lines(s), impl.Lines(impl.Clean(s)), impl.Clean(impl.Lines(s))} {
			if got, want := impl.Scan(same), impl.Scan(s); !sameWords(got, want) {
				t.Fatalf("Scan(%s) and Scan(%s) are not one", shortText(s), shortText(same))
			}
		}
	}
	eachText([]string{"<", "a", ">", "\xff", "\xe2", "\x82", "\r", "\n"}, 5, check)
	eachText([]string{"<a ", "\xf0\x9f", "=", "'", "\r\n", "&#13;", "\xc3", "<script>", "</script>", "<!--", "-->", "\x80"}, 4, check)
	for _, many := range []int{6665, 6666, 6667, 6668, 19997, 19998, 19999, 20000, 20001, 20002} {
		check(strings.Repeat("\xff", many))
		check(strings.Repeat("a", many) + "\xff")
		check(strings.Repeat("a", many-3) + "\xe2\x82")
		check(strings.Repeat("a", many-2) + "\r\n")
		check(strings.Repeat("\r\n", many))
	}
}

func TestScanIsNewMemory(t *testing.T) {
	s := "<p a=1 b=2>x</p><q c=3><!--n-->"
	want := wordsOf(startWord("p", "a", "1", "b", "2"), textWord("x"), endWord("p"), startWord("q", "c", "3"), noteWord("n"))
	list := impl.Scan(s)
	for k := range list {
		// No word may feel what is written into another one's attributes, or into the room behind them.
		if !sameWords(list[k:], want[k:]) {
			t.Errorf("from word %d on: %s", k, shownWords(list[k:]))
		}
		room := list[k].Attrs[:cap(list[k].Attrs)]
		for i := range room {
			room[i] = impl.Attr{Name: "z", Value: "z"}
		}
	}
	clear(list[:cap(list)])
	checkScan(t, s, want...)
}

func TestWordsAreNotWrittenInto(t *testing.T) {
	made := func() []impl.Token {
		attrs := append(attrsOf("b", "2", "a", "1&\""), attrsOf("spare", "room")...)
		list := wordsOf(impl.Token{Kind: impl.TkStart, Name: "p", Attrs: attrs[:2]}, textWord("x<"), startWord("script"), textWord("y<"), endWord("script"), impl.Token{Kind: 9, Name: "spare"})
		return list[:5]
	}
	list := made()
	if !impl.TokensOk(list) || impl.Spell(list) == "" {
		t.Errorf("%s", shownWords(list))
	}
	if want := made(); !sameWords(list[:6], want[:6]) || !slices.Equal(list[0].Attrs[:3], want[0].Attrs[:3]) {
		t.Errorf("the list became %s", shownWords(list[:6]))
	}
}
