package tests

import (
	"math"
	"regexp"
	"slices"
	"strings"
	"testing"

	"loop.example/g00325/impl"
)

const tokenBlanks = "\t\n\f\r "

// plainTagEnd is the document's rule for a tag's end, byte by byte: what was read decides what the next byte is.
func plainTagEnd(s string, at int) int {
	if at < 0 || at >= len(s) || s[at] != '<' {
		return -1
	}
	begin := at + 1
	if strings.HasPrefix(s[begin:], "/") {
		begin++
	}
	state, quote := "tag", byte(0)
	for k := begin; k < len(s); k++ {
		b := s[k]
		blank := strings.IndexByte(tokenBlanks, b) >= 0
		if state == "quoted" {
			if b == quote {
				state = "ahead"
			}
			continue
		}
		if b == '>' {
			return k
		}
		switch state {
		case "tag":
			if blank || b == '/' {
				state = "ahead"
			}
		case "ahead":
			if !blank && b != '/' {
				state = "name"
			}
		case "name", "behind":
			switch {
			case b == '=':
				state = "value"
			case b == '/':
				state = "ahead"
			case blank:
				state = "behind"
			default:
				state = "name"
			}
		case "value":
			switch {
			case b == '"' || b == '\'':
				state, quote = "quoted", b
			case !blank:
				state = "bare"
			}
		case "bare":
			if blank {
				state = "ahead"
			}
		}
	}
	return -1
}

// tokenAttr is an attribute behind blanks and `/`: its name, and its value in the one or the other quotes, or without.
var tokenAttr = regexp.MustCompile(`^[\t\n\f\r /]*([^\t\n\f\r /][^\t\n\f\r /=]*)` +
	`(?:[\t\n\f\r ]*=[\t\n\f\r ]*(?:"([^"]*)(?:"|$)|'([^']*)(?:'|$)|([^\t\n\f\r ]*)))?`)

// plainAttrs is the document's rule for attributes, by a pattern.
func plainAttrs(s string) ([]impl.Attr, bool) {
	var list []impl.Attr
	seen := map[string]bool{}
	valueEnds := false
	for rest := s; ; {
		m := tokenAttr.FindStringSubmatchIndex(rest)
		if m == nil {
			break
		}
		name, value := impl.Small(rest[m[2]:m[3]]), ""
		valueEnds = false
		for _, k := range []int{4, 6, 8} {
			if m[k] >= 0 {
				value = rest[m[k]:m[k+1]]
				valueEnds = m[k+1] == len(rest)
			}
		}
		if !seen[name] {
			seen[name] = true
			list = append(list, impl.Attr{Name: name, Value: impl.Refs(value, true)})
		}
		rest = rest[m[1]:]
	}
	return list, strings.HasSuffix(s, "/") && !valueEnds
}

// plainRawEnd is the document's rule for the end of such a text, place by place.
func plainRawEnd(s string, at int, name string) int {
	for k := range len(s) {
		if k < at || !strings.HasPrefix(s[k:], "</") || len(s) < k+2+len(name)+1 {
			continue
		}
		alike := true
		for i := range len(name) {
			a, b := name[i], s[k+2+i]
			letter := a|32 >= 'a' && a|32 <= 'z'
			alike = alike && (a == b || letter && a|32 == b|32)
		}
		if alike && strings.IndexByte(tokenBlanks+"/>", s[k+2+len(name)]) >= 0 {
			return k
		}
	}
	return len(s)
}

// eachText calls visit with every text of at most long pieces.
func eachText(pieces []string, long int, visit func(string)) {
	var more func(string, int)
	more = func(s string, left int) {
		visit(s)
		for _, piece := range pieces {
			if left > 0 {
				more(s+piece, left-1)
			}
		}
	}
	more("", long)
}

func attrsOf(pairs ...string) []impl.Attr {
	var list []impl.Attr
	for k := 0; k < len(pairs); k += 2 {
		list = append(list, impl.Attr{Name: pairs[k], Value: pairs[k+1]})
	}
	return list
}

func checkTagEnd(t *testing.T, s string, at int, want int) {
	t.Helper()
	if got := impl.TagEnd(s, at); got != want {
		t.Errorf("TagEnd(%q, %d) = %d, want %d", s, at, got, want)
	}
}

func checkAttrs(t *testing.T, s string, want []impl.Attr, wantSelf bool) {
	t.Helper()
	if got, self := impl.Attrs(s); !slices.Equal(got, want) || self != wantSelf {
		t.Errorf("Attrs(%q) = %q, %v, want %q, %v", s, got, self, want, wantSelf)
	}
}

func checkRawEnd(t *testing.T, s string, at int, name string, want int) {
	t.Helper()
	if got := impl.RawEnd(s, at, name); got != want {
		t.Errorf("RawEnd(%q, %d, %q) = %d, want %d", s, at, name, got, want)
	}
}

func TestTokenConstants(t *testing.T) {
	kinds := []int{impl.TkText, impl.TkStart, impl.TkEnd, impl.TkNote, impl.TkKind}
	if !slices.Equal(kinds, []int{1, 2, 3, 4, 5}) || impl.MaxPage != 20000 {
		t.Error("kinds", kinds, impl.MaxPage)
	}
}

// tagsThatEnd are tags whose first byte is the text's and which end with the text's last byte.
var tagsThatEnd = []string{
	"<a>", "</a>", "<a/>", "<a />", "</a >", "</a/>", "<a b>", "<a b/>", "<a b c>", "</a b>", "<A\tB\n=\f'c'\r>",
	"<a b=c>", "<a b=c/>", "<a b=>", "<a b= >", "<a b =\t\n>", "<a b=\"\">", "<a b=''>", "<a b='' c=\"\">",
	"<a b=\"c\">", "<a b='c'>", "<a b='c'/>", "<a b='c'd=e>", "<a b='c'd='>'>", "<a b='c'/d='>'>", "<a b='&gt;&#62;'>",
	// A byte 62 within a value in quotes.
	"<a b='>'>", "<a b=\">\">", "<a b='>>>'>", "<a b='>' c=\">\">", "<a b='\">'>", "<a b=\"'>\">", "<a b='</a>'>", "</a b='>'>",
	"<a b ='>'>", "<a b= '>'>", "<a b \t\n\f\r = \t\n\f\r \">\">", "<a/b='>'>", "<a//b='>'>", "<a b/c='>'>", "<a b c='>'>", "<a b=c d='>'>", "<a b=c/ d='>'>",
	// A `=` that is a name's first byte, and one behind that.
	"<a =>", "<a ='>", "<a = >", "<a =b='>'>", "<a =='>'>", "<a = ='>'>", "<a b==>", "<a b=='>", "<a b='c'='>", "<a b='c'=d='>'>", "<a b/='>", "<a b/=='>'>",
	// A quote that is no value's beginning.
	"<a '>", "<a \">", "<a b'>", "<a 'b>", "<a b'=c>", "<a b'='>'>", "<a b=c'>", "<a b=c\">", "<a b=c'd'>", "<a b='c''>", "<a b=/'>", "<a b=/\">", "<a'>", "<a\">", "<a b=='>", "</'>",
	// A `=` in a tag's name is a part of it.
	"<a='>", "<a=\">", "</a='>", "<a=b='>", "<a='b' c='>'>", "<=>", "<='>", "</='>",
	// What is a tag for nobody else still ends.
	"<>", "</>", "< >", "< b='>'>", "</ b='>'>", "<//b='>'>", "<!b='>", "<1>", "<<>", "<\xff>", "<a \xff=\xfe>", "<a \xff='>\xfe'>", "<\x00 \x00='>'>", "<a \xc3='>'>", "<a <b='>'>",
}

func TestTagEnd(t *testing.T) {
	for _, s := range tagsThatEnd {
		last := len(s) - 1
		for _, behind := range []string{"", ">", "b>", "'>", "\">", "='>'>", " ", "<a>", "\xff"} {
			checkTagEnd(t, s+behind, 0, last)
			checkTagEnd(t, "x"+s+behind, 1, 1+last)
			checkTagEnd(t, "<b c='"+s+behind, 6, 6+last)
		}
		checkTagEnd(t, s[:last], 0, -1)
		if want := plainTagEnd(s, 0); want != last {
			t.Errorf("the rule has %d for %q", want, s)
		}
	}
	for _, c := range []struct {
		s    string
		want int
	}{
		{"<a x='>' y=\"1\">b", 14}, {"<a b=c>d>", 6}, {"<a b=>c>", 5}, {"<a b= >c'>", 6}, {"<a b>c='>'>", 4}, {"<a>b='>'>", 2},
		{"<a b=c='>'>", 8}, {"<a b=\"c>'d\">e", 11}, {"<a b='c>\"d'>e", 11}, {"<a b='c\\'>'>", 9}, {"<p><q>", 2},
	} {
		checkTagEnd(t, c.s, 0, c.want)
	}
}

func TestTagEndOfTagsWithoutOne(t *testing.T) {
	for _, s := range []string{
		"<", "</", "<a", "</a", "<a ", "<a/", "<a b", "<a b=", "<a b= ", "<a b=c", "<a b=c/", "<a b='c'", "<a b='c' ", "<a =", "<a b==", "<<<",
		// A value in quotes that never ends.
		"<a b='", "<a b='>", "<a b=\">", "<a b='>\">", "<a b=\">'>", "<a b='c' d='>", "<a b =\n'>>>", "</a b='>", "<a b=''''c='>", "<a\xffb c=\">\xff", "<a b=\"" + strings.Repeat(">", 5000),
	} {
		checkTagEnd(t, s, 0, -1)
	}
}

func TestTagEndAtNoTag(t *testing.T) {
	s := "a<b c='<'>d</e>>"
	for at := -3; at < len(s)+3; at++ {
		want := -1
		switch at {
		case 1:
			want = 9
		case 7:
			want = 9
		case 11:
			want = 14
		}
		checkTagEnd(t, s, at, want)
	}
	for _, at := range []int{math.MinInt, math.MinInt + 1, -1 << 32, -1, 3, 4, 1 << 32, math.MaxInt - 1, math.MaxInt} {
		checkTagEnd(t, "<a>", at, -1)
		checkTagEnd(t, "", at, -1)
	}
	checkTagEnd(t, "", 0, -1)
	for b := range 256 {
		if b != 60 {
			checkTagEnd(t, string([]byte{byte(b)})+"a>", 0, -1)
		}
	}
}

func TestTagEndOfAllShortTags(t *testing.T) {
	pieces := []string{"a", "=", "'", "\"", " ", "/", ">"}
	for _, ahead := range []string{"<", "<a ", "</a b=", "<a b="} {
		eachText(pieces, 6, func(s string) {
			s = ahead + s
			if got, want := impl.TagEnd(s, 0), plainTagEnd(s, 0); got != want {
				t.Fatalf("TagEnd(%q, 0) = %d, want %d", s, got, want)
			}
		})
	}
	for b := range 256 {
		every := string([]byte{byte(b)})
		for _, s := range []string{"<" + every + "='>'>", "<a" + every + "b='>'>", "<a b" + every + "='>'>", "<a b=" + every + "'>'>", "<a b='>" + every + "'>", "<a b='>'" + every + ">", "<a b=c" + every + "d='>'>"} {
			checkTagEnd(t, s, 0, plainTagEnd(s, 0))
		}
	}
}

func TestAttrs(t *testing.T) {
	for _, c := range []struct {
		s    string
		want []impl.Attr
		self bool
	}{
		{"", nil, false}, {" ", nil, false}, {tokenBlanks, nil, false}, {"/", nil, true}, {" /", nil, true}, {"/ ", nil, false}, {"//", nil, true}, {" / / ", nil, false},
		{" a", attrsOf("a", ""), false}, {"a", attrsOf("a", ""), false}, {" a ", attrsOf("a", ""), false}, {" a/", attrsOf("a", ""), true}, {" a /", attrsOf("a", ""), true}, {" a b", attrsOf("a", "", "b", ""), false},
		{"a/b", attrsOf("a", "", "b", ""), false}, {"/a//b/", attrsOf("a", "", "b", ""), true}, {"a\tb\nc\fd\re f", attrsOf("a", "", "b", "", "c", "", "d", "", "e", "", "f", ""), false},
		{" a=b", attrsOf("a", "b"), false}, {" a='b'", attrsOf("a", "b"), false}, {" a=\"b\"", attrsOf("a", "b"), false}, {" a=b c='d' e=\"f\" g", attrsOf("a", "b", "c", "d", "e", "f", "g", ""), false},
		{"a='b'c='d'\"e\"", attrsOf("a", "b", "c", "d", "\"e\"", ""), false}, {"a=\"b\"c", attrsOf("a", "b", "c", ""), false}, {"a='b'/c", attrsOf("a", "b", "c", ""), false},
		{" X='a&lt;' y = z/ x=2 =k/", attrsOf("x", "a<", "y", "z/", "=k", ""), true},
		// Blanks ahead of `=` and behind it, and a `/` there.
		{"a =b", attrsOf("a", "b"), false}, {"a= b", attrsOf("a", "b"), false}, {"a \t\n\f\r = \t\n\f\r b", attrsOf("a", "b"), false}, {"a = 'b'", attrsOf("a", "b"), false}, {"a\n=\n\"b\"", attrsOf("a", "b"), false},
		{"a/=b", attrsOf("a", "", "=b", ""), false}, {"a /=b", attrsOf("a", "", "=b", ""), false}, {"a=/b", attrsOf("a", "/b"), false}, {"a= /b c", attrsOf("a", "/b", "c", ""), false},
		{"a\vb\x00c\u00a0d", attrsOf("a\vb\x00c\u00a0d", ""), false}, {"a=b\vc\x00d\u00a0e f", attrsOf("a", "b\vc\x00d\u00a0e", "f", ""), false},
		// A `=` that is a name's first byte.
		{"=", attrsOf("=", ""), false}, {" =a", attrsOf("=a", ""), false}, {"==", attrsOf("=", ""), false}, {"==a", attrsOf("=", "a"), false}, {"=a=b", attrsOf("=a", "b"), false}, {"= =a", attrsOf("=", "a"), false}, {"='a'", attrsOf("='a'", ""), false},
		{"='a b'", attrsOf("='a", "", "b'", ""), false}, {"===", attrsOf("=", "="), false}, {"a='b'=c", attrsOf("a", "b", "=c", ""), false}, {"a='b'='c'", attrsOf("a", "b", "='c'", ""), false}, {"=\"a\"=\"b\"", attrsOf("=\"a\"", "b"), false},
		// Quotes that begin no value, and the others of the two in a value.
		{"'a'", attrsOf("'a'", ""), false}, {"'a b'", attrsOf("'a", "", "b'", ""), false}, {"a'b=c", attrsOf("a'b", "c"), false}, {"a=b'c d'", attrsOf("a", "b'c", "d'", ""), false}, {"a=b\"c", attrsOf("a", "b\"c"), false}, {"a==\"b c\"", attrsOf("a", "=\"b", "c\"", ""), false},
		{"a='\"' b=\"'\"", attrsOf("a", "\"", "b", "'"), false}, {"a='b\"c d\"'", attrsOf("a", "b\"c d\""), false}, {"a=\"it's\"", attrsOf("a", "it's"), false}, {"a='b''c'", attrsOf("a", "b", "'c'", ""), false}, {"a=''b", attrsOf("a", "", "b", ""), false},
		// Values in quotes keep what ends others.
		{"a=' b = c / d '", attrsOf("a", " b = c / d "), false}, {"a='>' b=c>d e>f=g", attrsOf("a", ">", "b", "c>d", "e>f", "g"), false}, {"a>", attrsOf("a>", ""), false}, {">", attrsOf(">", ""), false}, {"a=>", attrsOf("a", ">"), false}, {"a='\r\n\t'", attrsOf("a", "\r\n\t"), false},
		// Empty values.
		{"a=", attrsOf("a", ""), false}, {"a= ", attrsOf("a", ""), false}, {"a = \n", attrsOf("a", ""), false}, {"a=''", attrsOf("a", ""), false}, {"a=\"\"", attrsOf("a", ""), false}, {"a='' b", attrsOf("a", "", "b", ""), false}, {"a= b=c", attrsOf("a", "b=c"), false},
		// Values in quotes that never end go up to the end.
		{"a='", attrsOf("a", ""), false}, {"a=\"", attrsOf("a", ""), false}, {"a='b c=d ", attrsOf("a", "b c=d "), false}, {"a=\"b' c/", attrsOf("a", "b' c/"), false}, {"a='/", attrsOf("a", "/"), false}, {"a='b' c='\"/", attrsOf("a", "b", "c", "\"/"), false}, {"a='&lt", attrsOf("a", "<"), false},
	} {
		checkAttrs(t, c.s, c.want, c.self)
		if list, self := plainAttrs(c.s); !slices.Equal(list, c.want) || self != c.self {
			t.Errorf("the rule has %q, %v for %q", list, self, c.s)
		}
	}
}

func TestAttrsWhetherItIsSelf(t *testing.T) {
	for _, s := range []string{"/", " /", "a/", "a /", "a='b'/", "a=\"b\"/", "a='b' /", "a=b /", "a=b\n/", "a= b /", "a='/'/", "a=/ /", "=/", "a==b /", "a='b'c/", "/a='b'//", "a=''/", "a/b/", "\xff/"} {
		if _, self := impl.Attrs(s); !self {
			t.Errorf("Attrs(%q) is not self", s)
		}
		for _, behind := range []string{" ", "\t", "\n", "\f", "\r", "x", "=", "'", ">", "\xff"} {
			if _, self := impl.Attrs(s + behind); self {
				t.Errorf("Attrs(%q) is self", s+behind)
			}
		}
	}
	for _, s := range []string{"", "a", "a=b/", "a=/", "a= /", "a =/", "a = \n/", "a=//", "a=b//", "a='/", "a=\"b/", "a='b\" /", "==/", "a=='b'/", "a=b'c'/", "a=&lt;/", "a='b", "a=b", "a='b'", "\\"} {
		if _, self := impl.Attrs(s); self {
			t.Errorf("Attrs(%q) is self", s)
		}
	}
}

func TestAttrsWithReferences(t *testing.T) {
	for _, c := range []struct{ value, want string }{
		{"&lt;", "<"}, {"&lt", "<"}, {"&lt;&gt;&amp;", "<>&"}, {"&#65;&#x42", "AB"}, {"?a&lt=1&amp", "?a&lt=1&"}, {"&copy=2", "&copy=2"}, {"&notx", "&notx"}, {"&notin;", "∉"}, {"&#0;", "\uFFFD"}, {"&#128;", "€"}, {"&amp;lt;", "&lt;"}, {"&", "&"}, {"&;", "&;"}, {"&LT;", "&LT;"}, {"\xff&lt;\xfe", "\xff<\xfe"},
		{"&#32;x", " x"}, {"&quot;&apos;", "\"'"}, {"&#62;&#61;", ">="}, {"&#47;", "/"},
	} {
		checkAttrs(t, " a="+c.value, attrsOf("a", c.want), false)
		checkAttrs(t, " a="+c.value+" b", attrsOf("a", c.want, "b", ""), false)
		checkAttrs(t, " a='"+c.value+"'", attrsOf("a", c.want), false)
		checkAttrs(t, " a=\""+c.value+"\"=", attrsOf("a", c.want, "=", ""), false)
		checkAttrs(t, " a='"+c.value+"'x/", attrsOf("a", c.want, "x", ""), true)
	}
	// Names have none.
	checkAttrs(t, "&lt;=1 &LT; a&#65;", attrsOf("&lt;", "1", "a&#65;", ""), false)
	// A value's end is told ahead of its references, so that what they tell ends nothing.
	checkAttrs(t, "a='&#39;b' c=d&#32;e", attrsOf("a", "'b", "c", "d e"), false)
	// `/` behind a reference without its byte 59 is a part of the value still.
	checkAttrs(t, "a=&lt/", attrsOf("a", "</"), false)
}

func TestAttrsOfOneName(t *testing.T) {
	for _, c := range []struct {
		s    string
		want []impl.Attr
	}{
		{"a a", attrsOf("a", "")}, {"a=1 a=2", attrsOf("a", "1")}, {"a a=2", attrsOf("a", "")}, {"a='' a=2", attrsOf("a", "")}, {"a=1 a", attrsOf("a", "1")}, {"a=1 a=1", attrsOf("a", "1")},
		{"A=1 a=2", attrsOf("a", "1")}, {"a=1 A=2", attrsOf("a", "1")}, {"aB=1 Ab=2 AB=3 ab=4", attrsOf("ab", "1")}, {"X=1 b=2 x=3 B=4 c=5", attrsOf("x", "1", "b", "2", "c", "5")}, {"a=1 b=2 a=3 b=4 a=5 c=6", attrsOf("a", "1", "b", "2", "c", "6")},
		{"= =", attrsOf("=", "")}, {"=/=", attrsOf("=", "")}, {"=a/=A", attrsOf("=a", "")}, {"=a =A", attrsOf("=a", "A")}, {"a =a", attrsOf("a", "a")}, {"a/a", attrsOf("a", "")}, {"ä Ä", attrsOf("ä", "", "Ä", "")}, {"k \u212a s \u017f", attrsOf("k", "", "\u212a", "", "s", "", "\u017f", "")},
		{"\xff \xff \xfe", attrsOf("\xff", "", "\xfe", "")}, {"\xff=1 \uFFFD=2", attrsOf("\xff", "1", "\uFFFD", "2")}, {"@ ` [ {", attrsOf("@", "", "`", "", "[", "", "{", "")}, {"A\xc3=1 a\xc3=2", attrsOf("a\xc3", "1")},
	} {
		checkAttrs(t, c.s, c.want, false)
	}
}

// TestAttrsNamesStandOnce holds promise 4, for all short texts and for long ones.
func TestAttrsNamesStandOnce(t *testing.T) {
	check := func(s string) {
		list, _ := impl.Attrs(s)
		seen := map[string]int{}
		for _, a := range list {
			seen[a.Name]++
			if seen[a.Name] > 1 || a.Name == "" || impl.Small(a.Name) != a.Name {
				t.Fatalf("Attrs(%q) has the name %q", s, a.Name)
			}
		}
	}
	eachText([]string{"a", "A", "b", "=", "'", " ", "/"}, 6, check)
	check(strings.Repeat("a A=1 b B='2' a/b/", 500))
	long := ""
	for k := range 2000 {
		long += " " + string(rune('a'+k%26)) + string(rune('A'+k/26%26)) + string(rune('a'+k%7)) + "=1"
	}
	check(long)
	check(strings.ToUpper(long) + long)
}

func TestAttrsOfAllShortTexts(t *testing.T) {
	check := func(s string) {
		want, wantSelf := plainAttrs(s)
		if got, self := impl.Attrs(s); !slices.Equal(got, want) || self != wantSelf {
			t.Fatalf("Attrs(%q) = %q, %v, want %q, %v", s, got, self, want, wantSelf)
		}
	}
	pieces := []string{"a", "A", "&lt", "=", "'", "\"", " ", "/"}
	eachText(pieces, 5, check)
	eachText(pieces, 4, func(s string) { check(" a=" + s) })
	eachText(pieces, 4, func(s string) { check("b='" + s) })
	for b := range 256 {
		every := string([]byte{byte(b)})
		for _, s := range []string{every, every + "=" + every, "a" + every + "b=c", "a=b" + every + "c=d", "a='" + every + "' b", "a=" + every + "b'c'", "a " + every + "= b", "a='b'" + every + "c", "a/" + every} {
			check(s)
		}
	}
}

func TestAttrsAreNewMemory(t *testing.T) {
	s := " a=1 b='2' c"
	list, _ := impl.Attrs(s)
	room := list[:cap(list)]
	for k := range room {
		room[k] = impl.Attr{Name: "z", Value: "z"}
	}
	checkAttrs(t, s, attrsOf("a", "1", "b", "2", "c", ""), false)
	if s != " a=1 b='2' c" {
		t.Errorf("the argument is %q", s)
	}
}

// TestWhatATagSaysIsHeard makes tags of names and values, and hears them again between TagEnd and Attrs.
func TestWhatATagSaysIsHeard(t *testing.T) {
	escape := strings.NewReplacer("&", "&amp;", "\"", "&quot;", "'", "&apos;")
	names := []string{"a", "=", "=b", "c'", "\"d", "\xff", "e<f", "ä", "&amp;", "g-h", "='"}
	values := []string{"", ">", "a b", "/", "x/", "'", "\"", "\"'>'\"", "&", "&lt;", "=", "\n\t", "<b c='d'>", "\xff", "&notin=", " "}
	for k, name := range names {
		for _, value := range values {
			for _, quote := range []string{"\"", "'"} {
				want := attrsOf(name, value)
				attrs := " " + name + "=" + quote + escape.Replace(value) + quote
				if other := names[(k+1)%len(names)]; other != name {
					want = append(want, attrsOf(other, value)...)
					attrs += " " + other + " = " + quote + escape.Replace(value) + quote
				}
				for _, end := range []string{"", "/", " /", " "} {
					tag := "<t" + attrs + end + ">"
					last := impl.TagEnd(tag+"x>", 0)
					if last != len(tag)-1 {
						t.Fatalf("TagEnd(%q, 0) = %d", tag, last)
					}
					checkAttrs(t, tag[2:last], want, strings.HasSuffix(end, "/"))
				}
			}
		}
	}
}

func TestRaw(t *testing.T) {
	for _, name := range []string{"script", "style", "title", "textarea"} {
		if !impl.Raw(name) {
			t.Errorf("Raw(%q) = false", name)
		}
		for _, other := range []string{strings.ToUpper(name), strings.ToUpper(name[:1]) + name[1:], name + "s", name[1:], name[:len(name)-1], " " + name, name + " ", "/" + name, name + "\x00", name + name} {
			if impl.Raw(other) {
				t.Errorf("Raw(%q) = true", other)
			}
		}
	}
	for _, name := range []string{"", "p", "a", "html", "head", "body", "pre", "plaintext", "xmp", "iframe", "noscript", "svg", "text", "area", "\u017fcript", "\xff"} {
		if impl.Raw(name) {
			t.Errorf("Raw(%q) = true", name)
		}
	}
}

func TestRawEnd(t *testing.T) {
	for _, name := range []string{"script", "style", "title", "textarea", "p", "h1", "svg:x", "ä"} {
		large := strings.ToUpper(name)
		if name == "ä" {
			large = name
		}
		for _, end := range []string{name, large, large[:1] + name[1:], name[:1] + large[1:]} {
			for _, behind := range []string{" ", "\t", "\n", "\f", "\r", "/", ">", " >", "/>", ">x", " x"} {
				for _, ahead := range []string{"", "a", "<", "</", "</<", "<b></b>", "if (a < b) { c() }", "</" + name, "</" + name + "x>", "< /" + name + ">", "</ " + name + ">", "<" + name + ">", "\xff", "<!--", "'"} {
					s := ahead + "</" + end + behind
					checkRawEnd(t, s, 0, name, len(ahead))
					checkRawEnd(t, s, 0, large, len(ahead))
					checkRawEnd(t, s, len(ahead), name, len(ahead))
					checkRawEnd(t, s, len(ahead)+1, name, len(s))
					checkRawEnd(t, s+s, len(ahead)+1, name, len(s)+len(ahead))
				}
			}
			for _, behind := range []string{"", "x", "X", "1", "<", "=", "-", ":", "\x00", "\v", "\"", "'", "\u00a0", "\xff", "</"} {
				s := "a</" + end + behind
				checkRawEnd(t, s, 0, name, len(s))
				checkRawEnd(t, s, 1, name, len(s))
			}
		}
	}
	checkRawEnd(t, "a</scriptx></SCRIPT >", 0, "script", 11)
	checkRawEnd(t, "abc", 0, "style", 3)
	checkRawEnd(t, "</style>", 0, "script", 8)
	checkRawEnd(t, "</script></style>", 0, "style", 9)
	// Letters alone are alike, and those alone that are one byte.
	checkRawEnd(t, "</\u017fcript>", 0, "script", 10)
	checkRawEnd(t, "</\u212a>", 0, "k", 6)
	checkRawEnd(t, "</Ä></ä>", 0, "ä", 5)
	checkRawEnd(t, "</@></`>", 0, "`", 4)
	checkRawEnd(t, "</[></{>", 0, "{", 4)
	checkRawEnd(t, "</\x11></1>", 0, "1", 4)
	checkRawEnd(t, "</\xfe></\xff>", 0, "\xff", 4)
}

func TestRawEndAtAnyPlace(t *testing.T) {
	s := "</p></p></p"
	for at := -3; at < len(s)+4; at++ {
		want := len(s)
		switch {
		case at <= 0:
			want = 0
		case at <= 4:
			want = 4
		}
		checkRawEnd(t, s, at, "p", want)
	}
	for _, at := range []int{math.MinInt, math.MinInt + 1, -1 << 32, -1} {
		checkRawEnd(t, "x</p>", at, "p", 1)
		checkRawEnd(t, "", at, "p", 0)
		checkRawEnd(t, "", at, "", 0)
	}
	for _, at := range []int{2, 5, 6, 1 << 32, math.MaxInt - 1, math.MaxInt} {
		checkRawEnd(t, "x</p>", at, "p", 5)
		checkRawEnd(t, "", at, "p", 0)
	}
}

func TestRawEndOfNamesThatAreNone(t *testing.T) {
	for _, c := range []struct {
		s, name string
		want    int
	}{
		{"</>", "", 0}, {"a</ >", "", 1}, {"<//", "", 0}, {"</", "", 2}, {"</a>", "", 4}, {"", "", 0}, {"<", "", 1}, {"</</>", "", 2},
		{"</ >", " ", 0}, {"</  ", " ", 0}, {"</ ", " ", 3}, {"</>>", ">", 0}, {"</></>>", "></", 0}, {"</</", "</", 4}, {"</</>", "</", 0}, {"</\x00>", "\x00", 0},
		{"</a>", "a>", 4}, {"</a>>", "a>", 0}, {"x", strings.Repeat("a", 5000), 1}, {"</" + strings.Repeat("A", 5000) + ">", strings.Repeat("a", 5000), 0},
	} {
		checkRawEnd(t, c.s, 0, c.name, c.want)
	}
}

func TestRawEndOfAllShortTexts(t *testing.T) {
	for _, name := range []string{"", "s", "sP"} {
		eachText([]string{"<", "/", "s", "S", "p", " ", ">"}, 6, func(s string) {
			for _, at := range []int{-1, 0, 1, 2, len(s)} {
				if got, want := impl.RawEnd(s, at, name), plainRawEnd(s, at, name); got != want {
					t.Fatalf("RawEnd(%q, %d, %q) = %d, want %d", s, at, name, got, want)
				}
			}
		})
	}
	for a := range 256 {
		for b := range 256 {
			s, name := "</"+string([]byte{byte(a)})+">", string([]byte{byte(b)})
			checkRawEnd(t, s, 0, name, plainRawEnd(s, 0, name))
		}
		behind := "</p" + string([]byte{byte(a)})
		checkRawEnd(t, behind, 0, "P", plainRawEnd(behind, 0, "P"))
	}
}

func TestWordsOfLongTexts(t *testing.T) {
	for _, piece := range []string{"<", "'", "=", "/", " ", "a", "a='", "a=\">\" ", "</p", "\xff"} {
		s := "<a " + strings.Repeat(piece, 20000/len(piece))
		if got, want := impl.TagEnd(s, 0), plainTagEnd(s, 0); got != want {
			t.Errorf("TagEnd of many %q = %d, want %d", piece, got, want)
		}
		if got, want := impl.RawEnd(s, 0, "p"), plainRawEnd(s, 0, "p"); got != want {
			t.Errorf("RawEnd of many %q = %d, want %d", piece, got, want)
		}
		want, wantSelf := plainAttrs(s[2:])
		if got, self := impl.Attrs(s[2:]); !slices.Equal(got, want) || self != wantSelf {
			t.Errorf("Attrs of many %q: %d, want %d", piece, len(got), len(want))
		}
	}
}
