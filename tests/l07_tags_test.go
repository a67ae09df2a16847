package tests

import (
	"slices"
	"strings"
	"sync"
	"testing"

	"loop.example/g00325/impl"
)

// tagKinds holds the seven functions, and the names that the document lists of each, as it writes them.
var tagKinds = []struct {
	name string
	is   func(string) bool
	tags string
}{
	{"Void", impl.Void, "br hr img input meta link base wbr col"},
	{"OfHead", impl.OfHead, "title meta link base style script"},
	{"Format", impl.Format, "a b i u em strong code small"},
	{"Block", impl.Block, "p div ul ol li h1 h2 h3 pre hr table form section"},
	{"Part", impl.Part, "tbody tr td th"},
	{"Wall", impl.Wall, "html table td th"},
	{"Head", impl.Head, "h1 h2 h3"},
}

// tagsByHand holds each name that stands in the document's lists with all kinds that it is of.
var tagsByHand = [][2]string{
	{"br", "Void"}, {"hr", "Void Block"}, {"img", "Void"}, {"input", "Void"}, {"meta", "Void OfHead"}, {"link", "Void OfHead"},
	{"base", "Void OfHead"}, {"wbr", "Void"}, {"col", "Void"}, {"title", "OfHead"}, {"style", "OfHead"}, {"script", "OfHead"},
	{"a", "Format"}, {"b", "Format"}, {"i", "Format"}, {"u", "Format"}, {"em", "Format"}, {"strong", "Format"},
	{"code", "Format"}, {"small", "Format"}, {"p", "Block"}, {"div", "Block"}, {"ul", "Block"}, {"ol", "Block"}, {"li", "Block"},
	{"h1", "Block Head"}, {"h2", "Block Head"}, {"h3", "Block Head"}, {"pre", "Block"}, {"table", "Block Wall"},
	{"form", "Block"}, {"section", "Block"}, {"tbody", "Part"}, {"tr", "Part"}, {"td", "Part Wall"}, {"th", "Part Wall"},
	{"html", "Wall"},
}

// kindsOfTag asks all seven functions of one name: those that are true, in the document's order.
func kindsOfTag(name string) string {
	var of []string
	for _, k := range tagKinds {
		if k.is(name) {
			of = append(of, k.name)
		}
	}
	return strings.Join(of, " ")
}

// plainKindsOfTag is the document's rule: the kinds in whose list the name stands, byte by byte.
func plainKindsOfTag(name string) string {
	var of []string
	for _, k := range tagKinds {
		if slices.Contains(strings.Split(k.tags, " "), name) {
			of = append(of, k.name)
		}
	}
	return strings.Join(of, " ")
}

func checkKindsOfTag(t *testing.T, name string, want string) {
	t.Helper()
	if got := kindsOfTag(name); got != want {
		t.Errorf("the kinds of %s are [%s], want [%s]", shortText(name), got, want)
	}
}

// listedTags tells each name of the document's lists once.
func listedTags() []string {
	var names []string
	for _, k := range tagKinds {
		names = append(names, strings.Split(k.tags, " ")...)
	}
	slices.Sort(names)
	return slices.Compact(names)
}

func TestKindsOfTagsByHand(t *testing.T) {
	var names []string
	for _, c := range tagsByHand {
		checkKindsOfTag(t, c[0], c[1])
		names = append(names, c[0])
	}
	slices.Sort(names)
	if !slices.Equal(names, listedTags()) {
		t.Errorf("%q are asked by hand, but %q are listed", names, listedTags())
	}
}

func TestHowManyTagsAreOfEachKind(t *testing.T) {
	for k, want := range []int{9, 6, 8, 13, 4, 4, 3} {
		many := 0
		for _, name := range listedTags() {
			if tagKinds[k].is(name) {
				many++
			}
		}
		if many != want {
			t.Errorf("%d tags are %s, want %d", many, tagKinds[k].name, want)
		}
	}
}

func TestTagsOfNoKind(t *testing.T) {
	for _, name := range []string{
		"span", "body", "head", "textarea", "svg", "math", "thead", "tfoot", "caption", "colgroup", "dl", "dt", "dd", "font",
		"s", "q", "embed", "area", "param", "source", "track", "noscript", "template", "header", "article", "main", "nav",
		"blockquote", "button", "select", "option", "label", "h4", "h5", "h6", "h0", "page", "none", "x", "my-tag", "svg:a",
	} {
		checkKindsOfTag(t, name, "")
	}
}

func TestTagsThatBeginLikeOthers(t *testing.T) {
	for _, c := range [][2]string{
		{"t", ""}, {"h", ""}, {"tb", ""}, {"tabl", ""}, {"tables", ""}, {"h4", ""}, {"h11", ""}, {"h1h", ""}, {"preface", ""}, {"colgroup", ""},
		{"pr", ""}, {"co", ""}, {"cod", ""}, {"codes", ""}, {"s", ""}, {"sm", ""}, {"d", ""}, {"di", ""}, {"l", ""}, {"lin", ""},
		{"e", ""}, {"o", ""}, {"im", ""}, {"w", ""}, {"wb", ""}, {"ht", ""}, {"htm", ""}, {"htmls", ""}, {"tbod", ""},
		{"aa", ""}, {"bb", ""}, {"ab", ""}, {"bas", ""}, {"basefont", ""}, {"metas", ""}, {"styl", ""}, {"formats", ""}, {"sections", ""},
		{"b", "Format"}, {"base", "Void OfHead"}, {"br", "Void"}, {"p", "Block"}, {"pre", "Block"}, {"i", "Format"}, {"img", "Void"},
		{"li", "Block"}, {"link", "Void OfHead"}, {"u", "Format"}, {"ul", "Block"}, {"a", "Format"}, {"tr", "Part"},
	} {
		checkKindsOfTag(t, c[0], c[1])
	}
	// Each beginning and each end of a listed name is of a kind only where it is listed itself.
	for _, name := range listedTags() {
		for at := range len(name) + 1 {
			checkKindsOfTag(t, name[:at], plainKindsOfTag(name[:at]))
			checkKindsOfTag(t, name[at:], plainKindsOfTag(name[at:]))
		}
	}
}

func TestTagsWithOneByteMoreLessOrAnother(t *testing.T) {
	for _, name := range listedTags() {
		for at := range len(name) {
			shorter := name[:at] + name[at+1:]
			checkKindsOfTag(t, shorter, plainKindsOfTag(shorter))
		}
		for b := range 256 {
			one := string([]byte{byte(b)})
			for at := range len(name) + 1 {
				longer := name[:at] + one + name[at:]
				checkKindsOfTag(t, longer, plainKindsOfTag(longer))
				if at < len(name) {
					other := name[:at] + one + name[at+1:]
					checkKindsOfTag(t, other, plainKindsOfTag(other))
				}
			}
		}
	}
}

func TestShortTags(t *testing.T) {
	for a := range 256 {
		for b := range 256 {
			name := string([]byte{byte(a), byte(b)})
			checkKindsOfTag(t, name, plainKindsOfTag(name))
		}
		name := string([]byte{byte(a)})
		checkKindsOfTag(t, name, plainKindsOfTag(name))
	}
	pieces := strings.Split("a b c d e f g h i l m o p r t u v w 1 2 3", " ")
	eachText(pieces, 3, func(name string) {
		if got, want := kindsOfTag(name), plainKindsOfTag(name); got != want {
			t.Fatalf("the kinds of %q are [%s], want [%s]", name, got, want)
		}
	})
}

func TestTagsThatAreNoNames(t *testing.T) {
	for _, name := range []string{
		"", " ", "  ", "\x00", "\n", "<", ">", "/", "-1", "0", "\xff", "\xc3", "\xe2\x82", "\xed\xa0\x80", "\xef\xbf\xbd",
		"br hr", "tr td", "h1,h2", "h1 h2 h3", "<br>", "</p>", "<p", "p>", "br/", "&lt;", "a=b", "\ufeffbr", "b\u0301", "\u0430", "ｂ",
	} {
		checkKindsOfTag(t, name, "")
	}
	for _, name := range listedTags() {
		upper := strings.ToUpper(name)
		checkKindsOfTag(t, upper, "")
		checkKindsOfTag(t, upper[:1]+name[1:], "")
		if last := len(name) - 1; upper[last:] != name[last:] {
			checkKindsOfTag(t, name[:last]+upper[last:], "")
		}
		for _, odd := range []string{" ", "\t", "\n", "\f", "\r", "\x00", "\x80", "\xff", "\xc3\x28", "/", "<", ">", "-", "0", "\u00a0", "\u200d"} {
			checkKindsOfTag(t, odd+name, "")
			checkKindsOfTag(t, name+odd, "")
			checkKindsOfTag(t, odd+name+odd, "")
		}
		for _, other := range listedTags() {
			checkKindsOfTag(t, name+other, plainKindsOfTag(name+other))
			checkKindsOfTag(t, name+" "+other, "")
		}
	}
}

func TestLongTags(t *testing.T) {
	for _, name := range listedTags() {
		for _, many := range []int{7, 8, 255, 256, 257, 65536, 1 << 20} {
			checkKindsOfTag(t, strings.Repeat(name, many), "")
			checkKindsOfTag(t, name+strings.Repeat(" ", many), "")
			checkKindsOfTag(t, name+strings.Repeat("\x00", many), "")
			checkKindsOfTag(t, strings.Repeat("\xff", many)+name, "")
		}
	}
}

func TestNoPartIsABlock(t *testing.T) {
	parts := 0
	ask := func(name string) {
		part := impl.Part(name)
		if part {
			parts++
		}
		if part && impl.Block(name) {
			t.Errorf("%q is a part and a block", name)
		}
	}
	for _, name := range listedTags() {
		ask(name)
	}
	if parts != 4 {
		t.Errorf("%d parts were asked, want 4", parts)
	}
	eachText(strings.Split("a b d e h l o r t y 1", " "), 5, ask)
}

func TestKindsThatLieInOthers(t *testing.T) {
	for _, name := range listedTags() {
		if impl.Head(name) && !impl.Block(name) {
			t.Errorf("%q is Head, but no Block", name)
		}
		if impl.Void(name) && (impl.Format(name) || impl.Part(name) || impl.Wall(name) || impl.Head(name)) {
			t.Errorf("%q is Void and of a kind that has something in it", name)
		}
		if impl.Format(name) && kindsOfTag(name) != "Format" {
			t.Errorf("%q is a Format and %s", name, kindsOfTag(name))
		}
	}
}

// A kind that was asked ahead, of whatever name, turns nothing: each answer is asked behind each other one.
func TestKindsOfTagsAreTheSameAtEveryCall(t *testing.T) {
	names := append(listedTags(), "", "span", "h4", "BR", "td ", "\x00")
	for _, first := range names {
		for _, ahead := range tagKinds {
			was := ahead.is(first)
			for _, second := range names {
				checkKindsOfTag(t, second, plainKindsOfTag(second))
			}
			if ahead.is(first) != was {
				t.Errorf("%s(%q) is not what it was", ahead.name, first)
			}
		}
	}
	for range 2000 {
		for _, name := range []string{"hr", "td", "h3", "span"} {
			checkKindsOfTag(t, name, plainKindsOfTag(name))
		}
	}
}

func TestKindsOfTagsAskedAtOnce(t *testing.T) {
	names := append(listedTags(), "", "span", "tables")
	var all sync.WaitGroup
	for k := range 8 {
		all.Go(func() {
			for n := range 20 * len(names) {
				name := names[(n*(k+1)+k)%len(names)]
				if got, want := kindsOfTag(name), plainKindsOfTag(name); got != want {
					t.Errorf("the kinds of %q, asked beside others, are [%s], want [%s]", name, got, want)
				}
			}
		})
	}
	all.Wait()
}

// What stands around a name that is a piece of a longer text is no part of it.
func TestKindsOfTagsThatArePieces(t *testing.T) {
	page := "<table><td><hr><h1>x<br>"
	for at := range len(page) + 1 {
		for end := at; end <= len(page); end++ {
			checkKindsOfTag(t, page[at:end], plainKindsOfTag(page[at:end]))
		}
	}
}
