package tests

import (
	"math"
	"math/big"
	"regexp"
	"slices"
	"strconv"
	"strings"
	"sync"
	"testing"

	"loop.example/g00325/impl"
)

// refNames holds the document's names and their signs, in its order.
var refNames = []struct {
	name string
	sign int
}{
	{"amp", 38}, {"apos", 39}, {"copy", 169}, {"euro", 8364}, {"gt", 62}, {"hellip", 8230}, {"lt", 60},
	{"mdash", 8212}, {"nbsp", 160}, {"not", 172}, {"notin", 8713}, {"quot", 34}, {"reg", 174}, {"times", 215},
}

// refMiddle holds the document's signs for 128 .. 159, in its order.
var refMiddle = []int{
	8364, 129, 8218, 402, 8222, 8230, 8224, 8225, 710, 8240, 352, 8249, 338, 141, 381, 143,
	144, 8216, 8217, 8220, 8221, 8226, 8211, 8212, 732, 8482, 353, 8250, 339, 157, 382, 376,
}

var (
	refTens     = regexp.MustCompile(`^&#([0-9]+);?`)
	refSixteens = regexp.MustCompile(`^&#[xX]([0-9a-fA-F]+);?`)
	refNamed    = regexp.MustCompile(`^&(amp|apos|copy|euro|gt|hellip|lt|mdash|nbsp|notin|not|quot|reg|times)`)
	refBars     = regexp.MustCompile(`^[=a-zA-Z0-9]`)
)

func plainNumbered(n *big.Int) int {
	if !n.IsInt64() {
		return impl.Bad
	}
	k := int(n.Int64())
	if k >= 128 && k <= 159 {
		return refMiddle[k-128]
	}
	if k <= 0 || k > 1114111 || k >= 55296 && k <= 57343 {
		return impl.Bad
	}
	return k
}

// plainRef is the document's rule for a reference, by patterns and numbers of any length.
func plainRef(s string, at int, value bool) (string, int) {
	if at < 0 || at >= len(s) {
		return "", 0
	}
	s = s[at:]
	for base, pattern := range map[int]*regexp.Regexp{10: refTens, 16: refSixteens} {
		if m := pattern.FindStringSubmatch(s); m != nil {
			n, _ := new(big.Int).SetString(m[1], base)
			return plainBytes(plainNumbered(n)), len(m[0])
		}
	}
	m := refNamed.FindStringSubmatch(s)
	if m == nil {
		return "", 0
	}
	sign := ""
	for _, c := range refNames {
		if c.name == m[1] {
			sign = plainBytes(c.sign)
		}
	}
	behind := s[len(m[0]):]
	if strings.HasPrefix(behind, ";") {
		return sign, len(m[0]) + 1
	}
	if value && refBars.MatchString(behind) {
		return "", 0
	}
	return sign, len(m[0])
}

func plainRefs(s string, value bool) string {
	out := ""
	for at := 0; at < len(s); {
		sign, many := plainRef(s, at, value)
		if many == 0 {
			out += s[at : at+1]
			at++
		} else {
			out += sign
			at += many
		}
	}
	return out
}

// checkRef holds Ref at one place against what is wanted there.
func checkRef(t *testing.T, s string, at int, value bool, wantSign string, wantMany int) {
	t.Helper()
	if sign, many := impl.Ref(s, at, value); sign != wantSign || many != wantMany {
		t.Errorf("Ref(%q, %d, %v) = %q, %d, want %q, %d", s, at, value, sign, many, wantSign, wantMany)
	}
}

func TestNamed(t *testing.T) {
	var want []string
	for _, c := range refNames {
		want = append(want, c.name)
	}
	got := impl.Named()
	if !slices.Equal(got, want) {
		t.Fatalf("Named() = %q, want %q", got, want)
	}
	// Whoever asked may write into the answer, and into the room behind it.
	for k := range got {
		got[k] = "amp"
	}
	for k := range got[len(got):cap(got)] {
		got[:cap(got)][len(got)+k] = "zz"
	}
	_ = append(got[:0], "x", "y", "z")
	if again := impl.Named(); !slices.Equal(again, want) {
		t.Errorf("Named() = %q behind one whose answer was written into", again)
	}
	for _, c := range refNames {
		if impl.NameSign(c.name) != c.sign {
			t.Errorf("NameSign(%q) = %d behind a written answer", c.name, impl.NameSign(c.name))
		}
	}
}

func TestNamesAskedAtOnce(t *testing.T) {
	var group sync.WaitGroup
	signs := make([]string, 16)
	for k := range signs {
		group.Go(func() {
			signs[k] = impl.Refs("&amp;&notin&times;", k%2 == 0) + strconv.Itoa(impl.NameSign("times")) + strings.Join(impl.Named(), "")
		})
	}
	group.Wait()
	for _, s := range signs {
		if s != signs[0] || !strings.HasPrefix(s, "&∉×215amp") {
			t.Errorf("asked at once: %q", s)
		}
	}
}

// TestNamesAreOneWhoeverTellsThem: the names come to Named, NameSign and Ref on unlike ways, and must be the same.
func TestNamesAreOneWhoeverTellsThem(t *testing.T) {
	for _, name := range impl.Named() {
		sign := impl.NameSign(name)
		checkRef(t, "&"+name+";", 0, false, impl.PutSign(sign), len(name)+2)
		checkRef(t, "&"+name, 0, true, impl.PutSign(sign), len(name)+1)
	}
}

func TestNameSign(t *testing.T) {
	for _, c := range refNames {
		if got := impl.NameSign(c.name); got != c.sign {
			t.Errorf("NameSign(%q) = %d, want %d", c.name, got, c.sign)
		}
		for _, other := range []string{
			c.name + ";", "&" + c.name, c.name + " ", " " + c.name, strings.ToUpper(c.name), strings.ToUpper(c.name[:1]) + c.name[1:],
			c.name + c.name, c.name + "\x00", c.name + "\xff", c.name[:1],
		} {
			if got := impl.NameSign(other); got != -1 {
				t.Errorf("NameSign(%q) = %d, want -1", other, got)
			}
		}
	}
	for _, none := range []string{"", "x", "noti", "no", "am", "ampx", "#38", "38", "hellipp", "nots", "notinn", "\xff", "times\n"} {
		if got := impl.NameSign(none); got != -1 {
			t.Errorf("NameSign(%q) = %d, want -1", none, got)
		}
	}
}

func TestNumbered(t *testing.T) {
	for n := -70000; n < 1200000; n++ {
		if got, want := impl.Numbered(n), plainNumbered(big.NewInt(int64(n))); got != want {
			t.Fatalf("Numbered(%d) = %d, want %d", n, got, want)
		}
	}
	for _, c := range [][2]int{
		{0, 65533}, {1, 1}, {13, 13}, {38, 38}, {127, 127}, {128, 8364}, {129, 129}, {150, 8211}, {159, 376}, {160, 160},
		{55295, 55295}, {55296, 65533}, {57343, 65533}, {57344, 57344}, {65533, 65533}, {65534, 65534}, {65535, 65535},
		{1114111, 1114111}, {1114112, 65533}, {-1, 65533}, {-128, 65533}, {math.MinInt, 65533}, {math.MaxInt, 65533},
		{1<<32 + 65, 65533}, {-1<<32 + 65, 65533}, {1<<32 + 130, 65533}, {math.MinInt + 65, 65533}, {1<<31 - 1, 65533},
	} {
		if got := impl.Numbered(c[0]); got != c[1] {
			t.Errorf("Numbered(%d) = %d, want %d", c[0], got, c[1])
		}
	}
	for _, n := range noSigns {
		if got := impl.Numbered(n); got != 65533 {
			t.Errorf("Numbered(%d) = %d, want 65533", n, got)
		}
	}
}

func TestRefOfEachName(t *testing.T) {
	for _, c := range refNames {
		sign := plainBytes(c.sign)
		for _, ahead := range []string{"", "a", "&", "&#", "\xff"} {
			at, many := len(ahead), 1+len(c.name)
			for _, value := range []bool{false, true} {
				// With a byte 59 the sign stands, whatever is behind that.
				for _, behind := range []string{"", "=", "a", "Z", "0", ";", " ", "\xff", "&"} {
					checkRef(t, ahead+"&"+c.name+";"+behind, at, value, sign, many+1)
				}
				// Without one it stands at the end of the text, and ahead of what bars no value.
				for _, behind := range []string{"", " ", "\n", "&", "&amp;", "-", "_", ".", "/", ":", "@", "[", "`", "{", "<", ">", "\"", "'", "\x00", "\xc3\xa4", "\xff", "#"} {
					checkRef(t, ahead+"&"+c.name+behind, at, value, sign, many)
				}
			}
			for _, behind := range []string{"=", "==", "=;", "a", "z", "A", "Z", "x;", "0", "9", "5;"} {
				checkRef(t, ahead+"&"+c.name+behind, at, false, sign, many)
				checkRef(t, ahead+"&"+c.name+behind, at, true, "", 0)
			}
		}
	}
}

func TestRefOfNamesThatBeginAlike(t *testing.T) {
	const not, notin = "\xc2\xac", "\xe2\x88\x89"
	for _, c := range []struct {
		s              string
		text           string
		many           int
		value          string
		manyInTheValue int
	}{
		{"&not", not, 4, not, 4}, {"&not;", not, 5, not, 5}, {"&not;in;", not, 5, not, 5}, {"&not in", not, 4, not, 4},
		{"&noti", not, 4, "", 0}, {"&noti;", not, 4, "", 0}, {"&notI", not, 4, "", 0}, {"&notIN;", not, 4, "", 0}, {"&notx;", not, 4, "", 0},
		{"&notin", notin, 6, notin, 6}, {"&notin;", notin, 7, notin, 7}, {"&notin;;", notin, 7, notin, 7}, {"&notin ", notin, 6, notin, 6},
		// The longest name counts, even where a shorter one would stand in the value.
		{"&notin=", notin, 6, "", 0}, {"&notinx", notin, 6, "", 0}, {"&notin1", notin, 6, "", 0}, {"&notinnotin;", notin, 6, "", 0},
		{"&notnot;", not, 4, "", 0}, {"&not&notin;", not, 4, not, 4}, {"&not=", not, 4, "", 0}, {"&not1", not, 4, "", 0},
		{"&no", "", 0, "", 0}, {"&n", "", 0, "", 0}, {"&no;t", "", 0, "", 0}, {"&nnot;", "", 0, "", 0},
		{"&l", "", 0, "", 0}, {"&lt", "<", 3, "<", 3}, {"&ltgt;", "<", 3, "", 0}, {"&ampamp;", "&", 4, "", 0},
	} {
		checkRef(t, c.s, 0, false, c.text, c.many)
		checkRef(t, c.s, 0, true, c.value, c.manyInTheValue)
		checkRef(t, "x "+c.s, 2, false, c.text, c.many)
	}
}

func TestRefOfNumbers(t *testing.T) {
	const bad = badBytes
	long := strings.Repeat("9", 5000)
	noughts := strings.Repeat("0", 5000)
	for _, c := range []struct {
		s    string
		sign string
		many int
	}{
		{"&#65;", "A", 5}, {"&#65", "A", 4}, {"&#65x", "A", 4}, {"&#65=", "A", 4}, {"&#65;;", "A", 5}, {"&#65a;", "A", 4}, {"&#65 ;", "A", 4},
		{"&#x41;", "A", 6}, {"&#X41;", "A", 6}, {"&#x41", "A", 5}, {"&#X41g", "A", 5}, {"&#x4A;", "J", 6}, {"&#x4a;", "J", 6}, {"&#X4a", "J", 5}, {"&#x41=", "A", 5},
		{"&#xaBcD;", "\xea\xaf\x8d", 8}, {"&#xfFfD;", bad, 8}, {"&#x1F600;", "\U0001f600", 9}, {"&#128512;", "\U0001f600", 9},
		{"&#0;", bad, 4}, {"&#x0", bad, 4}, {"&#00", bad, 4}, {"&#0065;", "A", 7}, {"&#x00041;", "A", 9}, {"&#" + noughts + "65;", "A", 5005}, {"&#x" + noughts + "41", "A", 5005},
		{"&#10;", "\n", 5}, {"&#13;", "\r", 5}, {"&#1;", "\x01", 4}, {"&#9", "\t", 3},
		{"&#127;", "\x7f", 6}, {"&#128;", "\xe2\x82\xac", 6}, {"&#x80", "\xe2\x82\xac", 5}, {"&#129;", "\xc2\x81", 6}, {"&#150;", "\xe2\x80\x93", 6},
		{"&#159;", "\xc5\xb8", 6}, {"&#x9F;", "\xc5\xb8", 6}, {"&#160;", "\xc2\xa0", 6}, {"&#255;", "\xc3\xbf", 6},
		{"&#55295;", "\xed\x9f\xbf", 8}, {"&#55296;", bad, 8}, {"&#xD800;", bad, 8}, {"&#57343;", bad, 8}, {"&#xdfff", bad, 7}, {"&#57344;", "\xee\x80\x80", 8},
		{"&#65534;", "\xef\xbf\xbe", 8}, {"&#xffff;", "\xef\xbf\xbf", 8},
		{"&#1114111;", "\xf4\x8f\xbf\xbf", 10}, {"&#x10FFFF;", "\xf4\x8f\xbf\xbf", 10}, {"&#1114112;", bad, 10}, {"&#x110000", bad, 9}, {"&#9999999;", bad, 10},
		// Numbers that come to a sign when they are cut to 32 or to 64 bits.
		{"&#4294967361;", bad, 13}, {"&#x100000041;", bad, 13}, {"&#18446744073709551681;", bad, 23}, {"&#x10000000000000041;", bad, 21},
		{"&#9223372036854775807", bad, 21}, {"&#9223372036854775808", bad, 21}, {"&#" + long + ";", bad, 5003}, {"&#x" + long, bad, 5003}, {"&#X1" + noughts + ";", bad, 5005},
	} {
		for _, value := range []bool{false, true} {
			checkRef(t, c.s, 0, value, c.sign, c.many)
			checkRef(t, "&"+c.s, 1, value, c.sign, c.many)
		}
	}
	for n := 0; n < 1114200; n += 1 + n/512 {
		sign := plainBytes(plainNumbered(big.NewInt(int64(n))))
		tens, sixteens := strconv.Itoa(n), strconv.FormatInt(int64(n), 16)
		checkRef(t, "&#"+tens+";", 0, n%2 == 0, sign, 3+len(tens))
		checkRef(t, "&#x"+sixteens+"z", 0, n%2 == 0, sign, 3+len(sixteens))
		checkRef(t, "&#X"+strings.ToUpper(sixteens)+";", 0, n%2 == 0, sign, 4+len(sixteens))
	}
}

func TestRefOfWhatIsNone(t *testing.T) {
	for _, s := range []string{
		"", "&", "&;", "&&", "& amp;", "&#", "&#;", "&#x", "&#X", "&#x;", "&#X;", "&#x ", "&#g", "&#xg1;", "&#-1;", "&#+1;", "&# 1;", "&#x 1;", "&#x-1;", "&#xx41;", "&##65;",
		"&#a;", "&#A1;", "&#\xd9\xa1;", "&x41;", "&65;", "&x", "&xamp;", "&Amp;", "&AMP;", "&LT;", "&Notin;", "&NOT", "&nOt;", "&foo;", "&\xff", "&\xc2\xa0;", "&\x00amp;",
		"amp;", "#65;", "a", ";", "\xff&amp;", " &amp;", "\x00",
	} {
		for _, value := range []bool{false, true} {
			checkRef(t, s, 0, value, "", 0)
		}
	}
}

func TestRefAtNoPlace(t *testing.T) {
	s := "a&amp;&#65;b"
	for at := -3; at < len(s)+3; at++ {
		for _, value := range []bool{false, true} {
			switch at {
			case 1:
				checkRef(t, s, at, value, "&", 5)
			case 6:
				checkRef(t, s, at, value, "A", 5)
			default:
				checkRef(t, s, at, value, "", 0)
			}
		}
	}
	for _, at := range []int{math.MinInt, math.MinInt + 1, -1, 4, 5, 100, 1 << 32, math.MaxInt - 1, math.MaxInt} {
		checkRef(t, "&lt;", at, false, "", 0)
		checkRef(t, "", at, true, "", 0)
	}
}

func TestRefs(t *testing.T) {
	for _, c := range []struct{ s, text, value string }{
		{"", "", ""}, {"a b", "a b", "a b"}, {"&", "&", "&"}, {"&&", "&&", "&&"}, {"&amp;", "&", "&"}, {"&amp", "&", "&"},
		{"&lt;&notin;&notx&amp=&#65;&#x42&#128;&#0;&x", "<∉¬x&=AB€\uFFFD&x", "<∉&notx&amp=AB€\uFFFD&x"},
		{"?a&lt=1&amp", "?a<=1&", "?a&lt=1&"}, {"?a=1&copy=2&reg", "?a=1©=2®", "?a=1&copy=2®"},
		// What a reference tells is not read again.
		{"&amp;lt;", "&lt;", "&lt;"}, {"&amp;amp;amp;", "&amp;amp;", "&amp;amp;"}, {"&#38;lt;", "&lt;", "&lt;"}, {"&amp;#65;", "&#65;", "&#65;"}, {"&#38;#38;", "&#38;", "&#38;"}, {"&#38&amp&#38", "&&&", "&&&"},
		{"&amp&amp;&amp", "&&&", "&&&"}, {"&lt&gt", "<>", "<>"}, {"&lt;&gt;", "<>", "<>"}, {"&ltgt;", "<gt;", "&ltgt;"}, {"a&lt;b&gt;c", "a<b>c", "a<b>c"},
		{"&#65;&#66;&#x43;&#X44;", "ABCD", "ABCD"}, {"&#65&#66&#x43&#X44", "ABCD", "ABCD"}, {"&#65 &#66", "A B", "A B"},
		{"&noti&notin&noti;n", "¬i∉¬i;n", "&noti∉&noti;n"}, {"&notinx", "∉x", "&notinx"}, {"&&amp;&", "&&&", "&&&"}, {"&#&#;&#x;&amp;", "&#&#;&#x;&", "&#&#;&#x;&"},
		{"\xff&lt;\xfe&amp\xc3", "\xff<\xfe&\xc3", "\xff<\xfe&\xc3"}, {"\r\n&#13;\x00", "\r\n\r\x00", "\r\n\r\x00"}, {"&AMP;&Lt", "&AMP;&Lt", "&AMP;&Lt"},
		{"&hellip;&mdash&nbsp;&times&euro;&quot&apos;", "…—\u00a0×€\"'", "…—\u00a0×€\"'"},
	} {
		if got := impl.Refs(c.s, false); got != c.text {
			t.Errorf("Refs(%q, false) = %q, want %q", c.s, got, c.text)
		}
		if got := impl.Refs(c.s, true); got != c.value {
			t.Errorf("Refs(%q, true) = %q, want %q", c.s, got, c.value)
		}
	}
}

func TestRefsOfAllShortTexts(t *testing.T) {
	pieces := []string{"&", "#", "x", "X", "not", "in", "amp", "lt", ";", "=", "1", "F", " ", "\xff"}
	texts := []string{""}
	for long := 1; long <= 5; long++ {
		var longer []string
		for _, s := range texts {
			// What holds behind a first piece that begins no reference, shorter texts show.
			for _, piece := range pieces {
				if long < 5 || s[0] == '&' {
					longer = append(longer, s+piece)
				}
			}
		}
		for _, s := range longer {
			for _, value := range []bool{false, true} {
				if got, want := impl.Refs(s, value), plainRefs(s, value); got != want {
					t.Fatalf("Refs(%q, %v) = %q, want %q", s, value, got, want)
				}
			}
		}
		texts = longer
	}
	for _, s := range texts[:20000] {
		for at := -1; at <= len(s); at++ {
			wantSign, wantMany := plainRef(s, at, true)
			checkRef(t, s, at, true, wantSign, wantMany)
		}
	}
}

func TestRefsLeaveWhatHasNone(t *testing.T) {
	every := ""
	for b := range 256 {
		if b != 38 {
			every += string([]byte{byte(b)})
		}
	}
	for _, s := range []string{every, strings.Repeat(every, 30), "amp; lt; #65; #x41;", "\xff\xfe\xc3", "a\r\nb"} {
		if impl.Refs(s, false) != s || impl.Refs(s, true) != s {
			t.Errorf("Refs turn %q, which has no byte 38", s)
		}
	}
}

// TestWhatIsEscapedComesBack holds promise 3, for each sign by its number and by name.
func TestWhatIsEscapedComesBack(t *testing.T) {
	names := strings.NewReplacer("&", "&amp;", "<", "&lt;", ">", "&gt;", "\"", "&quot;", "'", "&apos;")
	for _, s := range []string{
		"", "a<b>&c\"d'", "&amp;", "&amp;amp;", "&&&", "<<>>", "&#65;", "&notin;=&not=1", "\xff&\xfe<", "ä<€>\U0001f600&", "&lt", "&&lt;;", "?a=1&lt=2&copy",
		strings.Repeat("&<>\"'", 500),
	} {
		escaped := names.Replace(s)
		for _, value := range []bool{false, true} {
			if got := impl.Refs(escaped, value); got != s {
				t.Errorf("Refs(%q, %v) = %q, want %q", escaped, value, got, s)
			}
		}
	}
	var want, tens, sixteens strings.Builder
	for n := 1; n <= 1114111; n++ {
		if !impl.SignOk(n) || n >= 128 && n <= 159 {
			continue
		}
		want.WriteString(impl.PutSign(n))
		tens.WriteString("&#" + strconv.Itoa(n) + ";")
		sixteens.WriteString("&#x" + strconv.FormatInt(int64(n), 16) + ";")
	}
	if impl.Refs(tens.String(), false) != want.String() {
		t.Error("signs that are escaped by numbers of 10 don't come back")
	}
	if impl.Refs(sixteens.String(), true) != want.String() {
		t.Error("signs that are escaped by numbers of 16 don't come back")
	}
}
