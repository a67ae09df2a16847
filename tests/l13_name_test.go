package tests

import (
	"fmt"
	"slices"
	"strings"
	"testing"

	"loop.example/g00325/impl"
)

// plainMayStand is the document's rule for a sign of a strict name, by chapter 2's spans as they are written there.
func plainMayStand(n, at int) bool {
	if at == 0 {
		return firstSpans.hold(n)
	}
	return nextSpans.hold(n)
}

func plainNameOk(s string, signs []int) bool {
	clean := ""
	for at, n := range signs {
		if !plainMayStand(n, at) {
			return false
		}
		clean += plainBytes(n)
	}
	return s != "" && s == clean
}

func plainNameOf(signs []int) string {
	if len(signs) == 0 {
		return "U"
	}
	name := ""
	for at, n := range signs {
		if plainMayStand(n, at) {
			name += plainBytes(n)
		} else {
			name += fmt.Sprintf("U%06X", n)
		}
	}
	return name
}

// checkStrictName holds promise 13 for that text alone: what is made of it is strict, and what is strict stays.
func checkStrictName(t *testing.T, s string) {
	t.Helper()
	name := impl.NameOf(s)
	if !impl.NameOk(name) {
		t.Fatalf("NameOf(%s) = %s, which is not NameOk", shortText(s), shortText(name))
	}
	if again := impl.NameOf(name); again != name {
		t.Fatalf("NameOf(%s) = %s, and of that %s", shortText(s), shortText(name), shortText(again))
	}
	if ok := impl.NameOk(s); ok != (name == s) {
		t.Fatalf("NameOk(%s) = %v, NameOf is %s", shortText(s), ok, shortText(name))
	}
}

// checkNameOfSigns holds both functions against the rule, for a text that has those signs.
func checkNameOfSigns(t *testing.T, s string, signs []int) {
	t.Helper()
	if got, want := impl.NameOf(s), plainNameOf(signs); got != want {
		t.Fatalf("NameOf(%s) = %s, want %s", shortText(s), shortText(got), shortText(want))
	}
	if got, want := impl.NameOk(s), plainNameOk(s, signs); got != want {
		t.Fatalf("NameOk(%s) = %v, want %v", shortText(s), got, want)
	}
	checkStrictName(t, s)
}

func TestNamesByHand(t *testing.T) {
	for _, c := range []struct {
		s, name string
	}{
		{"", "U"}, {"U", "U"}, {"u", "u"}, {"a", "a"}, {"_", "_"}, {"_a.1", "_a.1"}, {"a-b", "a-b"}, {"é", "é"}, {"É·", "É·"},
		{"x:y", "xU00003Ay"}, {"1a", "U000031a"}, {"-a", "U00002Da"}, {".", "U00002E"}, {":", "U00003A"}, {"a:", "aU00003A"},
		{":a", "U00003Aa"}, {"::", "U00003AU00003A"}, {"a::b", "aU00003AU00003Ab"}, {"--", "U00002D-"}, {"-", "U00002D"},
		{"a-", "a-"}, {"12", "U0000312"}, {"·a", "U0000B7a"}, {"a·", "a·"}, {"a b", "aU000020b"}, {" a", "U000020a"}, {"\t", "U000009"},
		{"a\n", "aU00000A"}, {"a\r\n", "aU00000DU00000A"}, {"\x00", "U000000"}, {"a\x00b", "aU000000b"}, {"\x1f", "U00001F"},
		{"a=\"1\"", "aU00003DU0000221U000022"}, {"<a>", "U00003CaU00003E"}, {"a/b", "aU00002Fb"}, {"&amp;", "U000026ampU00003B"},
		{"xml:lang", "xmlU00003Alang"}, {"xmlns", "xmlns"}, {"DIV", "DIV"}, {"h1", "h1"}, {"×", "U0000D7"}, {"a÷", "aU0000F7"},
		{"\u2040a", "U002040a"}, {"a\u203f\u2040", "a\u203f\u2040"}, {"\u0300", "U000300"}, {"a\u0300", "a\u0300"},
		{"€", "€"}, {"→", "U002192"}, {"a→", "aU002192"}, {"日本", "日本"}, {"\u3000", "U003000"}, {"😀", "😀"}, {"a\U0010ffff", "aU10FFFF"},
		{"\U000f0000", "U0F0000"}, {"\U000abcde", "\U000abcde"}, {"\U000effff", "\U000effff"}, {"\U0010fedc", "U10FEDC"}, {"\ufffe", "U00FFFE"},
		{badBytes, badBytes}, {"a" + badBytes, "a" + badBytes},
		// What looks like an escaped sign is letters and digits like any others.
		{"U00003A", "U00003A"}, {"aU00003A", "aU00003A"}, {"U00003A:", "U00003AU00003A"}, {":U00003A", "U00003AU00003A"},
		{"U:", "UU00003A"}, {"U000031a", "U000031a"}, {"UU", "UU"}, {"U0", "U0"}, {"0U", "U000030U"}, {"U00003a", "U00003a"},
	} {
		if got := impl.NameOf(c.s); got != c.name {
			t.Errorf("NameOf(%q) = %q, want %q", c.s, got, c.name)
		}
		if ok := impl.NameOk(c.s); ok != (c.s == c.name) {
			t.Errorf("NameOk(%q) = %v", c.s, ok)
		}
		checkNameOfSigns(t, c.s, impl.Signs(c.s))
	}
}

func TestNameOkByHand(t *testing.T) {
	for s, want := range map[string]bool{
		"_a.1": true, "a": true, "Z": true, "_": true, "a-": true, "a1": true, "é": true, "a\u00b7": true, badBytes: true, "U": true,
		"": false, "-a": false, "a:b": false, "1": false, ".": false, ":": false, " a": false, "a ": false, "\u00b7": false,
		"a\xff": false, "\xff": false, "\xffa": false, "a\xe2\x82": false, "a\xe2\x82b": false, "a\x00": false, "\x00": false,
	} {
		if got := impl.NameOk(s); got != want {
			t.Errorf("NameOk(%q) = %v, want %v", s, got, want)
		}
	}
}

// spanEdges holds each sign at an end of one of these spans, and the signs beside it.
func spanEdges(spans kindSpans) []int {
	var list []int
	for _, s := range spans {
		for _, n := range []int{s[0] - 1, s[0], s[0] + 1, s[1] - 1, s[1], s[1] + 1} {
			if impl.SignOk(n) {
				list = append(list, n)
			}
		}
	}
	slices.Sort(list)
	return slices.Compact(list)
}

func TestNamesAtTheEndsOfSpans(t *testing.T) {
	edges := spanEdges(nextSpans)
	if len(edges) < 60 {
		t.Fatal("too few signs:", edges)
	}
	turned := [2]int{}
	for _, n := range edges {
		sign, instead := plainBytes(n), fmt.Sprintf("U%06X", n)
		first, behind := sign, sign
		if !firstSpans.hold(n) {
			first = instead
			turned[0]++
		}
		if !nextSpans.hold(n) {
			behind = instead
			turned[1]++
		}
		for _, c := range []struct {
			s, want string
		}{
			{sign, first}, {sign + "a", first + "a"}, {"a" + sign, "a" + behind}, {"a" + sign + "b", "a" + behind + "b"},
			{sign + sign, first + behind}, {sign + "1" + sign + sign, first + "1" + behind + behind}, {":" + sign, "U00003A" + behind},
			{"1" + sign, "U000031" + behind}, {"\xff" + sign, badBytes + behind}, {sign + "\xff", first + badBytes},
		} {
			if got := impl.NameOf(c.s); got != c.want {
				t.Errorf("NameOf(%q) = %q, want %q", c.s, got, c.want)
			}
			if ok := impl.NameOk(c.s); ok != (c.s == c.want) {
				t.Errorf("NameOk(%q) = %v", c.s, ok)
			}
			checkStrictName(t, c.s)
		}
	}
	if turned[0] <= turned[1] || turned[1] == 0 || turned[0] == len(edges) {
		t.Errorf("of %d signs %d may not begin, %d may not follow", len(edges), turned[0], turned[1])
	}
}

func TestEverySignFirstAndBehindAnother(t *testing.T) {
	for n := range 1114112 {
		if n >= 55296 && n <= 57343 {
			continue
		}
		sign := plainBytes(n)
		for at, ahead := range []string{"", "a"} {
			s, want := ahead+sign, ahead+sign
			stands := plainMayStand(n, at)
			if !stands {
				want = ahead + "U" + sixDigits(n)
			}
			if got := impl.NameOf(s); got != want {
				t.Fatalf("NameOf(%q) = %q, want %q", s, got, want)
			}
			if impl.NameOk(s) != stands || !impl.NameOk(want) {
				t.Fatalf("NameOk(%q) = %v, NameOk(%q) = %v", s, !stands, want, impl.NameOk(want))
			}
		}
	}
}

// sixDigits writes n by digits of 16, the upper ones first, worked out digit by digit.
func sixDigits(n int) string {
	digits := []byte("000000")
	for k := 5; k >= 0; k-- {
		digits[k] = "0123456789ABCDEF"[n%16]
		n /= 16
	}
	return string(digits)
}

func TestDigitsOfTurnedSigns(t *testing.T) {
	for n, want := range map[int]string{
		0: "U000000", 1: "U000001", 9: "U000009", 15: "U00000F", 16: "U000010", 0x2f: "U00002F", 0x3a: "U00003A", 0xa0: "U0000A0", 0xbf: "U0000BF", 0x37e: "U00037E",
		0x2190: "U002190", 0x2bcd: "U002BCD", 0x2bef: "U002BEF", 0xe123: "U00E123", 0xe456: "U00E456", 0xe789: "U00E789", 0xeabc: "U00EABC",
		0xfffe: "U00FFFE", 0xf0000: "U0F0000", 0xfedcb: "U0FEDCB", 0xf9876: "U0F9876", 0x100000: "U100000", 0x10abcd: "U10ABCD", 0x10ffff: "U10FFFF",
	} {
		if got := impl.NameOf(impl.PutSign(n)); got != want {
			t.Errorf("NameOf of the sign %d = %q, want %q", n, got, want)
		}
		if got := impl.NameOf("a" + impl.PutSign(n) + "b"); got != "a"+want+"b" {
			t.Errorf("NameOf of the sign %d between letters = %q", n, got)
		}
	}
}

func TestWhatMayOnlyFollow(t *testing.T) {
	many := 0
	for n := range 1114112 {
		if !nextSpans.hold(n) || firstSpans.hold(n) {
			continue
		}
		many++
		sign, instead := plainBytes(n), "U"+sixDigits(n)
		for s, want := range map[string]string{
			sign: instead, sign + sign: instead + sign, "a" + sign: "a" + sign, "a" + sign + sign: "a" + sign + sign, sign + "a": instead + "a",
			":" + sign: "U00003A" + sign, "a:" + sign: "aU00003A" + sign, "\xff" + sign: badBytes + sign,
		} {
			if got := impl.NameOf(s); got != want {
				t.Errorf("NameOf(%q) = %q, want %q", s, got, want)
			}
			if ok := impl.NameOk(s); ok != (s == want) {
				t.Errorf("NameOk(%q) = %v", s, ok)
			}
		}
	}
	if many != 2+10+1+112+2 {
		t.Error("signs that may only follow:", many)
	}
}

func TestNamesOfWhatIsNoRightSign(t *testing.T) {
	// Each with how many times it is read as Bad.
	for broken, many := range map[string]int{
		"\xff": 1, "\x80": 1, "\xbf": 1, "\xc3": 1, "\xe2\x82": 1, "\xf0\x9f\x98": 1, "\xc0\x80": 2, "\xed\xa0\x80": 3, "\xf4\x90\x80\x80": 4,
		"\xff\xff": 2, "\xe2\x82\xe2\x82": 2, "\xf0\x90\xf0": 2, "\x80\x80\x80": 3, "\xfe\xff\xc3": 3,
	} {
		bad := strings.Repeat(badBytes, many)
		for s, want := range map[string]string{
			broken: bad, broken + "a": bad + "a", "a" + broken: "a" + bad, "a" + broken + "b": "a" + bad + "b", broken + "1": bad + "1",
			"1" + broken: "U000031" + bad, "-" + broken + "-": "U00002D" + bad + "-", broken + ":": bad + "U00003A", ":" + broken: "U00003A" + bad,
			"a" + broken + broken + "b" + broken: "a" + bad + bad + "b" + bad, "é" + broken + "é": "é" + bad + "é", badBytes + broken: badBytes + bad,
		} {
			if got := impl.NameOf(s); got != want {
				t.Errorf("NameOf(%q) = %q, want %q", s, got, want)
			}
			if impl.NameOk(s) {
				t.Errorf("NameOk(%q) = true", s)
			}
			if ok := impl.NameOk(want); !ok {
				t.Errorf("NameOk(%q) = false", want)
			}
			checkStrictName(t, s)
		}
	}
}

func TestNamesOfAllBytes(t *testing.T) {
	table := newSignTable()
	for a := range 256 {
		for b := range 256 {
			for _, s := range []string{string([]byte{byte(a)}), string([]byte{byte(a), byte(b)}), string([]byte{'a', byte(a), byte(b)})} {
				checkNameOfSigns(t, s, table.signs(s))
			}
		}
	}
	for _, a := range []byte(edgeBytes) {
		for _, b := range []byte(edgeBytes) {
			for _, c := range []byte(edgeBytes) {
				for _, s := range []string{string([]byte{a, b, c}), string([]byte{a, b, c, 'a'}), string([]byte{'0', a, b, c})} {
					checkNameOfSigns(t, s, table.signs(s))
				}
			}
		}
	}
}

// namePieces holds signs of every kind: those that may begin, only follow, not stand at all, and what is none.
var namePieces = []string{
	"a", "Z", "_", "U", "A", "é", "😀", badBytes, "-", ".", "0", "·", "\u0300", ":", " ", "\x00", "→", "\ufffe", "\U0010ffff", "\xff", "\xe2\x82", "U00003A",
}

func TestTextsOfEveryKindOfSign(t *testing.T) {
	turned, stayed := 0, 0
	eachText(namePieces, 4, func(s string) {
		checkNameOfSigns(t, s, impl.Signs(s))
		if impl.NameOk(s) {
			stayed++
		} else {
			turned++
		}
	})
	if turned == 0 || stayed == 0 {
		t.Errorf("%d were turned, %d stayed", turned, stayed)
	}
}

func TestLongNames(t *testing.T) {
	for seed := range 300 {
		s := longPage(namePieces, 5+seed, seed)
		checkNameOfSigns(t, s, impl.Signs(s))
	}
	const many = 200000
	for _, c := range []struct {
		what, s, want string
	}{
		{"none is turned", strings.Repeat("a1-é", many), strings.Repeat("a1-é", many)},
		{"each is turned", strings.Repeat(":", many), strings.Repeat("U00003A", many)},
		{"the first is turned", "1" + strings.Repeat("1", many), "U000031" + strings.Repeat("1", many)},
		{"the last is turned", strings.Repeat("a", many) + ":", strings.Repeat("a", many) + "U00003A"},
		{"every other is turned", strings.Repeat("a ", many), strings.Repeat("aU000020", many)},
		{"no right signs", strings.Repeat("\xff", many), strings.Repeat(badBytes, many)},
		{"what is broken at its end", strings.Repeat("a", many) + "\xe2\x82", strings.Repeat("a", many) + badBytes},
	} {
		if got := impl.NameOf(c.s); got != c.want {
			t.Errorf("%s: NameOf is %s, want %s", c.what, shortText(got), shortText(c.want))
		}
		if ok := impl.NameOk(c.s); ok != (c.s == c.want) {
			t.Errorf("%s: NameOk = %v", c.what, ok)
		}
		checkStrictName(t, c.s)
	}
}

func TestNamesAskedAtOnceAndAgain(t *testing.T) {
	for _, s := range []string{"x:y", "", "1a", "a", "\xff"} {
		want, ok := impl.NameOf(s), impl.NameOk(s)
		t.Run(fmt.Sprintf("%q", s), func(t *testing.T) {
			t.Parallel()
			for range 200 {
				impl.NameOf(":" + s)
				if impl.NameOf(s) != want || impl.NameOk(s) != ok {
					t.Fatalf("%q is told otherwise when it is asked again", s)
				}
			}
		})
	}
}
