package tests

import (
	"math"
	"slices"
	"testing"

	"loop.example/g00325/impl"
)

// kindSpans holds the document's spans as it writes them, in its order; a number that stands alone is both ends.
type kindSpans [][2]int

var (
	blankSpans  = kindSpans{{9, 9}, {10, 10}, {12, 12}, {13, 13}, {32, 32}}
	letterSpans = kindSpans{{65, 90}, {97, 122}}
	textSpans   = kindSpans{{9, 9}, {10, 10}, {13, 13}, {32, 55295}, {57344, 65533}, {65536, 1114111}}
	firstSpans  = kindSpans{
		{65, 90}, {97, 122}, {95, 95}, {192, 214}, {216, 246}, {248, 767}, {880, 893}, {895, 8191}, {8204, 8204}, {8205, 8205},
		{8304, 8591}, {11264, 12271}, {12289, 55295}, {63744, 64975}, {65008, 65533}, {65536, 983039},
	}
	nextSpans = append(slices.Clone(firstSpans), kindSpans{{45, 45}, {46, 46}, {48, 57}, {183, 183}, {768, 879}, {8255, 8255}, {8256, 8256}}...)
)

func (spans kindSpans) hold(n int) bool {
	for _, s := range spans {
		if n >= s[0] && n <= s[1] {
			return true
		}
	}
	return false
}

var kinds = []struct {
	name  string
	is    func(int) bool
	spans kindSpans
}{
	{"IsBlank", impl.IsBlank, blankSpans},
	{"IsLetter", impl.IsLetter, letterSpans},
	{"IsText", impl.IsText, textSpans},
	{"IsFirst", impl.IsFirst, firstSpans},
	{"IsNext", impl.IsNext, nextSpans},
}

func TestKindsOfEverySign(t *testing.T) {
	for _, k := range kinds {
		for n := -70000; n < 1200000; n++ {
			if want := k.spans.hold(n); k.is(n) != want {
				t.Fatalf("%s(%d) = %v, want %v", k.name, n, !want, want)
			}
		}
	}
}

func TestKindsOfWhatIsNoSign(t *testing.T) {
	for _, k := range kinds {
		for _, n := range noSigns {
			if k.is(n) {
				t.Errorf("%s(%d) = true", k.name, n)
			}
		}
		// Numbers that come to a sign when they are cut to fewer bits.
		for _, cut := range []int{9, 32, 65, 97, 95, 45, 8364} {
			for _, n := range []int{-cut, math.MinInt + cut, 1<<32 + cut, 1<<48 + cut, -1<<32 + cut} {
				if k.is(n) {
					t.Errorf("%s(%d) = true", k.name, n)
				}
			}
		}
	}
}

func TestKindsByHand(t *testing.T) {
	for _, c := range []struct {
		n                                int
		blank, letter, text, first, next bool
	}{
		{0, false, false, false, false, false}, {8, false, false, false, false, false},
		{9, true, false, true, false, false}, {11, false, false, false, false, false},
		{12, true, false, false, false, false}, {13, true, false, true, false, false},
		{31, false, false, false, false, false}, {32, true, false, true, false, false},
		{'-', false, false, true, false, true}, {'.', false, false, true, false, true}, {'/', false, false, true, false, false},
		{'0', false, false, true, false, true}, {'9', false, false, true, false, true}, {':', false, false, true, false, false},
		{'@', false, false, true, false, false}, {'A', false, true, true, true, true}, {'Z', false, true, true, true, true},
		{'[', false, false, true, false, false}, {'_', false, false, true, true, true}, {'`', false, false, true, false, false},
		{'a', false, true, true, true, true}, {'z', false, true, true, true, true}, {'{', false, false, true, false, false},
		{127, false, false, true, false, false}, {160, false, false, true, false, false}, {183, false, false, true, false, true},
		{215, false, false, true, false, false}, {233, false, false, true, true, true}, {247, false, false, true, false, false},
		{767, false, false, true, true, true}, {768, false, false, true, false, true}, {879, false, false, true, false, true},
		{894, false, false, true, false, false}, {8203, false, false, true, false, false}, {8206, false, false, true, false, false},
		{8255, false, false, true, false, true}, {8257, false, false, true, false, false}, {12288, false, false, true, false, false},
		{55295, false, false, true, true, true}, {55296, false, false, false, false, false}, {57343, false, false, false, false, false},
		{57344, false, false, true, false, false}, {65533, false, false, true, true, true}, {65534, false, false, false, false, false},
		{65535, false, false, false, false, false}, {65536, false, false, true, true, true}, {983039, false, false, true, true, true},
		{983040, false, false, true, false, false}, {1114111, false, false, true, false, false}, {1114112, false, false, false, false, false},
		{-1, false, false, false, false, false},
	} {
		got := [5]bool{impl.IsBlank(c.n), impl.IsLetter(c.n), impl.IsText(c.n), impl.IsFirst(c.n), impl.IsNext(c.n)}
		if got != [5]bool{c.blank, c.letter, c.text, c.first, c.next} {
			t.Errorf("kinds of %d = %v", c.n, got)
		}
	}
}

func TestWhatMayBeginMayFollow(t *testing.T) {
	begin, follow := 0, 0
	for n := -1; n < 1114113; n++ {
		if impl.IsFirst(n) {
			begin++
			if !impl.IsNext(n) || !impl.IsText(n) {
				t.Fatalf("%d may begin, but not follow or not stand in a text", n)
			}
		}
		if impl.IsNext(n) {
			follow++
			if !impl.SignOk(n) {
				t.Fatalf("%d may follow, but is no sign", n)
			}
		}
	}
	// The spans stand apart, so that their lengths add up to how many signs there are.
	if begin != spanSum(firstSpans) || follow != spanSum(nextSpans) {
		t.Errorf("%d may begin, %d may follow", begin, follow)
	}
}

func spanSum(spans kindSpans) int {
	sum := 0
	for _, s := range spans {
		sum += s[1] - s[0] + 1
	}
	return sum
}

func TestSmall(t *testing.T) {
	for _, c := range [][2]string{
		{"", ""}, {"AbZ[", "abz["}, {"@AZ[`az{", "@az[`az{"}, {"HTML5", "html5"}, {"ÄÖÜ ŻŹ \u212a İ", "ÄÖÜ ŻŹ \u212a İ"},
		{"\x00A\xffB\xc3C\xe2\x82", "\x00a\xffb\xc3c\xe2\x82"}, {"small", "small"}, {"A", "a"}, {"Z", "z"},
	} {
		if got := impl.Small(c[0]); got != c[1] {
			t.Errorf("Small(%q) = %q, want %q", c[0], got, c[1])
		}
	}
	for b := range 256 {
		s := string([]byte{'x', byte(b), 'X'})
		want := string([]byte{'x', byte(b), 'x'})
		if b >= 'A' && b <= 'Z' {
			want = string([]byte{'x', byte(b + 32), 'x'})
		}
		got := impl.Small(s)
		if got != want {
			t.Errorf("Small(%q) = %q, want %q", s, got, want)
		}
		if impl.Small(got) != got {
			t.Errorf("%q, the Small of %q, is not small again", got, s)
		}
	}
}

// plainLines is the document's rule for lines, byte by byte.
func plainLines(s string) string {
	var out []byte
	for at := 0; at < len(s); at++ {
		switch {
		case s[at] == 13 && at+1 < len(s) && s[at+1] == 10:
			out = append(out, 10)
			at++
		case s[at] == 13:
			out = append(out, 10)
		default:
			out = append(out, s[at])
		}
	}
	return string(out)
}

func TestLines(t *testing.T) {
	for _, c := range [][2]string{
		{"", ""}, {"a\nb", "a\nb"}, {"a\rb", "a\nb"}, {"a\r\nb", "a\nb"}, {"a\r\nb\rc\n", "a\nb\nc\n"},
		{"a\r", "a\n"}, {"\r", "\n"}, {"\r\n", "\n"}, {"\r\r", "\n\n"}, {"\r\r\n", "\n\n"}, {"\n\r", "\n\n"}, {"\n\r\n", "\n\n"},
		{"\r\n\n", "\n\n"}, {"\r\n\r\n", "\n\n"}, {"\r \n", "\n \n"}, {"\xff\r\xfe\r\n\xc3", "\xff\n\xfe\n\xc3"}, {"\x0b\x0c\t ", "\x0b\x0c\t "},
	} {
		if got := impl.Lines(c[0]); got != c[1] {
			t.Errorf("Lines(%q) = %q, want %q", c[0], got, c[1])
		}
	}
	texts := []string{""}
	for range 6 {
		var longer []string
		for _, s := range texts {
			for _, b := range []string{"\r", "\n", "x", "\xff"} {
				longer = append(longer, s+b)
			}
		}
		for _, s := range longer {
			got := impl.Lines(s)
			if got != plainLines(s) {
				t.Fatalf("Lines(%q) = %q, want %q", s, got, plainLines(s))
			}
			if impl.Lines(got) != got {
				t.Fatalf("Lines(%q) = %q, which has other lines again", s, got)
			}
		}
		texts = longer
	}
}
