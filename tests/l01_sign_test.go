package tests

import (
	"math"
	"slices"
	"testing"

	"loop.example/g00325/impl"
)

const badBytes = "\xef\xbf\xbd"

// plainBytes is the document's rule for a sign's bytes, worked out by its words alone.
func plainBytes(n int) string {
	switch {
	case n < 128:
		return string([]byte{byte(n)})
	case n < 2048:
		return string([]byte{byte(192 + n/64), byte(128 + n%64)})
	case n < 65536:
		return string([]byte{byte(224 + n/4096), byte(128 + n/64%64), byte(128 + n%64)})
	}
	return string([]byte{byte(240 + n/262144), byte(128 + n/4096%64), byte(128 + n/64%64), byte(128 + n%64)})
}

// signTable holds every sign by its bytes, and every text that is only the beginning of such bytes.
type signTable struct {
	whole  map[string]int
	begins map[string]bool
}

func newSignTable() signTable {
	table := signTable{whole: map[string]int{}, begins: map[string]bool{}}
	for n := range 1114112 {
		if n >= 55296 && n <= 57343 {
			continue
		}
		bytes := plainBytes(n)
		table.whole[bytes] = n
		for k := 1; k < len(bytes); k++ {
			table.begins[bytes[:k]] = true
		}
	}
	return table
}

// get is GetSign by looking up; at is a place of s.
func (table signTable) get(s string, at int) (int, int) {
	most := min(4, len(s)-at)
	for k := 1; k <= most; k++ {
		if n, ok := table.whole[s[at:at+k]]; ok {
			return n, k
		}
	}
	for k := most; k > 1; k-- {
		if table.begins[s[at:at+k]] {
			return impl.Bad, k
		}
	}
	return impl.Bad, 1
}

func (table signTable) signs(s string) []int {
	var list []int
	for at := 0; at < len(s); {
		n, many := table.get(s, at)
		list = append(list, n)
		at += many
	}
	return list
}

var noSigns = []int{
	math.MinInt, math.MinInt32, -1114111, -65, -1, 55296, 55297, 56319, 56320, 57342, 57343,
	1114112, 1114113, 2097152, math.MaxInt32, math.MaxUint32, 1<<32 + 65, 1<<32 + 8364, -1<<32 + 65, 1<<62 + 65, math.MaxInt,
}

func TestSignOk(t *testing.T) {
	for n := -3000; n < 1120000; n++ {
		want := n >= 0 && n < 55296 || n > 57343 && n < 1114112
		if impl.SignOk(n) != want {
			t.Fatalf("SignOk(%d) = %v", n, !want)
		}
	}
	for _, n := range noSigns {
		if impl.SignOk(n) {
			t.Errorf("SignOk(%d) = true", n)
		}
	}
}

func TestPutSignEdges(t *testing.T) {
	for _, c := range []struct {
		n    int
		want string
	}{
		{0, "\x00"}, {65, "A"}, {127, "\x7f"}, {128, "\xc2\x80"}, {233, "\xc3\xa9"}, {2047, "\xdf\xbf"},
		{2048, "\xe0\xa0\x80"}, {8364, "\xe2\x82\xac"}, {55295, "\xed\x9f\xbf"}, {57344, "\xee\x80\x80"},
		{65533, badBytes}, {65534, "\xef\xbf\xbe"}, {65535, "\xef\xbf\xbf"}, {65536, "\xf0\x90\x80\x80"},
		{128512, "\xf0\x9f\x98\x80"}, {1114111, "\xf4\x8f\xbf\xbf"},
	} {
		if got := impl.PutSign(c.n); got != c.want {
			t.Errorf("PutSign(%d) = %q, want %q", c.n, got, c.want)
		}
	}
	for _, n := range noSigns {
		if got := impl.PutSign(n); got != badBytes {
			t.Errorf("PutSign(%d) = %q, want Bad's bytes", n, got)
		}
	}
}

func TestEverySignIsReadAsItWas(t *testing.T) {
	for n := range 1114112 {
		if n >= 55296 && n <= 57343 {
			continue
		}
		bytes := impl.PutSign(n)
		if bytes != plainBytes(n) {
			t.Fatalf("PutSign(%d) = %q, want %q", n, bytes, plainBytes(n))
		}
		if got, many := impl.GetSign("\xe2"+bytes+"\x80", 1); got != n || many != len(bytes) {
			t.Fatalf("GetSign of %q = %d, %d, want %d, %d", bytes, got, many, n, len(bytes))
		}
		if !impl.CleanOk(bytes) || impl.Clean(bytes) != bytes {
			t.Fatalf("%q is not its Clean", bytes)
		}
	}
}

func TestGetSignWhereNoneBegins(t *testing.T) {
	for _, c := range []struct {
		s    string
		many int
	}{
		{"\x80", 1}, {"\xbf\x80", 1}, {"\xff", 1}, {"\xfe\x80", 1}, {"\xf5\x80\x80\x80", 1}, {"\xf8\x88\x80\x80\x80", 1},
		{"\xc3", 1}, {"\xc3x", 1}, {"\xc3\xc3\xa9", 1},
		{"\xe2", 1}, {"\xe2x", 1}, {"\xe2\x82", 2}, {"\xe2\x82x", 2}, {"\xe2\x82\xe2\x82\xac", 2},
		{"\xf0", 1}, {"\xf0\x90", 2}, {"\xf0\x90\x80", 3}, {"\xf0\x90\x80x", 3}, {"\xf0\x90x\x80", 2}, {"\xf4\x8f\xbf\xc0", 3},
		{"\xc0\x80", 1}, {"\xc1\xbf", 1}, {"\xe0\x80\x80", 1}, {"\xe0\x9f\xbf", 1}, {"\xf0\x80\x80\x80", 1}, {"\xf0\x8f\xbf\xbf", 1},
		{"\xe0\xa0", 2}, {"\xed\x9f", 2}, {"\xed\xa0\x80", 1}, {"\xed\xbf\xbf", 1}, {"\xee\x80", 2},
		{"\xf4\x8f", 2}, {"\xf4\x90\x80\x80", 1},
	} {
		for _, s := range []string{c.s, "\xe2\x82\xac" + c.s, "\xf0\x9f" + c.s} {
			at := len(s) - len(c.s)
			if n, many := impl.GetSign(s, at); n != impl.Bad || many != c.many {
				t.Errorf("GetSign(%q, %d) = %d, %d, want Bad, %d", s, at, n, many, c.many)
			}
		}
	}
	if n, many := impl.GetSign(badBytes, 0); n != impl.Bad || many != 3 {
		t.Errorf("GetSign of Bad's bytes = %d, %d", n, many)
	}
}

func TestGetSignAtNoPlace(t *testing.T) {
	for _, s := range []string{"", "x", "\xe2\x82\xac", "\xff"} {
		for _, at := range []int{math.MinInt, -2, -1, len(s), len(s) + 1, math.MaxInt} {
			if n, many := impl.GetSign(s, at); n != 0 || many != 0 {
				t.Errorf("GetSign(%q, %d) = %d, %d, want 0, 0", s, at, n, many)
			}
		}
	}
	if n, many := impl.GetSign("\x00", 0); n != 0 || many != 1 {
		t.Errorf("GetSign of the sign 0 = %d, %d", n, many)
	}
}

// checkText holds all that chapter 1 says of a text against the table.
func checkText(t *testing.T, table signTable, s string) {
	t.Helper()
	for at := range len(s) {
		n, many := impl.GetSign(s, at)
		if wantN, wantMany := table.get(s, at); n != wantN || many != wantMany {
			t.Fatalf("GetSign(%q, %d) = %d, %d, want %d, %d", s, at, n, many, wantN, wantMany)
		}
	}
	want := table.signs(s)
	if got := impl.Signs(s); !slices.Equal(got, want) {
		t.Fatalf("Signs(%q) = %v, want %v", s, got, want)
	}
	text := ""
	for _, n := range want {
		text += plainBytes(n)
	}
	clean := impl.Clean(s)
	if clean != text {
		t.Fatalf("Clean(%q) = %q, want %q", s, clean, text)
	}
	if impl.CleanOk(s) != (s == text) {
		t.Fatalf("CleanOk(%q) = %v", s, s != text)
	}
	if impl.Clean(clean) != clean || !impl.CleanOk(clean) || !slices.Equal(impl.Signs(clean), want) {
		t.Fatalf("%q, the Clean of %q, is not clean again", clean, s)
	}
}

// edgeBytes holds those at which what may begin or go on with a sign changes.
const edgeBytes = "\x00\x3c\x7f\x80\x8f\x90\x9f\xa0\xbf\xc0\xc1\xc2\xdf\xe0\xe1\xec\xed\xee\xef\xf0\xf1\xf3\xf4\xf5\xff"

func TestTextsOfAllBytes(t *testing.T) {
	table := newSignTable()
	checkText(t, table, "")
	for a := range 256 {
		checkText(t, table, string([]byte{byte(a)}))
		for b := range 256 {
			checkText(t, table, string([]byte{byte(a), byte(b)}))
		}
	}
	for _, a := range []byte(edgeBytes) {
		for _, b := range []byte(edgeBytes) {
			for _, c := range []byte(edgeBytes) {
				checkText(t, table, string([]byte{a, b, c}))
				if a < 0xe0 {
					continue
				}
				for _, d := range []byte(edgeBytes) {
					checkText(t, table, string([]byte{a, b, c, d}))
				}
			}
		}
	}
	state := uint32(1)
	for range 3000 {
		s := make([]byte, 24)
		for i := range s {
			state = state*1664525 + 1013904223
			s[i] = edgeBytes[int(state>>16)%len(edgeBytes)]
		}
		checkText(t, table, string(s))
	}
}

func TestSignsEdges(t *testing.T) {
	for _, c := range []struct {
		s     string
		want  []int
		clean string
	}{
		{"", nil, ""},
		{"aé€😀", []int{97, 233, 8364, 128512}, "aé€😀"},
		{"a" + badBytes + "b", []int{97, impl.Bad, 98}, "a" + badBytes + "b"},
		{"a\xe2\x82", []int{97, impl.Bad}, "a" + badBytes},
		{"\xe2\x82\xe2\x82\xac", []int{impl.Bad, 8364}, badBytes + "€"},
		{"\xf0\x90\x80\xf0\x90\xf0x", []int{impl.Bad, impl.Bad, impl.Bad, 120}, badBytes + badBytes + badBytes + "x"},
		{"\xe2\x82\x82\x82", []int{8322, impl.Bad}, "₂" + badBytes},
		{"\xed\xa0\x80", []int{impl.Bad, impl.Bad, impl.Bad}, badBytes + badBytes + badBytes},
		{"\xc0\x80", []int{impl.Bad, impl.Bad}, badBytes + badBytes},
	} {
		if got := impl.Signs(c.s); !slices.Equal(got, c.want) {
			t.Errorf("Signs(%q) = %v, want %v", c.s, got, c.want)
		}
		if got := impl.Clean(c.s); got != c.clean {
			t.Errorf("Clean(%q) = %q, want %q", c.s, got, c.clean)
		}
		if impl.CleanOk(c.s) != (c.s == c.clean) {
			t.Errorf("CleanOk(%q) = %v", c.s, c.s != c.clean)
		}
	}
}

func TestSignText(t *testing.T) {
	if got := impl.SignText(nil); got != "" {
		t.Errorf("SignText of nothing = %q", got)
	}
	if got := impl.SignText([]int{}); got != "" {
		t.Errorf("SignText of an empty list = %q", got)
	}
	if got := impl.SignText([]int{97, 233, 8364, 128512, 0}); got != "aé€😀\x00" {
		t.Errorf("SignText of signs = %q", got)
	}
	want := ""
	for range noSigns {
		want += badBytes
	}
	if got := impl.SignText(noSigns); got != want {
		t.Errorf("SignText of no signs = %q", got)
	}
	list := []int{impl.Bad, 127, 128, 2047, 2048, 55295, 57344, 65535, 65536, 1114111}
	if got := impl.Signs(impl.SignText(list)); !slices.Equal(got, list) {
		t.Errorf("Signs of SignText of %v = %v", list, got)
	}
}

func TestSignsWriteIntoNoArgument(t *testing.T) {
	room := []int{65, -1, 55296, 1114112, 7, 8, 9}
	before := slices.Clone(room)
	impl.SignText(room[:4])
	if !slices.Equal(room, before) {
		t.Errorf("SignText wrote into its list: %v", room)
	}
	s := "a\xe2\x82€"
	first := impl.Signs(s)
	for i := range first {
		first[i] = -1
	}
	if second := impl.Signs(s); !slices.Equal(second, []int{97, impl.Bad, 8364}) {
		t.Errorf("Signs answers %v after an earlier answer was written into", second)
	}
}
