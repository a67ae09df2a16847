package tests

import (
	"fmt"
	"slices"
	"strings"
	"testing"

	"loop.example/g00325/impl"
)

// plainTextOf is the document's rule for a strict text of those signs, by chapter 2's span as it is written there.
func plainTextOf(signs []int) string {
	text := ""
	for _, n := range signs {
		switch {
		case textSpans.hold(n):
			text += plainBytes(n)
		case n == 12:
			text += plainBytes(32)
		default:
			text += plainBytes(impl.Bad)
		}
	}
	return text
}

func plainTextOk(s string, signs []int) bool {
	clean := ""
	for _, n := range signs {
		if !textSpans.hold(n) {
			return false
		}
		clean += plainBytes(n)
	}
	return s == clean
}

// plainNoteOf tells for each byte 45 of the strict text what stands behind it there, from the end on.
func plainNoteOf(signs []int) string {
	text, note := plainTextOf(signs), ""
	for at := len(text) - 1; at >= 0; at-- {
		instead := text[at : at+1]
		if instead == "\r" {
			instead = "\n"
		}
		if instead == "-" && (at == len(text)-1 || text[at+1] == '-') {
			instead = "- "
		}
		note = instead + note
	}
	return note
}

func plainNoteOk(s string, signs []int) bool {
	for at := range len(s) {
		if s[at] == 13 || s[at] == 45 && (at == len(s)-1 || s[at+1] == 45) {
			return false
		}
	}
	return plainTextOk(s, signs)
}

// checkStrictText holds promise 14 for that text alone: what is made of it is strict, and what is strict stays.
func checkStrictText(t *testing.T, s string) {
	t.Helper()
	text, note := impl.TextOf(s), impl.NoteOf(s)
	if !impl.TextOk(text) {
		t.Fatalf("TextOf(%s) = %s, which is not TextOk", shortText(s), shortText(text))
	}
	if !impl.NoteOk(note) || !impl.TextOk(note) {
		t.Fatalf("NoteOf(%s) = %s: NoteOk is %v, TextOk %v", shortText(s), shortText(note), impl.NoteOk(note), impl.TextOk(note))
	}
	if again := impl.TextOf(text); again != text {
		t.Fatalf("TextOf(%s) = %s, and of that %s", shortText(s), shortText(text), shortText(again))
	}
	if again := impl.NoteOf(note); again != note {
		t.Fatalf("NoteOf(%s) = %s, and of that %s", shortText(s), shortText(note), shortText(again))
	}
	if ok := impl.TextOk(s); ok != (text == s) {
		t.Fatalf("TextOk(%s) = %v, TextOf is %s", shortText(s), ok, shortText(text))
	}
	if ok := impl.NoteOk(s); ok != (note == s) {
		t.Fatalf("NoteOk(%s) = %v, NoteOf is %s", shortText(s), ok, shortText(note))
	}
	if impl.NoteOk(s) && !impl.TextOk(s) {
		t.Fatalf("%s is NoteOk and not TextOk", shortText(s))
	}
	if other := impl.NoteOf(text); other != note {
		t.Fatalf("NoteOf(%s) = %s, of its TextOf %s", shortText(s), shortText(note), shortText(other))
	}
}

// checkMade holds all four functions against what is wanted of them; the text and the note are s where it is strict.
func checkMade(t *testing.T, s, text, note string) {
	t.Helper()
	if got := impl.TextOf(s); got != text {
		t.Errorf("TextOf(%s) = %s, want %s", shortText(s), shortText(got), shortText(text))
	}
	if got := impl.NoteOf(s); got != note {
		t.Errorf("NoteOf(%s) = %s, want %s", shortText(s), shortText(got), shortText(note))
	}
	if got := impl.TextOk(s); got != (s == text) {
		t.Errorf("TextOk(%s) = %v", shortText(s), got)
	}
	if got := impl.NoteOk(s); got != (s == note) {
		t.Errorf("NoteOk(%s) = %v", shortText(s), got)
	}
}

// checkTextOfSigns holds all four functions against the rules, for a text that has those signs.
func checkTextOfSigns(t *testing.T, s string, signs []int) {
	t.Helper()
	if got, want := impl.TextOf(s), plainTextOf(signs); got != want {
		t.Fatalf("TextOf(%s) = %s, want %s", shortText(s), shortText(got), shortText(want))
	}
	if got, want := impl.TextOk(s), plainTextOk(s, signs); got != want {
		t.Fatalf("TextOk(%s) = %v, want %v", shortText(s), got, want)
	}
	if got, want := impl.NoteOf(s), plainNoteOf(signs); got != want {
		t.Fatalf("NoteOf(%s) = %s, want %s", shortText(s), shortText(got), shortText(want))
	}
	if got, want := impl.NoteOk(s), plainNoteOk(s, signs); got != want {
		t.Fatalf("NoteOk(%s) = %v, want %v", shortText(s), got, want)
	}
	checkStrictText(t, s)
}

func TestStrictTextsByHand(t *testing.T) {
	for _, c := range []struct {
		s, text, note string
	}{
		{"", "", ""}, {"a", "a", "a"}, {" ", " ", " "}, {"a b", "a b", "a b"}, {"\t\n", "\t\n", "\t\n"}, {"é€😀", "é€😀", "é€😀"},
		{"a\x0cb\x01\r", "a b" + badBytes + "\r", "a b" + badBytes + "\n"}, {"a\r\n\t", "a\r\n\t", "a\n\n\t"},
		{"\x0c", " ", " "}, {"\x0c\x0c", "  ", "  "}, {" \x0c ", "   ", "   "}, {"\x0ca", " a", " a"}, {"a\x0c", "a ", "a "},
		{"\x0b", badBytes, badBytes}, {"\x0e", badBytes, badBytes}, {"\x0b\x0c\x0d\x0e", badBytes + " \r" + badBytes, badBytes + " \n" + badBytes},
		{"\x00", badBytes, badBytes}, {"\x00\x00", badBytes + badBytes, badBytes + badBytes}, {"a\x00b", "a" + badBytes + "b", "a" + badBytes + "b"},
		{"\x1f", badBytes, badBytes}, {"\x7f", "\x7f", "\x7f"}, {"\u0080\u009f", "\u0080\u009f", "\u0080\u009f"}, {"\u0085\u2028", "\u0085\u2028", "\u0085\u2028"},
		{"\ufffe", badBytes, badBytes}, {"\uffff", badBytes, badBytes}, {"a\ufffe\uffffb", "a" + badBytes + badBytes + "b", "a" + badBytes + badBytes + "b"},
		{"\U0001fffe\U0001ffff", "\U0001fffe\U0001ffff", "\U0001fffe\U0001ffff"}, {"\ufdd0\ufeff", "\ufdd0\ufeff", "\ufdd0\ufeff"},
		{badBytes, badBytes, badBytes}, {badBytes + "\x01", badBytes + badBytes, badBytes + badBytes}, {"a" + badBytes + "b", "a" + badBytes + "b", "a" + badBytes + "b"},
		{"<a b=\"1\">&amp;]]>", "<a b=\"1\">&amp;]]>", "<a b=\"1\">&amp;]]>"}, {"]]>", "]]>", "]]>"}, {"&#0;&#12;", "&#0;&#12;", "&#0;&#12;"},
		{"-->", "-->", "- ->"}, {"<!-- a -->", "<!-- a -->", "<!- - a - ->"}, {"->", "->", "->"}, {">", ">", ">"}, {"--!>", "--!>", "- -!>"},
	} {
		checkMade(t, c.s, c.text, c.note)
		checkTextOfSigns(t, c.s, impl.Signs(c.s))
	}
}

func TestTextOkByHand(t *testing.T) {
	for s, want := range map[string]bool{
		"": true, "a": true, "a\r\n\t": true, "\r": true, "\n": true, "\t": true, " ": true, "-": true, "--": true, "-->": true, badBytes: true, "é": true, "\x7f": true,
		"\x0c": false, "\x0b": false, "\x0e": false, "\x08": false, "\x1f": false, "\x00": false, "a\x0c": false, "\x0ca": false, "a\x0cb": false, "\ufffe": false, "\uffff": false,
		"\xff": false, "a\xff": false, "\xffa": false, "a\xffb": false, "a\xe2\x82": false, "\xe2\x82a": false, "\x80": false, badBytes + "\xff": false,
	} {
		if got := impl.TextOk(s); got != want {
			t.Errorf("TextOk(%q) = %v, want %v", s, got, want)
		}
	}
}

func TestNoteOkByHand(t *testing.T) {
	for s, want := range map[string]bool{
		"": true, "-a": true, "a": true, "a-b": true, "- ": true, "- -a": true, "- - ": true, "-\n-a": true, "->": true, ">": true, "-" + badBytes + "-a": true, "\n": true, "\t": true,
		"a--b": false, "-": false, "--": false, "---": false, "a-": false, "--a": false, "a--": false, "- -": false, "-a-": false, "a---b": false, "-->": false,
		"\r": false, "a\r": false, "\ra": false, "a\rb": false, "a\r\n": false, "\n\r": false, "-\r": false, "\r-a": false,
		"\x0c": false, "-\x0c": false, "\x01": false, "a\x00b": false, "\ufffe": false, "\xff": false, "a\xff": false, "\xffa": false, "-\xff": false, "-\xff-a": false,
	} {
		if got := impl.NoteOk(s); got != want {
			t.Errorf("NoteOk(%q) = %v, want %v", s, got, want)
		}
	}
}

func TestTextsAtTheEndsOfSpans(t *testing.T) {
	edges := spanEdges(textSpans)
	for _, n := range []int{8, 9, 10, 11, 12, 13, 14, 31, 32, 33, 55294, 55295, 57344, 57345, 65532, 65533, 65534, 65535, 65536, 65537, 1114110, 1114111} {
		if !slices.Contains(edges, n) {
			t.Fatalf("%d is not among the signs to try: %v", n, edges)
		}
	}
	for _, n := range edges {
		sign := plainBytes(n)
		text := plainTextOf([]int{n})
		note := strings.ReplaceAll(text, "\r", "\n")
		for _, c := range [][2]string{{"", ""}, {"", "a"}, {"a", ""}, {"a", "b"}, {"é", "😀"}, {"-", "-a"}, {" ", " "}, {"\n", "\n"}, {badBytes, badBytes}} {
			checkMade(t, c[0]+sign+c[1], c[0]+text+c[1], c[0]+note+c[1])
			checkMade(t, c[0]+sign+sign+c[1], c[0]+text+text+c[1], c[0]+note+note+c[1])
			checkStrictText(t, c[0]+sign+c[1])
		}
		checkMade(t, "\xff"+sign+"\x01", badBytes+text+badBytes, badBytes+note+badBytes)
		checkMade(t, sign+"a"+sign+"\x0c"+sign, text+"a"+text+" "+text, note+"a"+note+" "+note)
	}
}

func TestTextsOfEverySign(t *testing.T) {
	turned := 0
	for n := range 1114112 {
		if n >= 55296 && n <= 57343 {
			continue
		}
		sign := plainBytes(n)
		text := sign
		if !textSpans.hold(n) {
			text = plainTextOf([]int{n})
			turned++
		}
		note := text
		if n == 13 {
			note = "\n"
		}
		checkMade(t, "-"+sign+"a", "-"+text+"a", strings.ReplaceAll("-"+note+"a", "--", "- -"))
		if n != 45 {
			checkMade(t, sign, text, note)
		}
		if t.Failed() {
			t.Fatalf("at the sign %d", n)
		}
	}
	if turned != 29+2 {
		t.Error("signs that may not stand:", turned)
	}
}

func TestTwoBytes45(t *testing.T) {
	for _, c := range []struct {
		s, text, note string
	}{
		// Alone, and how many there are.
		{"-", "-", "- "}, {"--", "--", "- - "}, {"---", "---", "- - - "}, {"----", "----", "- - - - "}, {"-----", "-----", "- - - - - "},
		// At the beginning, in the middle, at the end.
		{"-a", "-a", "-a"}, {"--a", "--a", "- -a"}, {"---a", "---a", "- - -a"}, {"a-b", "a-b", "a-b"}, {"a--b", "a--b", "a- -b"}, {"a---b", "a---b", "a- - -b"},
		{"a-", "a-", "a- "}, {"a--", "a--", "a- - "}, {"a---", "a---", "a- - - "}, {"--a-", "--a-", "- -a- "}, {"-a-", "-a-", "-a- "}, {"-a-b", "-a-b", "-a-b"},
		{"--a--b--", "--a--b--", "- -a- -b- - "}, {"a--b-c--d", "a--b-c--d", "a- -b-c- -d"},
		// A blank between or behind, another sign than 45 that looks like it.
		{"- ", "- ", "- "}, {"-  ", "-  ", "-  "}, {"- -", "- -", "- - "}, {"- - ", "- - ", "- - "}, {"-- ", "-- ", "- - "}, {" -", " -", " - "}, {"- --", "- --", "- - - "}, {"-- -", "-- -", "- - - "},
		{"-\t-a", "-\t-a", "-\t-a"}, {"-\n", "-\n", "-\n"}, {"-\n-", "-\n-", "-\n- "}, {"–", "–", "–"}, {"––", "––", "––"}, {"-–", "-–", "-–"}, {"\u00ad\u00ad", "\u00ad\u00ad", "\u00ad\u00ad"}, {",,..", ",,..", ",,.."},
		// A byte 12.
		{"-\x0c", "- ", "- "}, {"-\x0c-", "- -", "- - "}, {"-\x0c-a", "- -a", "- -a"}, {"--\x0c", "-- ", "- - "}, {"\x0c-", " -", " - "}, {"\x0c--a", " --a", " - -a"},
		// A byte 13.
		{"-\r", "-\r", "-\n"}, {"-\r-", "-\r-", "-\n- "}, {"-\r-a", "-\r-a", "-\n-a"}, {"--\r", "--\r", "- -\n"}, {"\r-", "\r-", "\n- "}, {"\r--", "\r--", "\n- - "}, {"-\r\n-", "-\r\n-", "-\n\n- "},
		// A sign that is not IsText.
		{"-\x01", "-" + badBytes, "-" + badBytes}, {"-\x01-", "-" + badBytes + "-", "-" + badBytes + "- "}, {"-\x00-a", "-" + badBytes + "-a", "-" + badBytes + "-a"},
		{"--\ufffe", "--" + badBytes, "- -" + badBytes}, {"\uffff--", badBytes + "--", badBytes + "- - "},
		// A broken byte.
		{"-\xff", "-" + badBytes, "-" + badBytes}, {"-\xff-", "-" + badBytes + "-", "-" + badBytes + "- "}, {"-\xe2\x82-a", "-" + badBytes + "-a", "-" + badBytes + "-a"},
		{"--\x80", "--" + badBytes, "- -" + badBytes}, {"\xc3--", badBytes + "--", badBytes + "- - "}, {"\xc3-", badBytes + "-", badBytes + "- "}, {"-\xf0\x9f\x98--", "-" + badBytes + "--", "-" + badBytes + "- - "},
	} {
		checkMade(t, c.s, c.text, c.note)
		checkTextOfSigns(t, c.s, impl.Signs(c.s))
	}
}

func TestRowsOfBytes45(t *testing.T) {
	for many := range 40 {
		row, apart := strings.Repeat("-", many), strings.Repeat("- ", many)
		// The last one of a row stands alone where something else is behind it.
		ahead := strings.TrimSuffix(apart, " ")
		checkMade(t, row, row, apart)
		checkMade(t, "a"+row, "a"+row, "a"+apart)
		checkMade(t, row+"a", row+"a", ahead+"a")
		checkMade(t, "a"+row+"b", "a"+row+"b", "a"+ahead+"b")
		checkMade(t, row+"\r"+row, row+"\r"+row, ahead+"\n"+apart)
		checkMade(t, row+"\x0c"+row, row+" "+row, ahead+" "+apart)
		checkMade(t, row+"\xff"+row, row+badBytes+row, ahead+badBytes+apart)
		checkMade(t, apart, apart, apart)
	}
}

func TestLinesOfStrictTexts(t *testing.T) {
	for _, c := range []struct {
		s, text, note string
	}{
		{"\r", "\r", "\n"}, {"\n", "\n", "\n"}, {"\r\n", "\r\n", "\n\n"}, {"\n\r", "\n\r", "\n\n"}, {"\r\r", "\r\r", "\n\n"}, {"\r\r\n", "\r\r\n", "\n\n\n"}, {"\n\r\n", "\n\r\n", "\n\n\n"},
		{"a\r", "a\r", "a\n"}, {"a\n", "a\n", "a\n"}, {"a\r\n", "a\r\n", "a\n\n"}, {"a\n\r", "a\n\r", "a\n\n"}, {"x\ry", "x\ry", "x\ny"}, {"x\r\ny", "x\r\ny", "x\n\ny"}, {"\rx", "\rx", "\nx"},
		{"\n-", "\n-", "\n- "}, {"\r\n-a", "\r\n-a", "\n\n-a"}, {"-\n\r-", "-\n\r-", "-\n\n- "}, {"a-\r\n", "a-\r\n", "a-\n\n"}, {"\x0c\r", " \r", " \n"}, {"\r\x0c", "\r ", "\n "},
		{"\r\x01", "\r" + badBytes, "\n" + badBytes}, {"\xff\r", badBytes + "\r", badBytes + "\n"}, {"&#13;", "&#13;", "&#13;"},
	} {
		checkMade(t, c.s, c.text, c.note)
		checkTextOfSigns(t, c.s, impl.Signs(c.s))
	}
}

func TestTextsOfWhatIsNoRightSign(t *testing.T) {
	// Each with how many times it is read as Bad.
	for broken, many := range map[string]int{
		"\xff": 1, "\x80": 1, "\xbf": 1, "\xc3": 1, "\xe2\x82": 1, "\xf0\x9f\x98": 1, "\xc0\x80": 2, "\xc0\xad": 2, "\xc0\x8d": 2, "\xed\xa0\x80": 3, "\xf4\x90\x80\x80": 4,
		"\xff\xff": 2, "\xe2\x82\xe2\x82": 2, "\xf0\x90\xf0": 2, "\x80\x80\x80": 3, "\xfe\xff\xc3": 3, "\xef\xbf": 1, "\xe0\x80\xad": 3,
	} {
		bad := strings.Repeat(badBytes, many)
		for _, c := range []struct {
			s, text, note string
		}{
			{broken, bad, bad}, {broken + "a", bad + "a", bad + "a"}, {"a" + broken, "a" + bad, "a" + bad}, {"a" + broken + "b", "a" + bad + "b", "a" + bad + "b"},
			{broken + "-", bad + "-", bad + "- "}, {"-" + broken, "-" + bad, "-" + bad}, {"-" + broken + "--", "-" + bad + "--", "-" + bad + "- - "},
			{broken + "\r", bad + "\r", bad + "\n"}, {"\r" + broken + "\n", "\r" + bad + "\n", "\n" + bad + "\n"}, {broken + "\x0c" + broken, bad + " " + bad, bad + " " + bad},
			{broken + "\x01" + broken, bad + badBytes + bad, bad + badBytes + bad}, {"é" + broken + "é", "é" + bad + "é", "é" + bad + "é"}, {badBytes + broken, badBytes + bad, badBytes + bad},
		} {
			checkMade(t, c.s, c.text, c.note)
			checkStrictText(t, c.s)
			if impl.TextOk(c.s) || impl.NoteOk(c.s) {
				t.Errorf("%q is no right text, TextOk is %v, NoteOk %v", c.s, impl.TextOk(c.s), impl.NoteOk(c.s))
			}
		}
	}
}

func TestStrictTextsOfAllBytes(t *testing.T) {
	table := newSignTable()
	for a := range 256 {
		for b := range 256 {
			for _, s := range []string{string([]byte{byte(a)}), string([]byte{byte(a), byte(b)}), string([]byte{'-', byte(a), byte(b)}), string([]byte{byte(a), byte(b), '-'})} {
				checkTextOfSigns(t, s, table.signs(s))
			}
		}
	}
	for _, a := range []byte(edgeBytes) {
		for _, b := range []byte(edgeBytes) {
			for _, c := range []byte(edgeBytes) {
				for _, s := range []string{string([]byte{a, b, c}), string([]byte{a, b, c, '-'}), string([]byte{'\r', a, b, c})} {
					checkTextOfSigns(t, s, table.signs(s))
				}
			}
		}
	}
}

// mildPieces holds signs of every kind: those that may stand, turn to a blank, to a line, to Bad, part others, and what is none.
var mildPieces = []string{
	"a", "-", "--", " ", "\t", "\n", "\x0c", "\r", "\x0b", "\x00", "é", "😀", badBytes, "\ufffe", "\U0010ffff", "\xff", "\xe2\x82", ">",
}

func TestTextsOfEveryKindOfPiece(t *testing.T) {
	kept := [3]int{}
	eachText(mildPieces, 4, func(s string) {
		checkTextOfSigns(t, s, impl.Signs(s))
		switch {
		case impl.NoteOk(s):
			kept[2]++
		case impl.TextOk(s):
			kept[1]++
		default:
			kept[0]++
		}
	})
	if kept[0] == 0 || kept[1] == 0 || kept[2] == 0 {
		t.Errorf("%d texts are not strict, %d are, but as a note, %d as a note, too", kept[0], kept[1], kept[2])
	}
	eachText([]string{"-", " ", "\r", "\x0c", "\x01", "a"}, 6, func(s string) { checkTextOfSigns(t, s, impl.Signs(s)) })
}

func TestLongTexts(t *testing.T) {
	for seed := range 300 {
		s := longPage(mildPieces, 5+seed, seed)
		checkTextOfSigns(t, s, impl.Signs(s))
	}
	const many = 200000
	times := func(s string) string { return strings.Repeat(s, many) }
	for what, c := range map[string][3]string{
		"none is turned":            {times("a-é\n"), times("a-é\n"), times("a-é\n")},
		"each is turned":            {times("\x01"), times(badBytes), times(badBytes)},
		"bytes 12":                  {times("\x0c"), times(" "), times(" ")},
		"bytes 13":                  {times("\r"), times("\r"), times("\n")},
		"bytes 45":                  {times("-"), times("-"), times("- ")},
		"the first is turned":       {"\x00" + times("a"), badBytes + times("a"), badBytes + times("a")},
		"the last is turned":        {times("a") + "\x0c", times("a") + " ", times("a") + " "},
		"a byte 45 at the end":      {times("a") + "-", times("a") + "-", times("a") + "- "},
		"every other is turned":     {times("a\x0b"), times("a" + badBytes), times("a" + badBytes)},
		"no right signs":            {times("\xff"), times(badBytes), times(badBytes)},
		"what is broken at its end": {times("-a") + "\xe2\x82", times("-a") + badBytes, times("-a") + badBytes},
	} {
		t.Run(what, func(t *testing.T) {
			checkMade(t, c[0], c[1], c[2])
			checkStrictText(t, c[0])
		})
	}
}

func TestTextsAskedAtOnceAndAgain(t *testing.T) {
	for _, s := range []string{"--a-", "", "a\x0cb\x01\r", "a", "\xff-"} {
		text, note, textOk, noteOk := impl.TextOf(s), impl.NoteOf(s), impl.TextOk(s), impl.NoteOk(s)
		t.Run(fmt.Sprintf("%q", s), func(t *testing.T) {
			t.Parallel()
			for range 200 {
				impl.NoteOf("-" + s)
				if impl.TextOf(s) != text || impl.NoteOf(s) != note || impl.TextOk(s) != textOk || impl.NoteOk(s) != noteOk {
					t.Fatalf("%q is told otherwise when it is asked again", s)
				}
			}
		})
	}
}
