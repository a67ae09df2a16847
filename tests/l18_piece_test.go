package tests

import (
	"encoding/xml"
	"fmt"
	"math"
	"slices"
	"strconv"
	"strings"
	"testing"

	"loop.example/g00325/impl"
)

// endsToTry are ends of texts: the two that a strict text has, none, several, bytes that stand in longer signs, in references, in `]]>`.
var endsToTry = []string{"<", "\"", "", "<\"", "\"\t\n", "&", ";", "m", "#", "1", ">", "]", "a", "\xa9", "\xc3", "é", "\xbd", "\xff", "\x80", "\x00", "\r", "\x01", "<<", "\"&<;]>"}

// piecesToTry holds pieces of every kind: of names, references right and wrong, texts, values, notes, and what is no right sign.
var piecesToTry = []string{
	"a", "b-1.", "é", "😀", "·", badBytes, "=", "\"", "=\"", "k=\"v\"", "'", " ", "\t", "\n", "\r", "&", "&amp;", "&lt;", "&quot;", "&AMP;", "&#65;", "&#9;", "&#10;", "&#13;", "&#0;", "&#065;", "&#x41;", "&#65", ";", "#",
	"<", ">", "]", "]]", "]]>", "<!--", "-->", "--", "-", "<!---->", "<!--n-->", "\x01", "\x0c", "\ufffe", "\U0010ffff", "\xff", "\xe2\x82", "\xc3", "\xa9", "\xf0\x9f\x98",
}

// checkName holds XmlName at that place against the rule, and what is promised of it.
func checkName(t *testing.T, s string, at int) {
	t.Helper()
	name, behind := impl.XmlName(s, at)
	if wantName, want := plainXmlName(s, at); name != wantName || behind != want {
		t.Fatalf("XmlName(%s, %d) = %s, %d, want %s, %d", shortText(s), at, shortText(name), behind, shortText(wantName), want)
	}
	if (name == "") != (behind == at) || name != "" && (!impl.NameOk(name) || s[at:behind] != name) {
		t.Fatalf("XmlName(%s, %d) = %s, %d", shortText(s), at, shortText(name), behind)
	}
}

// checkRefRead holds XmlRef at that place against the rule, and what is promised of it.
func checkRefRead(t *testing.T, s string, at int) {
	t.Helper()
	text, behind := impl.XmlRef(s, at)
	if wantText, want := plainXmlRef(s, at); text != wantText || behind != want {
		t.Fatalf("XmlRef(%s, %d) = %s, %d, want %s, %d", shortText(s), at, shortText(text), behind, shortText(wantText), want)
	}
	if (text == "") != (behind == -1) || text != "" && (!impl.TextOk(text) || len(impl.Signs(text)) != 1) {
		t.Fatalf("XmlRef(%s, %d) = %s, %d", shortText(s), at, shortText(text), behind)
	}
}

// checkTextRead holds XmlText at that place and up to that end against the rule, and what is promised of it.
func checkTextRead(t *testing.T, s string, at int, end string) {
	t.Helper()
	text, stop := impl.XmlText(s, at, end)
	if wantText, want := plainXmlText(s, at, end); text != wantText || stop != want {
		t.Fatalf("XmlText(%s, %d, %q) = %s, %d, want %s, %d", shortText(s), at, end, shortText(text), stop, shortText(wantText), want)
	}
	switch {
	case stop == -1:
		if text != "" {
			t.Fatalf("XmlText(%s, %d, %q) = %s, -1", shortText(s), at, end, shortText(text))
		}
	case !impl.TextOk(text) || stop < at || stop > len(s) || stop < len(s) && strings.IndexByte(end, s[stop]) < 0:
		t.Fatalf("XmlText(%s, %d, %q) = %s, %d", shortText(s), at, end, shortText(text), stop)
	}
}

// checkAttrRead holds XmlAttr at that place against the rule, and what is promised of it.
func checkAttrRead(t *testing.T, s string, at int) {
	t.Helper()
	attr, behind := impl.XmlAttr(s, at)
	if wantAttr, want := plainXmlAttr(s, at); attr != wantAttr || behind != want {
		t.Fatalf("XmlAttr(%s, %d) = %q, %d, want %q, %d", shortText(s), at, attr, behind, wantAttr, want)
	}
	switch {
	case behind == -1:
		if attr != (impl.Attr{}) {
			t.Fatalf("XmlAttr(%s, %d) = %q, -1", shortText(s), at, attr)
		}
	case !impl.NameOk(attr.Name) || !impl.TextOk(attr.Value) || s[behind-1] != '"':
		t.Fatalf("XmlAttr(%s, %d) = %q, %d", shortText(s), at, attr, behind)
	}
}

// checkNoteRead holds XmlNote at that place against the rule, and what is promised of it.
func checkNoteRead(t *testing.T, s string, at int) {
	t.Helper()
	note, behind := impl.XmlNote(s, at)
	if wantNote, want := plainXmlNote(s, at); note != wantNote || behind != want {
		t.Fatalf("XmlNote(%s, %d) = %s, %d, want %s, %d", shortText(s), at, shortText(note), behind, shortText(wantNote), want)
	}
	if behind == -1 && note != "" || behind >= 0 && (!impl.NoteOk(note) || s[at:behind] != "<!--"+note+"-->") {
		t.Fatalf("XmlNote(%s, %d) = %s, %d", shortText(s), at, shortText(note), behind)
	}
}

// checkPieces holds all five against the rules at all places to try.
func checkPieces(t *testing.T, s string, ends ...string) {
	t.Helper()
	for _, at := range placesToTry(s) {
		checkName(t, s, at)
		checkRefRead(t, s, at)
		checkAttrRead(t, s, at)
		checkNoteRead(t, s, at)
		for _, end := range ends {
			checkTextRead(t, s, at, end)
		}
	}
}

func TestNamesReadByHand(t *testing.T) {
	for _, c := range []struct {
		s      string
		at     int
		name   string
		behind int
	}{
		// At the beginning of a name, within it, behind it.
		{"ab.c=1", 0, "ab.c", 4}, {"ab.c=1", 1, "b.c", 4}, {"ab.c=1", 2, "", 2}, {"ab.c=1", 3, "c", 4}, {"ab.c=1", 4, "", 4}, {"ab.c=1", 5, "", 5},
		{"<p a=\"b\">", 1, "p", 2}, {"<p a=\"b\">", 2, "", 2}, {"<p a=\"b\">", 3, "a", 4}, {"<p a=\"b\">", 0, "", 0}, {"<p/>", 1, "p", 2}, {"</p>", 2, "p", 3}, {"<p>", 1, "p", 2}, {"a b", 0, "a", 1},
		// No places, and the end.
		{"ab", 2, "", 2}, {"ab", 3, "", 3}, {"ab", -1, "", -1}, {"ab", -2, "", -2}, {"ab", math.MaxInt, "", math.MaxInt}, {"ab", math.MinInt, "", math.MinInt}, {"ab", 1 << 32, "", 1 << 32},
		{"", 0, "", 0}, {"", 1, "", 1}, {"", -1, "", -1}, {"", math.MaxInt, "", math.MaxInt}, {"", math.MinInt, "", math.MinInt},
		// Up to the end of s.
		{"a", 0, "a", 1}, {"=abc", 1, "abc", 4}, {"abc", 2, "c", 3}, {"aé", 0, "aé", 3}, {"éa", 0, "éa", 3}, {"a-", 0, "a-", 2},
		// What may begin, and what may only follow.
		{"_", 0, "_", 1}, {"A1", 0, "A1", 2}, {"1a", 0, "", 0}, {"-a", 0, "", 0}, {".a", 0, "", 0}, {"·a", 0, "", 0}, {"a·b", 0, "a·b", 4}, {"\u0300a", 0, "", 0}, {"a\u0300", 0, "a\u0300", 3}, {"a1-.·\u203f", 0, "a1-.·\u203f", 9},
		{"a:b", 0, "a", 1}, {":a", 0, "", 0}, {"xmlns", 0, "xmlns", 5}, {"xmlns:a", 0, "xmlns", 5}, {"a×", 0, "a", 1}, {"a÷b", 0, "a", 1}, {"a→b", 0, "a", 1}, {"日本=", 0, "日本", 6}, {"a\u3000", 0, "a", 1}, {"\U000effff", 0, "\U000effff", 4}, {"a\U000f0000", 0, "a", 1},
		// In the middle of a sign.
		{"é1", 1, "", 1}, {"é1", 2, "", 2}, {"éa", 1, "", 1}, {"éa", 2, "a", 3}, {"\U000effffa", 1, "", 1}, {"\U000effffa", 3, "", 3}, {"\U000effffa", 4, "a", 5}, {badBytes, 1, "", 1}, {badBytes, 2, "", 2},
		// A sign that is none, at the place, behind it, ahead of it; Bad itself may stand.
		{"\xff", 0, "", 0}, {"\xffa", 0, "", 0}, {"\xffa", 1, "a", 2}, {"a\xff", 0, "a", 1}, {"a\xffb", 0, "a", 1}, {"ab\xe2\x82", 0, "ab", 2}, {"a\xe2\x82b", 0, "a", 1}, {"\xe2\x82b", 0, "", 0}, {"a\xc3", 0, "a", 1}, {"\x80a", 0, "", 0},
		{"\xf0\x9f\x98", 0, "", 0}, {"a\xf0\x9f\x98", 0, "a", 1}, {"a\xf0\x9f\x98b", 0, "a", 1}, {"\xf0\x9f\x98b", 0, "", 0}, {"\xf0\x9f\x98b", 3, "b", 4}, {"a\xed\xa0\x80", 0, "a", 1}, {"a\xf4\x90\x80\x80", 0, "a", 1}, {"a\xc1\xa1", 0, "a", 1},
		{badBytes, 0, badBytes, 3}, {"a" + badBytes + "b=", 0, "a" + badBytes + "b", 5}, {badBytes + "\xff", 0, badBytes, 3}, {"\xff" + badBytes, 0, "", 0}, {"\xff" + badBytes, 1, badBytes, 4}, {badBytes + "\xf0\x9f\x98", 0, badBytes, 3},
		{"a\ufffe", 0, "a", 1}, {"a\x00", 0, "a", 1}, {"\x00a", 0, "", 0}, {"a\x0c", 0, "a", 1},
	} {
		if name, behind := impl.XmlName(c.s, c.at); name != c.name || behind != c.behind {
			t.Errorf("XmlName(%q, %d) = %q, %d, want %q, %d", c.s, c.at, name, behind, c.name, c.behind)
		}
		checkPieces(t, c.s, "<")
	}
}

func TestRefsReadByHand(t *testing.T) {
	for s, want := range map[string]string{
		"&amp;": "&", "&lt;": "<", "&gt;": ">", "&quot;": "\"", "&apos;": "'",
		"&#9;": "\t", "&#10;": "\n", "&#13;": "\r", "&#32;": " ", "&#65;": "A", "&#60;": "<", "&#38;": "&", "&#127;": "\x7f", "&#128;": "\u0080", "&#150;": "\u0096", "&#233;": "é", "&#8364;": "€", "&#65533;": badBytes, "&#65536;": "\U00010000", "&#128512;": "😀", "&#1114111;": "\U0010ffff", "&#1000000;": "\U000f4240", "&#55295;": "\ud7ff", "&#57344;": "\ue000",
	} {
		for _, c := range [][2]string{{"", ""}, {"", "x"}, {"", ";"}, {"", "&"}, {"", "\xff"}, {"x", ""}, {"&", "amp;"}, {"\xff", "\xff"}, {"&amp;", "&amp;"}, {"\xe2\x82", "\xac"}, {"é", "é"}} {
			whole, at := c[0]+s+c[1], len(c[0])
			if text, behind := impl.XmlRef(whole, at); text != want || behind != at+len(s) {
				t.Errorf("XmlRef(%q, %d) = %q, %d, want %q, %d", whole, at, text, behind, want, at+len(s))
			}
			if text, behind := impl.XmlRef(whole, at+1); text != "" || behind != -1 {
				t.Errorf("XmlRef(%q, %d) = %q, %d", whole, at+1, text, behind)
			}
		}
		checkPieces(t, s, "<", ";", "")
	}
	for _, s := range []string{
		"", "x", "&", "&;", "&&", "& ", "amp;", ";", "#65;", "\xff", "é", "\x26\xff;",
		// No end, or another one.
		"&amp", "&lt", "&gt ", "&quot", "&apos:", "&#65", "&#65:", "&#65 ;", "&amp ;", "& amp;", "&#6 5;", "&amp&amp;", "&#65&#65;",
		// Other names, in capitals, and such as begin like one of the five.
		"&AMP;", "&Amp;", "&LT;", "&Lt;", "&GT;", "&QUOT;", "&APOS;", "&aMP;", "&amp1;", "&ampa;", "&amp.;", "&lte;", "&ltt;", "&gte;", "&quote;", "&apost;", "&am;", "&a;", "&l;", "&g;", "&quo;", "&apo;", "&nbsp;", "&copy;", "&euro;", "&not;", "&notin;", "&hellip;", "&reg;", "&times;", "&mdash;", "&amp\x00;", "&amp\xff;", "&é;",
		// Noughts ahead.
		"&#0;", "&#00;", "&#01;", "&#065;", "&#0065;", "&#00000065;", "&#0000065;", "&#009;", "&#013;", "&#00000000000000000065;", "&#0x41;", "&#01114111;",
		// No digits, other ones, too many.
		"&#;", "&#", "&#x;", "&#x41;", "&#X41;", "&#xA;", "&#4A;", "&#a;", "&#6f;", "&#-65;", "&#+65;", "&#6_5;", "&#65.;", "&#6.5;", "&# 65;", "&##65;", "&#\u0666;", "&#６５;", "&#65\xff;", "&#\xff;", "&#65\x00;",
		"&#99999999;", "&#10000000;", "&#11141110;", "&#18446744073709551681;", "&#4294967361;", "&#9223372036854775808;", "&#" + strings.Repeat("9", 1000) + ";", "&#65" + strings.Repeat("0", 1000) + ";",
		// No signs, and signs that are not IsText.
		"&#1;", "&#8;", "&#11;", "&#12;", "&#14;", "&#31;", "&#55296;", "&#56000;", "&#57343;", "&#65534;", "&#65535;", "&#1114112;", "&#1114113;", "&#2097152;", "&#9999999;", "&#1114175;",
	} {
		for _, whole := range []string{s, s + "x", s + "\xff", s + "é"} {
			if text, behind := impl.XmlRef(whole, 0); text != "" || behind != -1 {
				t.Errorf("XmlRef(%q, 0) = %q, %d", whole, text, behind)
			}
		}
		if text, behind := impl.XmlRef("&lt;"+s, 4); text != "" || behind != -1 {
			t.Errorf("XmlRef(%q, 4) = %q, %d", "&lt;"+s, text, behind)
		}
		// The rules try all places and all ends: they are not for very long texts.
		if len(s) < 100 {
			checkPieces(t, s, "<", ";", "")
		}
	}
	for _, at := range []int{-1, 5, 6, 7, math.MaxInt, math.MinInt, 1 << 32, -5, -4} {
		if text, behind := impl.XmlRef("&amp;", at); text != "" || behind != -1 {
			t.Errorf("XmlRef at %d = %q, %d", at, text, behind)
		}
	}
}

// TestEveryNumberRead asks for each number, plainly, with a nought ahead, and in a text.
func TestEveryNumberRead(t *testing.T) {
	read := 0
	for n := range 1120000 {
		digits := strconv.Itoa(n)
		want, behind := "", -1
		if textSpans.hold(n) {
			want, behind = plainBytes(n), len(digits)+3
			read++
		}
		if text, got := impl.XmlRef("&#"+digits+";", 0); text != want || got != behind {
			t.Fatalf("XmlRef of the number %d = %q, %d, want %q, %d", n, text, got, want, behind)
		}
		if text, got := impl.XmlRef("&#0"+digits+";", 0); text != "" || got != -1 {
			t.Fatalf("XmlRef of the number 0%d = %q, %d", n, text, got)
		}
		if n%7 == 0 || n < 3000 {
			if text, got := impl.XmlText("&#"+digits+";<", 0, "<"); text != want || got != behind {
				t.Fatalf("XmlText of the number %d = %q, %d, want %q, %d", n, text, got, want, behind)
			}
		}
	}
	if read != 1112064-29-2 {
		t.Error("numbers that are read:", read)
	}
	for long := 1; long < 30; long++ {
		for _, digit := range "0123456789" {
			checkRefRead(t, "&#1"+strings.Repeat(string(digit), long-1)+";", 0)
			checkRefRead(t, "&#"+strings.Repeat(string(digit), long)+";", 0)
		}
	}
}

func TestTextsReadByHand(t *testing.T) {
	const refused = -1
	for _, c := range []struct {
		s    string
		at   int
		end  string
		text string
		stop int
	}{
		// Up to a byte 60, a byte 34, the end of s.
		{"a&lt;b<c", 0, "<", "a<b", 6}, {"abc<d", 0, "<", "abc", 3}, {"abc\"d", 0, "\"", "abc", 3}, {"abc", 0, "<", "abc", 3}, {"abc", 0, "\"", "abc", 3}, {"abc", 1, "<", "bc", 3}, {"a\"b<c", 0, "<", "a\"b", 3}, {"a>b'c", 0, "<", "a>b'c", 5}, {"a<b<c", 2, "<", "b", 3}, {"k=\"v&quot;w\" x", 3, "\"", "v\"w", 11},
		{"&amp;&lt;&gt;&quot;&apos;&#233;&#13;&#9;&#10;<", 0, "<", "&<>\"'é\r\t\n", 45}, {"&amp;amp;", 0, "<", "&amp;", 9}, {"&amp;#65;", 0, "", "&#65;", 9}, {"é€😀<", 0, "<", "é€😀", 9}, {badBytes, 0, "<", badBytes, 3}, {"\x7f\u0085", 0, "<", "\x7f\u0085", 3},
		// The end at the place itself, and places at the end of s and beyond.
		{"<", 0, "<", "", 0}, {"a<", 1, "<", "", 1}, {"\"", 0, "\"", "", 0}, {"<\xff", 0, "<", "", 0}, {"", 0, "<", "", 0}, {"", 0, "", "", 0}, {"abc", 3, "<", "", 3}, {"abc", 3, "", "", 3}, {"abc", 3, "c", "", 3},
		{"abc", 4, "<", "", refused}, {"abc", -1, "<", "", refused}, {"abc", -1, "", "", refused}, {"", 1, "<", "", refused}, {"", -1, "<", "", refused}, {"abc", math.MaxInt, "<", "", refused}, {"abc", math.MinInt, "<", "", refused}, {"abc", math.MaxInt, "", "", refused}, {"abc", 1 << 32, "", "", refused},
		// Other ends: none, two bytes, a byte 38, bytes of references.
		{"a\"b", 0, "", "a\"b", 3}, {"a<b", 0, "", "", refused}, {"a&lt;b", 0, "", "a<b", 6}, {"a\"b<c", 0, "<\"", "a", 1}, {"a<b\"c", 0, "<\"", "a", 1}, {"a<b\"c", 2, "<\"", "b", 3}, {"abcd", 0, "dc", "ab", 2}, {"a&amp;b", 0, "&", "a", 1}, {"&x", 0, "&", "", 0}, {"a&b", 0, "&", "a", 1},
		{"a;b", 0, ";", "a", 1}, {"&amp;b", 0, ";", "", refused}, {"&amp;b", 0, "p", "", refused}, {"&amp;b", 0, "b", "&", 5}, {"&#65;x", 0, "5", "", refused}, {"&#65;x", 0, "#", "", refused}, {"a&#65;", 0, "a", "", 0}, {"x&amp;a;", 0, "a", "", refused},
		// A byte that is part of a longer sign.
		{"aéb", 0, "\xc3", "a", 1}, {"aéb", 0, "\xa9", "", refused}, {"aéb", 2, "\xa9", "", 2}, {"aéb", 1, "\xa9", "", refused}, {"aéb", 0, "é", "a", 1}, {"a\xa9", 0, "\xa9", "a", 1}, {"a\xff", 0, "\xff", "a", 1}, {"a\xffb", 0, "\xff", "a", 1}, {"a\xffb", 0, "b", "", refused}, {"a€", 0, "\xac", "", refused}, {"a€", 0, "\x82", "", refused}, {"a€", 0, "\xe2", "a", 1}, {"ab", 0, "é", "ab", 2},
		// In the middle of a sign.
		{"é", 1, "<", "", refused}, {"éa<", 1, "<", "", refused}, {"éa<", 2, "<", "a", 3}, {"€", 1, "<", "", refused}, {"€", 2, "", "", refused}, {"€", 3, "", "", 3},
		// `]]>`.
		{"a]]>", 0, "<", "", refused}, {"]]>", 0, "<", "", refused}, {"]]>", 0, "\"", "", refused}, {"]]>", 0, "", "", refused}, {"]]]>", 0, "<", "", refused}, {"a]]>b<", 0, "<", "", refused}, {"a]]&gt;b", 0, "<", "a]]>b", 8}, {"]]&gt;", 0, "\"", "]]>", 6}, {"]&#93;>", 0, "<", "]]>", 7}, {"&#93;]>", 0, "<", "]]>", 7}, {"]]&#62;<", 0, "<", "]]>", 7}, {"&#93;]]>", 0, "<", "", refused},
		{"]]", 0, "<", "]]", 2}, {"a]]", 0, "<", "a]]", 3}, {"a]]<", 0, "<", "a]]", 3}, {"]]<>", 0, "<", "]]", 2}, {"]]\">", 0, "\"", "]]", 2}, {"]]>", 0, ">", "]]", 2}, {"]]>", 0, "]", "", 0}, {"]]>", 1, "<", "]>", 3}, {"]]>", 2, "<", ">", 3}, {"]]>", 3, "<", "", 3}, {"]] >", 0, "<", "]] >", 4}, {"] ]>", 0, "<", "] ]>", 4}, {"]>", 0, "<", "]>", 2}, {">", 0, "<", ">", 1}, {"<]]>", 0, "<", "", 0}, {"a<]]>", 0, "<", "a", 1}, {"a<]]>", 2, "<", "", refused}, {"]]>a", 3, "<", "a", 4},
		// A byte 60 where end does not hold it.
		{"a<b\"", 0, "\"", "", refused}, {"a\"<b", 0, "\"", "a", 1}, {"<\"", 0, "\"", "", refused}, {"a<", 0, "\"", "", refused}, {"a<", 0, "", "", refused}, {"a<", 0, ">", "", refused}, {"&lt;\"", 0, "\"", "<", 4}, {"&#60;", 0, "\"", "<", 5},
		// Bytes 13, 9, 10, plainly and as references.
		{"\r", 0, "<", "", refused}, {"a\r\nb", 0, "<", "", refused}, {"a<\r", 0, "<", "a", 1}, {"\ra", 1, "<", "a", 2}, {"a\r", 0, "\r", "a", 1}, {"a&#13;b", 0, "<", "a\rb", 7}, {"a\tb\nc", 0, "<", "a\tb\nc", 5}, {"a\tb\nc", 0, "\"", "a\tb\nc", 5}, {"&#9;&#10;", 0, "\"", "\t\n", 9}, {"&#13;\r", 0, "<", "", refused},
		// References that are none, ahead of the end and behind it.
		{"&x", 0, "<", "", refused}, {"&", 0, "<", "", refused}, {"a&", 0, "<", "", refused}, {"&<", 0, "<", "", refused}, {"&amp<", 0, "<", "", refused}, {"&amp", 0, "<", "", refused}, {"&am<p;", 0, "<", "", refused}, {"&#0;", 0, "<", "", refused}, {"&#01;", 0, "<", "", refused}, {"&#x41;", 0, "<", "", refused}, {"&nbsp;", 0, "<", "", refused}, {"&#12;", 0, "<", "", refused}, {"&#65534;", 0, "<", "", refused}, {"&&amp;", 0, "<", "", refused}, {"&amp;&", 0, "<", "", refused}, {"a<&x", 0, "<", "a", 1}, {"&a", 1, "<", "a", 2}, {"&amp;", 1, "<", "amp;", 5}, {"&lt;&x;", 0, "<", "", refused}, {"a & b", 0, "<", "", refused},
		// Signs that are not IsText, and bytes that are no right signs: ahead of the place, at it, behind it, behind the end.
		{"\x01", 0, "<", "", refused}, {"a\x00", 0, "<", "", refused}, {"a\x0b", 0, "<", "", refused}, {"a\x0cb", 0, "<", "", refused}, {"\x1f", 0, "<", "", refused}, {"\ufffe", 0, "<", "", refused}, {"a\uffff", 0, "<", "", refused}, {"\U0001ffff", 0, "<", "\U0001ffff", 4}, {"a<\x01", 0, "<", "a", 1}, {"\x01a", 1, "<", "a", 2}, {"a\x01", 0, "\x01", "a", 1},
		{"\xff", 0, "<", "", refused}, {"a\xff", 0, "<", "", refused}, {"\xffa", 0, "<", "", refused}, {"\xffa", 1, "<", "a", 2}, {"a\xffb<", 0, "<", "", refused}, {"a<\xff", 0, "<", "a", 1}, {"a\xe2\x82<", 0, "<", "", refused}, {"\xe2\x82", 0, "<", "", refused}, {"\xf0\x9f\x98", 0, "<", "", refused}, {"a\xf0\x9f\x98b", 0, "<", "", refused}, {"\xf0\x9f\x98", 0, "", "", refused}, {"\xed\xa0\x80", 0, "<", "", refused}, {"\xc0\xa6lt;", 0, "<", "", refused}, {badBytes + "\xff", 0, "<", "", refused},
	} {
		if text, stop := impl.XmlText(c.s, c.at, c.end); text != c.text || stop != c.stop {
			t.Errorf("XmlText(%q, %d, %q) = %q, %d, want %q, %d", c.s, c.at, c.end, text, stop, c.text, c.stop)
		}
		checkPieces(t, c.s, append(endsToTry, c.end)...)
	}
}

func TestAttrsReadByHand(t *testing.T) {
	for _, c := range []struct{ s, name, value, behind string }{
		{`k="v"`, "k", "v", ""}, {`k="v" l="w"`, "k", "v", ` l="w"`}, {`k="v"/>`, "k", "v", "/>"}, {`k="v"">`, "k", "v", `">`}, {`k=""`, "k", "", ""}, {`k="""`, "k", "", `"`}, {`a-1.é="€"x`, "a-1.é", "€", "x"}, {`K="V"`, "K", "V", ""},
		{`k="v&#10;" x`, "k", "v\n", " x"}, {`k="&#9;&#10;&#13;"`, "k", "\t\n\r", ""}, {`k="&amp;&lt;&gt;&quot;&apos;"`, "k", `&<>"'`, ""}, {`k="&#34;"`, "k", `"`, ""}, {`k="a&amp;quot;"`, "k", "a&quot;", ""},
		{`k="'"`, "k", "'", ""}, {`k="a'b'c=d>/]]"`, "k", "a'b'c=d>/]]", ""}, {`k="]]&gt;"`, "k", "]]>", ""}, {`k="]]">`, "k", "]]", ">"}, {`k=" v "`, "k", " v ", ""}, {`k=" "`, "k", " ", ""}, {`k="="`, "k", "=", ""},
		{`xmlns="v"`, "xmlns", "v", ""}, {`xmlns="` + svgSpace + `">`, "xmlns", svgSpace, ">"}, {badBytes + `="` + badBytes + `"`, badBytes, badBytes, ""}, {`k="v"` + "\xff\r\t<&", "k", "v", "\xff\r\t<&"}, {`k="v"` + "\n" + `l="w"`, "k", "v", "\n" + `l="w"`},
	} {
		for _, ahead := range []string{"", " ", "<p ", `="`, "\xff", "é", "\r\n", "1", ":"} {
			whole, want := ahead+c.s, len(ahead)+len(c.s)-len(c.behind)
			if attr, behind := impl.XmlAttr(whole, len(ahead)); attr.Name != c.name || attr.Value != c.value || behind != want {
				t.Errorf("XmlAttr(%q, %d) = %q, %d, want %q, %q, %d", whole, len(ahead), attr, behind, c.name, c.value, want)
			}
		}
		checkPieces(t, c.s, "\"", "<")
	}
	for _, s := range []string{
		"", "k", "k=", `k="`, `k="v`, "k='v'", "k=''", "k=v", `k = "v"`, `k ="v"`, `k= "v"`, `k="v'`, `k='v"`, `="v"`, `"v"`, ` k="v"`, `-k="v"`, `1k="v"`, `:k="v"`, `a:k="v"`, `k:="v"`, `k=="v"`, `k"v"`, `k=""v`[:3], `k="&quot;`, `k="&#34;`, "k\t=\"v\"",
		`k="<"`, `k="a<b"`, `k="]]>"`, `k="a]]>b"`, `k="&"`, `k="&x;"`, `k="&amp"`, `k="&am"p;"`, `k="&#0;"`, `k="&#01;"`, `k="&#x41;"`, `k="&#12;"`, `k="&nbsp;"`,
		"k=\"a\nb\"", "k=\"a\tb\"", "k=\"\n\"", "k=\"\t\"", "k=\"a\n", "k=\"a\t", "k=\"\ta\"", "k=\"a\n\"", "k=\"a\r\"", "k=\"\r\n\"", "k=\"a\nb\nc\"", "k=\"\t&#9;\"", "k=\"&#9;\t\"",
		"k=\"\x01\"", "k=\"\x0c\"", "k=\"\ufffe\"", "k=\"\xff\"", "k=\"a\xe2\x82\"", "k=\"\xf0\x9f\x98\"", "k\xff=\"v\"", "\xffk=\"v\"", "k=\xff\"v\"", "k\xf0\x9f\x98=\"v\"", "\xf0\x9f\x98=\"v\"", "\x80=\"v\"", "k=“v”", "k=\"v”", "k×=\"v\"",
	} {
		if attr, behind := impl.XmlAttr(s, 0); attr != (impl.Attr{}) || behind != -1 {
			t.Errorf("XmlAttr(%q, 0) = %q, %d", s, attr, behind)
		}
		checkPieces(t, s, "\"", "<")
	}
	for at, want := range map[int]int{-1: -1, 0: 7, 1: -1, 2: 7, 3: -1, 4: -1, 5: -1, 6: -1, 7: -1, 8: -1, math.MaxInt: -1, math.MinInt: -1, math.MaxInt - 1: -1, 1 << 32: -1} {
		if attr, behind := impl.XmlAttr(`ék="v"`[:7], at); behind != want || (attr == impl.Attr{}) != (want == -1) {
			t.Errorf("XmlAttr at %d = %q, %d, want %d", at, attr, behind, want)
		}
	}
}

func TestNotesReadByHand(t *testing.T) {
	for _, note := range []string{
		"", "a", "a-b", "-b", "-", " a ", "\t\n", ">", "->", "a->", "<", "<!", "<!-a", "&", "&amp;", "&#13;", "]]>", "\"'", "é€😀", badBytes, "- - a- ", "!>", "a!>-b", "\x7f",
	} {
		whole := "<!--" + note + "-->"
		// A byte 45 at the end would be a part of what ends the note.
		right := note != "-"
		for _, ahead := range []string{"", "a", "<", "<!--", "--", "\xff", "é", "<!---->"} {
			for _, behind := range []string{"", "c", ">", "-->", "<!--", "\xff", "\r", "--"} {
				text, end := impl.XmlNote(ahead+whole+behind, len(ahead))
				if right && (text != note || end != len(ahead+whole)) || !right && (text != "" || end != -1) {
					t.Errorf("XmlNote(%q, %d) = %q, %d", ahead+whole+behind, len(ahead), text, end)
				}
			}
		}
		checkPieces(t, whole, "<")
	}
	for _, s := range []string{
		"", "<", "<!", "<!-", "<!--", "<!-->", "<!--->", "<!---", "<!----", "<!----a", "<!-- -- >", "<!--a", "<!--a-", "<!--a--", "<!--a->", "<!--a--!>", "<!--a-- >", "<!--a--->", "<!--a---->", "<!----->", "<!------>", "<!--a--b-->", "<!--a--b>", "<!--a<!--b-->-->", "<!--<!-- -->-->", "<!--<!--->",
		"<!-a-->", "<!a-->", "<--a-->", "!--a-->", " <!--a-->", "a<!--a-->", "<!- -a-->", "<! --a-->", "<!--\r-->", "<!--a\r\nb-->", "<!--a\r-->", "<!--\x01-->", "<!--\x0c-->", "<!--\ufffe-->", "<!--\xff-->", "<!--a\xe2\x82-->", "<!--\xf0\x9f\x98-->", "\xff<!---->", "<!--a\xff--b-->", "<!--a--\xff>", "<?a?>", "&lt;!--a-->", "<!doctype a>", "<![CDATA[a]]>",
	} {
		if note, behind := impl.XmlNote(s, 0); note != "" || behind != -1 {
			t.Errorf("XmlNote(%q, 0) = %q, %d", s, note, behind)
		}
		checkPieces(t, s, "<")
	}
	const two = "<!--é--><!---->"
	for at, want := range map[int]int{0: 9, 9: 16, -1: -1, 1: -1, 4: -1, 5: -1, 8: -1, 10: -1, 15: -1, 16: -1, 17: -1, math.MaxInt: -1, math.MinInt: -1, math.MaxInt - 3: -1, 1 << 32: -1} {
		if _, behind := impl.XmlNote(two, at); behind != want {
			t.Errorf("XmlNote(%q, %d) ends at %d, want %d", two, at, behind, want)
		}
	}
}

// TestPiecesOfEveryKind holds all five against the rules for all short texts, at each place, and more of them for those of one piece's own kind.
func TestPiecesOfEveryKind(t *testing.T) {
	t.Run("all", func(t *testing.T) {
		t.Parallel()
		eachText(piecesToTry, 2, func(s string) { checkPieces(t, s, endsToTry...) })
		for seed := range 2000 {
			checkPieces(t, longPage(piecesToTry, 3+seed%20, seed), endsToTry[seed%len(endsToTry)], "<")
		}
	})
	for what, c := range map[string]struct {
		long   int
		pieces []string
		check  func(t *testing.T, s string)
	}{
		"names": {4, []string{"a", "-", "1", "é", "·", ":", "=", badBytes, "\xff", "\xe2\x82", "\xf0\x9f\x98"}, func(t *testing.T, s string) {
			for at := -1; at <= len(s)+1; at++ {
				checkName(t, s, at)
			}
		}},
		"references": {5, []string{"&", "#", "0", "1", "9", ";", "x", "amp", "lt"}, func(t *testing.T, s string) { checkRefRead(t, s, 0) }},
		"numbers":    {7, []string{"0", "1", "5", "9"}, func(t *testing.T, s string) { checkRefRead(t, "&#"+s+";", 0) }},
		"letters":    {4, []string{"a", "m", "p", "l", "t", "g", "q", "u", "o", "s", ";"}, func(t *testing.T, s string) { checkRefRead(t, "&"+s+";", 0) }},
		"texts": {4, []string{"a", "&lt;", "&#13;", "&", ";", "<", ">", "]", "\r", "\n", "é", "\xa9", "\xff"}, func(t *testing.T, s string) {
			for _, end := range []string{"<", "", ";", "\xa9"} {
				checkTextRead(t, s, 0, end)
				checkTextRead(t, s, 1, end)
			}
		}},
		"brackets": {7, []string{"]", ">", "&gt;", "<"}, func(t *testing.T, s string) {
			for _, end := range []string{"<", ">", "]"} {
				checkTextRead(t, s, 0, end)
			}
		}},
		"values":     {4, []string{"a", "&lt;", "&#9;", "&#10;", "\t", "\n", "\r", "\"", "'", "<", "]]>", "é", "\xff", "="}, func(t *testing.T, s string) { checkAttrRead(t, `k="`+s+`"`, 0) }},
		"attributes": {6, []string{"k", "=", "\"", "v", " ", "1"}, func(t *testing.T, s string) { checkAttrRead(t, s, 0); checkAttrRead(t, s, 1) }},
		"notes":      {5, []string{"-", "--", ">", "a", "\r", "<!--", "-->", "\xff"}, func(t *testing.T, s string) { checkNoteRead(t, "<!--"+s, 0) }},
		"openings":   {6, []string{"<", "!", "-", ">", "a"}, func(t *testing.T, s string) { checkNoteRead(t, s, 0) }},
	} {
		t.Run(what, func(t *testing.T) {
			t.Parallel()
			eachText(c.pieces, c.long, func(s string) { c.check(t, s) })
		})
	}
}

func TestPiecesOfAllBytes(t *testing.T) {
	for a := range 256 {
		for b := range 256 {
			two := string([]byte{byte(a), byte(b)})
			for at := range 3 {
				checkName(t, two, at)
			}
			checkRefRead(t, "&"+two+";", 0)
			checkRefRead(t, "&#6"+two, 0)
			checkTextRead(t, two, 0, "<")
			checkTextRead(t, "a"+two+"<", 1, "")
			checkTextRead(t, two+"a", 0, two[:1])
			checkTextRead(t, "a"+two+"é", 0, two[1:])
			checkAttrRead(t, "k"+two+"v\"", 0)
			checkAttrRead(t, two+"=\"v\"", 0)
			checkAttrRead(t, "k=\""+two+"\"", 0)
			checkNoteRead(t, "<!--"+two+"-->", 0)
			checkNoteRead(t, "<!--a"+two+">", 0)
			checkNoteRead(t, two+"--a-->", 0)
		}
	}
	for _, a := range []byte(edgeBytes) {
		for _, b := range []byte(edgeBytes) {
			for _, c := range []byte(edgeBytes) {
				checkPieces(t, string([]byte{a, b, c, 'a'}), "<", "\x80")
			}
		}
	}
}

// TestEverySignRead asks for each sign in a name, in a text, in a value and in a note.
func TestEverySignRead(t *testing.T) {
	for n := range 1114112 {
		if !impl.SignOk(n) {
			continue
		}
		sign := plainBytes(n)
		checkName(t, "a"+sign+"=", 0)
		text, stop := impl.XmlText(sign+";", 0, ";")
		attr, behind := impl.XmlAttr("k=\""+sign+"\"", 0)
		note, end := impl.XmlNote("<!--"+sign+"-->", 0)
		stands := textSpans.hold(n)
		inText := stands && n != 13 && n != 60 && n != 38 && n != ';'
		inValue := stands && !slices.Contains([]int{9, 10, 13, 34, 38, 60}, n)
		inNote := stands && n != 13 && n != 45
		if inText != (stop == len(sign) && text == sign) || inValue != (behind == len(sign)+4 && attr.Value == sign) || inNote != (end == len(sign)+7 && note == sign) {
			t.Fatalf("the sign %d is read as %q, %d, %q, %d, %q, %d", n, text, stop, attr, behind, note, end)
		}
	}
}

// textsToEscape visits texts of every kind of sign that TextOk tells.
func textsToEscape(visit func(s string)) {
	put := func(s string) {
		if plainTextOk(s, impl.Signs(s)) {
			visit(s)
		}
	}
	eachText(escapePieces, 3, put)
	eachText([]string{"&", "<", ">", "\r", "\"", "\t", "\n", "]"}, 5, put)
	eachText([]string{"&", "#", "1", "3", ";", "\r", "amp"}, 5, put)
	for _, n := range spanEdges(textSpans) {
		put(plainBytes(n))
		put("a" + plainBytes(n) + "&")
		put(plainBytes(n) + "<" + plainBytes(n))
	}
	for s := range strictTextsToTry() {
		put(s)
	}
	for seed := range 400 {
		put(impl.TextOf(longPage(append(slices.Clone(escapePieces), mildPieces...), 1+seed, seed)))
		put(impl.TextOf(longPage(piecesToTry, 1+seed/4, seed)))
	}
}

// TestWhatIsEscapedIsRead holds promise 18: a text and a value that are escaped are read as they were, up to their end.
func TestWhatIsEscapedIsRead(t *testing.T) {
	names := []string{"k", "a-1.é", "xmlns", badBytes}
	many := 0
	textsToEscape(func(s string) {
		many++
		text, value := impl.Escape(s, false), impl.Escape(s, true)
		for _, ahead := range []string{"", "a<", "\xff"} {
			for _, behind := range []string{"", "<", "<&\xff\r"} {
				whole, want := ahead+text+behind, len(ahead+text)
				if got, stop := impl.XmlText(whole, len(ahead), "<"); got != s || stop != want {
					t.Fatalf("%s, escaped, is read as %s, %d, want %d", shortText(s), shortText(got), stop, want)
				}
			}
			// What a value is told by stands in a text as well.
			for _, behind := range []string{"", "<", "\"", "\"<]]>"} {
				whole, want := ahead+value+behind, len(ahead+value)
				if got, stop := impl.XmlText(whole, len(ahead), "<\""); got != s || stop != want {
					t.Fatalf("%s, escaped as a value, is read as %s, %d, want %d", shortText(s), shortText(got), stop, want)
				}
			}
		}
		if got, stop := impl.XmlText(text, 0, ""); got != s || stop != len(text) {
			t.Fatalf("%s, escaped, is read to the end of all as %s, %d", shortText(s), shortText(got), stop)
		}
		name := names[many%len(names)]
		for _, ahead := range []string{"", "<p ", "\xff"} {
			for _, behind := range []string{"", "\"", " l=\"w\"", ">\xff"} {
				written := name + "=\"" + value + "\""
				attr, end := impl.XmlAttr(ahead+written+behind, len(ahead))
				if attr.Name != name || attr.Value != s || end != len(ahead+written) {
					t.Fatalf("%s, escaped, is read as %q, %d", shortText(s), attr, end)
				}
			}
		}
		note := impl.NoteOf(s)
		written := "<!--" + note + "-->"
		for _, behind := range []string{"", "-->", "\xff"} {
			if got, end := impl.XmlNote("é"+written+behind, 2); got != note || end != 2+len(written) {
				t.Fatalf("the note %s is read as %s, %d", shortText(note), shortText(got), end)
			}
		}
	})
	if many < 10000 {
		t.Error("texts that are read:", many)
	}
}

// TestNotesMadeAreRead: of any text at all a note is made that is read as it is.
func TestNotesMadeAreRead(t *testing.T) {
	check := func(s string) {
		note := impl.NoteOf(s)
		if got, end := impl.XmlNote("<!--"+note+"-->", 0); got != note || end != len(note)+7 {
			t.Fatalf("the note %s is read as %s, %d", shortText(note), shortText(got), end)
		}
		name := impl.NameOf(s)
		for _, behind := range []string{"", "=", " ", "/>", ">", "\xff"} {
			if got, end := impl.XmlName(name+behind, 0); got != name || end != len(name) {
				t.Fatalf("the name %s is read as %s, %d", shortText(name), shortText(got), end)
			}
		}
	}
	eachText(mildPieces, 3, check)
	eachText([]string{"-", ">", "<!", "\r", "a"}, 6, check)
	eachText(namePieces, 3, check)
	for seed := range 300 {
		check(longPage(piecesToTry, 1+seed, seed))
	}
}

// TestWhatIsSaidIsRead asks for the pieces of what is said of elements.
func TestWhatIsSaidIsRead(t *testing.T) {
	for seed := range 200 {
		c := chance(seed + 1)
		e := chanceSigns(&c, chanceEl(&c, 1+seed, 20))
		var look func(e impl.El)
		look = func(e impl.El) {
			said := impl.ElSaid(e, e.Space)
			switch e.Kind {
			case impl.ElText:
				if text, stop := impl.XmlText(said+"<", 0, "<"); text != e.Text || stop != len(said) {
					t.Fatalf("%s is read as %s", shortText(said), shortText(text))
				}
			case impl.ElNote:
				if note, behind := impl.XmlNote(said+"<", 0); note != e.Text || behind != len(said) {
					t.Fatalf("%s is read as %s", shortText(said), shortText(note))
				}
			case impl.ElTag:
				name, at := impl.XmlName(said, 1)
				if name != e.Name {
					t.Fatalf("%s begins with %s", shortText(said), shortText(name))
				}
				for _, want := range e.Attrs {
					attr, behind := impl.XmlAttr(said, at+1)
					if attr != want {
						t.Fatalf("%s has %q, want %q", shortText(said), attr, want)
					}
					at = behind
				}
			}
			for _, kid := range e.Kids {
				look(kid)
			}
		}
		look(e)
	}
}

// TestTheLibraryReadsTheSame: texts and values that are read are no others to the library's reader.
func TestTheLibraryReadsTheSame(t *testing.T) {
	read, refused := 0, 0
	check := func(s string) {
		if text, stop := impl.XmlText(s, 0, "<"); stop == len(s) {
			read++
			got := struct {
				Text string `xml:",chardata"`
			}{}
			if err := xml.Unmarshal([]byte("<p>"+s+"</p>"), &got); err != nil || got.Text != text {
				t.Fatalf("the text %s is read as %s, by the library as %s: %v", shortText(s), shortText(text), shortText(got.Text), err)
			}
		} else {
			refused++
		}
		if attr, behind := impl.XmlAttr(`k="`+s+`"`, 0); behind == len(s)+4 {
			got := struct {
				Value string `xml:"k,attr"`
			}{}
			if err := xml.Unmarshal([]byte(`<p k="`+s+`"/>`), &got); err != nil || got.Value != attr.Value {
				t.Fatalf("the value %s is read as %s, by the library as %s: %v", shortText(s), shortText(attr.Value), shortText(got.Value), err)
			}
		}
	}
	eachText([]string{"a", "&amp;", "&#13;", "&#9;", "&#1114111;", "&#01;", "&", "<", ">", "]]", "]]>", "\"", "\t", "\n", "\r", "é", badBytes, "\x01", "\xff"}, 3, check)
	for seed := range 300 {
		check(longPage(piecesToTry, 1+seed%12, seed))
	}
	if read < 500 || refused < 500 {
		t.Errorf("%d are read, %d refused", read, refused)
	}
}

func TestLongPieces(t *testing.T) {
	const many = 200000
	times := func(s string) string { return strings.Repeat(s, many) }
	for s, want := range map[string]string{"a": "a", "é": "é", "&amp;": "&", "&#1114111;": "\U0010ffff", "\n": "\n", "]]": "]]", "]]&gt;": "]]>", "&lt;a": "<a"} {
		if text, stop := impl.XmlText(times(s)+"<", 0, "<"); text != times(want) || stop != many*len(s) {
			t.Errorf("XmlText of many %q = %s, %d", s, shortText(text), stop)
		}
		if attr, behind := impl.XmlAttr(times("k")+`="`+times(s)+`"`, 0); s != "\n" && (attr.Name != times("k") || attr.Value != times(want) || behind != many*(len(s)+1)+3) {
			t.Errorf("XmlAttr of many %q = %s, %d", s, shortText(attr.Value), behind)
		}
		for _, wrong := range []string{"&", "&#0;", "]]>", "\r", "\x01", "\xff", "\xe2\x82"} {
			if text, stop := impl.XmlText(times(s)+wrong+"<", 0, "<"); text != "" || stop != -1 {
				t.Errorf("XmlText of many %q and %q = %s, %d", s, wrong, shortText(text), stop)
			}
			if text, stop := impl.XmlText(wrong+times(s), 0, "<"); text != "" || stop != -1 {
				t.Errorf("XmlText of %q and many %q = %s, %d", wrong, s, shortText(text), stop)
			}
		}
	}
	for _, s := range []string{"a", "é", "- ", "&", "<!", "]]>"} {
		if note, behind := impl.XmlNote("<!--"+times(s)+"-->", 0); note != times(s) || behind != many*len(s)+7 {
			t.Errorf("XmlNote of many %q = %s, %d", s, shortText(note), behind)
		}
		if note, behind := impl.XmlNote("<!--"+times(s)+"--", 0); note != "" || behind != -1 {
			t.Errorf("XmlNote of many %q without an end = %s, %d", s, shortText(note), behind)
		}
	}
	for _, s := range []string{"&", "&amp", "&#", "&#1", "\xff", "<!--", "=\"", "-"} {
		long := times(s)
		for _, at := range []int{0, 1, len(long) / 2, len(long) - 1} {
			if text, stop := impl.XmlText(long, at, ";"); stop != -1 && len(text) != len(long)-at {
				t.Errorf("XmlText of many %q at %d = %s, %d", s, at, shortText(text), stop)
			}
			if _, behind := impl.XmlRef(long, at); behind != -1 {
				t.Errorf("XmlRef of many %q at %d ends at %d", s, at, behind)
			}
			if _, behind := impl.XmlAttr(long, at); behind != -1 {
				t.Errorf("XmlAttr of many %q at %d ends at %d", s, at, behind)
			}
			if _, behind := impl.XmlNote(long, at); behind != -1 {
				t.Errorf("XmlNote of many %q at %d ends at %d", s, at, behind)
			}
		}
	}
	every := make([]byte, 256)
	for n := range every {
		every[n] = byte(n)
	}
	for _, s := range []string{"", "a", "\xff", "<", "é"} {
		checkTextRead(t, s, 0, string(every))
		checkTextRead(t, s, 0, times("\x00"))
	}
}

func TestMaxXml(t *testing.T) {
	if impl.MaxXml != 200000 {
		t.Error("MaxXml is", impl.MaxXml)
	}
}

// pieceTold is all that the five tell of that text at those places, for each of those ends.
func pieceTold(s string, ends []string, places []int) string {
	var told strings.Builder
	for _, at := range places {
		name, nameEnd := impl.XmlName(s, at)
		ref, refEnd := impl.XmlRef(s, at)
		attr, attrEnd := impl.XmlAttr(s, at)
		note, noteEnd := impl.XmlNote(s, at)
		fmt.Fprintf(&told, "%d: %q %d %q %d %q %d %q %d", at, name, nameEnd, ref, refEnd, attr, attrEnd, note, noteEnd)
		for _, end := range ends {
			text, stop := impl.XmlText(s, at, end)
			fmt.Fprintf(&told, " %q %d", text, stop)
		}
	}
	return told.String()
}

// TestPiecesAskedTwice: nothing is written into what was handed in, and what is told hangs on that alone.
func TestPiecesAskedTwice(t *testing.T) {
	ends := []string{"<", "\"", "", "\xa9", "&;"}
	check := func(s string) {
		given, givenEnds := strings.Clone(s), slices.Clone(ends)
		told := pieceTold(given, givenEnds, placesToTry(s))
		if again := pieceTold(given, givenEnds, placesToTry(s)); again != told {
			t.Fatalf("of %s is told %s, and when it is asked again %s", shortText(s), told, again)
		}
		if given != s || !slices.Equal(givenEnds, ends) {
			t.Fatalf("%s became %s, the ends %q", shortText(s), shortText(given), givenEnds)
		}
		// The same bytes within another text.
		inner := ("é" + s + "\xff")[2 : 2+len(s)]
		if other := pieceTold(inner, ends, placesToTry(s)); other != told {
			t.Fatalf("of %s is told %s, and where it is a part of another text %s", shortText(s), told, other)
		}
	}
	eachText(piecesToTry, 2, check)
	for seed := range 200 {
		check(longPage(piecesToTry, 3+seed%20, seed))
	}
}

func TestPiecesAskedAtOnce(t *testing.T) {
	all := []string{`k="v&#10;" x`, "a&lt;b<c", "<!--a-b-->c", "&#233;x", "&x", "k='v'", "<!--a--b-->", "\xff", "", "ab.c=1"}
	for k, s := range all {
		want := pieceTold(s, endsToTry, placesToTry(s))
		t.Run(fmt.Sprint(k), func(t *testing.T) {
			t.Parallel()
			for range 20 {
				for _, other := range all {
					pieceTold(other, endsToTry, []int{0, 1})
				}
				if pieceTold(s, endsToTry, placesToTry(s)) != want {
					t.Fatalf("of %q is told otherwise when it is asked again", s)
				}
			}
		})
	}
}
