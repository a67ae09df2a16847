package tests

import (
	"math"
	"regexp"
	"slices"
	"strconv"
	"strings"

	"loop.example/g00325/impl"
)

// strictRefs finds what is written like a reference; of which sign its number is stands apart.
var strictRefs = regexp.MustCompile(`&(?:(amp|lt|gt|quot|apos)|#([1-9][0-9]{0,6}));`)

// noteWritten finds a note up to the first end that stands behind its beginning: one with an end that stands otherwise has
// two bytes 45 in it, or one behind it.
var noteWritten = regexp.MustCompile(`^<!--((?s).*?)-->`)

// isPlace tells whether something may begin, or end, at that place of s.
func isPlace(s string, at int) bool { return 0 <= at && at <= len(s) }

// plainXmlName tries all ends, the last one first.
func plainXmlName(s string, at int) (string, int) {
	for behind := len(s); isPlace(s, at) && behind > at; behind-- {
		if name := s[at:behind]; plainNameOk(name, impl.Signs(name)) {
			return name, behind
		}
	}
	return "", at
}

// plainRefSign tells what stands for a reference that was found in s at those places; -1 where its number is no sign's.
func plainRefSign(s string, found []int) int {
	if found[2] >= 0 {
		return map[string]int{"amp": 38, "lt": 60, "gt": 62, "quot": 34, "apos": 39}[s[found[2]:found[3]]]
	}
	n, err := strconv.Atoi(s[found[4]:found[5]])
	if err != nil || !textSpans.hold(n) {
		return -1
	}
	return n
}

func plainXmlRef(s string, at int) (string, int) {
	if !isPlace(s, at) {
		return "", -1
	}
	found := strictRefs.FindStringSubmatchIndex(s[at:])
	if found == nil || found[0] != 0 || plainRefSign(s[at:], found) < 0 {
		return "", -1
	}
	return plainBytes(plainRefSign(s[at:], found)), at + found[1]
}

// plainXmlText tells what stands between references as it is, and each of these by its sign.
func plainXmlText(s string, at int, end string) (string, int) {
	if !isPlace(s, at) {
		return "", -1
	}
	stop := at
	for stop < len(s) && !slices.Contains([]byte(end), s[stop]) {
		stop++
	}
	written, text, behind := s[at:stop], "", 0
	for _, found := range strictRefs.FindAllStringSubmatchIndex(written, -1) {
		sign := plainRefSign(written, found)
		if sign < 0 {
			return "", -1
		}
		plain := written[behind:found[0]]
		if !plainPlain(plain) {
			return "", -1
		}
		text += plain + plainBytes(sign)
		behind = found[1]
	}
	if !plainPlain(written[behind:]) || strings.Contains(written, "]]>") {
		return "", -1
	}
	return text + written[behind:], stop
}

// plainPlain tells whether that may stand in a text as it is.
func plainPlain(s string) bool {
	return plainTextOk(s, impl.Signs(s)) && !strings.ContainsAny(s, "\r<&")
}

func plainXmlAttr(s string, at int) (impl.Attr, int) {
	name, behind := plainXmlName(s, at)
	if name == "" {
		return impl.Attr{}, -1
	}
	parts := strings.SplitN(s[behind:], "\"", 3)
	if len(parts) < 3 || parts[0] != "=" || strings.ContainsAny(parts[1], "\t\n") {
		return impl.Attr{}, -1
	}
	value, end := plainXmlText(parts[1], 0, "")
	if end < 0 {
		return impl.Attr{}, -1
	}
	return impl.Attr{Name: name, Value: value}, len(s) - len(parts[2])
}

func plainXmlNote(s string, at int) (string, int) {
	if !isPlace(s, at) {
		return "", -1
	}
	found := noteWritten.FindStringSubmatch(s[at:])
	if found == nil || !plainNoteOk(found[1], impl.Signs(found[1])) {
		return "", -1
	}
	return found[1], at + len(found[0])
}

// placesToTry are all places of s, those beside it, and the farthest numbers there are.
func placesToTry(s string) []int {
	places := []int{math.MinInt, math.MinInt + 1, -1 << 32, -2, len(s) + 2, len(s) + 1<<32, math.MaxInt - 1, math.MaxInt}
	for at := -1; at <= len(s)+1; at++ {
		places = append(places, at)
	}
	return places
}
