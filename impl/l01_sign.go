package impl

import (
	"strings"
	"unicode/utf8"
)

const Bad = 65533

func SignOk(n int) bool {
	return n >= 0 && n <= 1114111 && (n < 55296 || n > 57343)
}

func PutSign(n int) string {
	// A rune has 32 bits: a number that is no sign could become one when it is cut.
	if !SignOk(n) {
		n = Bad
	}
	return string(rune(n))
}

func GetSign(s string, at int) (int, int) {
	if at < 0 || at >= len(s) {
		return 0, 0
	}
	sign, many := utf8.DecodeRuneInString(s[at:])
	// Bad itself has three bytes: told with one byte, it means that no sign begins here.
	if sign == Bad && many == 1 {
		return Bad, beginning(s[at:])
	}
	return int(sign), many
}

func Signs(s string) []int {
	var list []int
	next := 0
	for at, sign := range s {
		// The range takes broken bytes one by one, where GetSign takes a whole beginning at once.
		if at < next {
			continue
		}
		if sign == Bad {
			_, many := GetSign(s, at)
			next = at + many
		}
		list = append(list, int(sign))
	}
	return list
}

func SignText(list []int) string {
	var text strings.Builder
	for _, n := range list {
		text.WriteString(PutSign(n))
	}
	return text.String()
}

func Clean(s string) string {
	return SignText(Signs(s))
}

func CleanOk(s string) bool {
	return Clean(s) == s
}

// beginning tells how many bytes at the head of s, which is not empty and begins with no sign,
// are the beginning of some sign's bytes; one, where not even the first one is.
func beginning(s string) int {
	wanted := signLength(s[0])
	low, high := secondSpan(s[0])
	many := 1
	for many < wanted && many < len(s) && s[many] >= low && s[many] <= high {
		many++
		low, high = 128, 191
	}
	return many
}

// signLength tells how many bytes a sign has that begins with that byte; 1 where none of more bytes does.
// 192 and 193 would begin signs below 128, 245 and more those above 1114111.
func signLength(first byte) int {
	switch {
	case first >= 194 && first <= 223:
		return 2
	case first >= 224 && first <= 239:
		return 3
	case first >= 240 && first <= 244:
		return 4
	}
	return 1
}

// secondSpan tells which bytes may stand behind a first one. Four first bytes allow fewer than others:
// else there were signs longer than they need be (224, 240), 55296 .. 57343 (237), or those above 1114111 (244).
func secondSpan(first byte) (byte, byte) {
	switch first {
	case 224:
		return 160, 191
	case 237:
		return 128, 159
	case 240:
		return 144, 191
	case 244:
		return 128, 143
	}
	return 128, 191
}
