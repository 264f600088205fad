package match

import (
	"strconv"
	"strings"

	"thermion/api"
)

// The greatest numbers of a mark.
const (
	maxType   = 4
	maxYear   = 99
	maxWeek   = 53
	maxLine   = 26
	maxNumber = 99999
)

// signs are the characters of marks, in the order of their values. How many there are is a prime number, so a character that is changed always changes the sum.
const signs = "0123456789ABCDEFGHIJKLMNOPQRSTUVWXYZ+"

// form is how the text of a mark goes on behind the type: a 0 stands for a digit, an A for a capital letter, and a + for any sign.
const form = "0000A00000+"

// checkMark returns the first error of a mark, otherwise OK.
func checkMark(m api.Mark) api.Errno {
	if !within(len(m.Type), 1, maxType) || leading(m.Type) != len(m.Type) {
		return api.ErrForm
	}
	if !within(m.Year, 0, maxYear) || !within(m.Week, 1, maxWeek) || !within(m.Line, 1, maxLine) || !within(m.Number, 0, maxNumber) {
		return api.ErrRange
	}
	return api.OK
}

// leading returns with how many capital letters a text begins.
func leading(text string) int {
	for i, c := range text {
		if !isLetter(c) {
			return i
		}
	}
	return len(text)
}

// isLetter reports whether a character is a capital letter.
func isLetter(c rune) bool { return 'A' <= c && c <= 'Z' }

// isDigit reports whether a character is a digit.
func isDigit(c rune) bool { return '0' <= c && c <= '9' }

// Text returns the text of a mark.
func Text(m api.Mark) (string, api.Errno) {
	if e := checkMark(m); e != api.OK {
		return "", e
	}
	text := m.Type + digits(m.Year, 2) + digits(m.Week, 2) + string(rune('A'+m.Line-1)) + digits(m.Number, 5)
	return text + checkSign(text), api.OK
}

// digits returns a number with as many digits as there are places.
func digits(n, places int) string {
	text := strconv.Itoa(n)
	return strings.Repeat("0", places-len(text)) + text
}

// checkSign returns the check character that belongs behind the other characters of a mark.
func checkSign(text string) string {
	sum := 0
	for i, c := range text {
		sum += (i + 1) * strings.IndexRune(signs, c)
	}
	value := (len(signs) - sum%len(signs)) % len(signs)
	return signs[value : value+1]
}

// Parse returns the mark whose text is given.
func Parse(text string) (api.Mark, api.Errno) {
	letters := leading(text)
	if !within(letters, 1, maxType) || !hasForm(text[letters:]) {
		return api.Mark{}, api.ErrForm
	}
	rest := text[letters:]
	m := api.Mark{Type: text[:letters], Year: number(rest[:2]), Week: number(rest[2:4]), Line: int(rest[4]-'A') + 1, Number: number(rest[5:10])}
	if e := checkMark(m); e != api.OK { // the week's: no other number can be wrong
		return api.Mark{}, e
	}
	end := len(text) - 1
	if checkSign(text[:end]) != text[end:] {
		return api.Mark{}, api.ErrClash
	}
	return m, api.OK
}

// hasForm reports whether the text of a mark goes on behind its type as it should.
func hasForm(rest string) bool {
	if len(rest) != len(form) {
		return false
	}
	for i, c := range form {
		is := rune(rest[i])
		switch c {
		case '0':
			if !isDigit(is) {
				return false
			}
		case 'A':
			if !isLetter(is) {
				return false
			}
		default:
			if !strings.ContainsRune(signs, is) {
				return false
			}
		}
	}
	return true
}

// number returns the number that digits say.
func number(digits string) int {
	n := 0
	for _, c := range digits {
		n = 10*n + int(c-'0')
	}
	return n
}
