package works

import (
	"iter"
	"strconv"
	"strings"
)

// How long words may be.
const (
	maxName   = 12
	maxType   = 4
	maxDigits = 9
)

// rows yields the rows of a text, and whether they are ended by a line feed (only the last one need not be).
func rows(text string) iter.Seq2[string, bool] {
	return func(yield func(row string, ended bool) bool) {
		for rest := text; rest != ""; {
			row, behind, ended := strings.Cut(rest, "\n")
			if !yield(row, ended) {
				return
			}
			rest = behind
		}
	}
}

// sentence returns a row of words.
func sentence(words ...string) string { return strings.Join(words, " ") }

// digits returns a number as a word.
func digits(n int) string { return strconv.Itoa(n) }

// number reads a number of at most so many digits, which may be below 0 if it is signed, and reports whether it is as said.
func number(word string, most int, signed bool) (n int, is bool) {
	n, err := strconv.Atoi(word)
	if err != nil || digits(n) != word { // numbers are written in one way only
		return 0, false
	}
	return n, len(strings.TrimPrefix(word, "-")) <= most && (signed || n >= 0)
}

// isName reports whether a word is a name: some small letters.
func isName(word string) bool {
	for _, c := range word {
		if c < 'a' || 'z' < c {
			return false
		}
	}
	return within(len(word), 1, maxName)
}

// isType reports whether a word may be the name of a model: some capital letters.
func isType(word string) bool {
	for _, c := range word {
		if c < 'A' || 'Z' < c {
			return false
		}
	}
	return within(len(word), 1, maxType)
}

// within reports whether n is a number from least to most.
func within(n, least, most int) bool { return least <= n && n <= most }
