package glass

import (
	"strconv"
	"strings"

	"thermion/api"
)

// The words of a text.
const (
	fromWord = "from"
	toWord   = "to"
	inWord   = "in"
)

// maxNumber is the greatest number of 9 digits.
const maxNumber = 999999999

// Text returns the text of a programme.
func Text(o api.Oven) (string, api.Errno) {
	if e := CheckOven(o); e != api.OK {
		return "", e
	}
	text := rowOf(fromWord, strconv.Itoa(o.From))
	for _, l := range o.Legs {
		text += rowOf(toWord, strconv.Itoa(l.Heat), inWord, strconv.Itoa(l.Ticks))
	}
	return text, api.OK
}

// rowOf returns the row of some words.
func rowOf(words ...string) string { return strings.Join(words, " ") + "\n" }

// Parse returns the programme of a text; with ErrForm the number of the first row that is not as said.
func Parse(text string) (o api.Oven, row int, e api.Errno) {
	if len(text) > api.MaxOven {
		return api.Oven{}, 0, api.ErrLong
	}
	o, wrong := read(text)
	if wrong != 0 {
		return api.Oven{}, wrong, api.ErrForm
	}
	if e := CheckOven(o); e != api.OK {
		return api.Oven{}, 0, e
	}
	return o, 0, api.OK
}

// read returns the programme of a text, and the number of the first row that is not as said (0: there is none).
func read(text string) (o api.Oven, wrong int) {
	rows := strings.Split(text, "\n")
	last := len(rows) - 1 // what stands behind the last line feed, which should be nothing
	var r reader
	kinds := map[string]func(words []string) bool{fromWord: r.from, toWord: r.to}
	for i, row := range rows[:last] {
		words := strings.Split(row, " ")
		kind, is := kinds[words[0]]
		if !is || !kind(words[1:]) {
			return api.Oven{}, i + 1
		}
	}
	if !r.begun || rows[last] != "" {
		return api.Oven{}, last + 1
	}
	return r.oven, 0
}

// reader reads rows, whose first words have been read, and puts together what they say.
type reader struct {
	oven  api.Oven
	begun bool // the first row has been read
}

// from reads a row with the heat that a programme begins with, and reports whether it is as said.
func (r *reader) from(words []string) bool {
	if r.begun || len(words) != 1 {
		return false
	}
	r.begun = true
	return readNumber(words[0], &r.oven.From)
}

// to reads a row with a leg, and reports whether it is as said.
func (r *reader) to(words []string) bool {
	if !r.begun || len(words) != 3 || words[1] != inWord {
		return false
	}
	var l api.Leg
	is := readNumber(words[0], &l.Heat) && readNumber(words[2], &l.Ticks)
	r.oven.Legs = append(r.oven.Legs, l)
	return is
}

// readNumber reads a number into n, and reports whether it is as said.
func readNumber(word string, n *int) bool {
	var err error
	*n, err = strconv.Atoi(word)
	return err == nil && within(*n, 0, maxNumber) && strconv.Itoa(*n) == word // numbers are written in one way only
}
