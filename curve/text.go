package curve

import (
	"strconv"
	"strings"

	"thermion/api"
)

// The first words of the rows of a text.
const (
	sizesWord = "curves"
	gridWord  = "grid"
	plateWord = "plate"
	lowWord   = "low"
	highWord  = "high"
)

// maxNumber is the greatest number of 9 digits.
const maxNumber = 999999999

// Text returns the text of a family.
func Text(f api.Family) (string, api.Errno) {
	if e := Check(f); e != api.OK {
		return "", e
	}
	text := appendRow(nil, sizesWord, []int{len(f.Grid), len(f.Plate)})
	text = appendRow(text, gridWord, f.Grid)
	text = appendRow(text, plateWord, f.Plate)
	for i := range f.Grid {
		text = appendRow(text, lowWord, f.Low[i])
		text = appendRow(text, highWord, f.High[i])
	}
	return string(text), api.OK
}

// appendRow appends a row of a word and numbers to a text.
func appendRow(text []byte, word string, numbers []int) []byte {
	text = append(text, word...)
	for _, n := range numbers {
		text = append(text, ' ')
		text = strconv.AppendInt(text, int64(n), 10)
	}
	return append(text, '\n')
}

// Parse returns the family of a text; with ErrForm the number of the first row that is not as said.
func Parse(text string) (f api.Family, line int, e api.Errno) {
	if len(text) > api.MaxCurves {
		return api.Family{}, 0, api.ErrLong
	}
	f, wrong := read(text)
	if wrong != 0 {
		return api.Family{}, wrong, api.ErrForm
	}
	if e := Check(f); e != api.OK {
		return api.Family{}, 0, e
	}
	return f, 0, api.OK
}

// reader reads the rows of a text one after the other: line is the number of the one that was read last. With the first one that is not as said it becomes wrong, and stays at this row.
type reader struct {
	rows  []string // those that are ended
	line  int
	wrong bool
}

// row reads the next row, which has to be a word and so many numbers.
func (r *reader) row(word string, count int) []int {
	if r.wrong {
		return nil
	}
	r.line++
	if r.line > len(r.rows) {
		r.wrong = true
		return nil
	}
	words := strings.Split(r.rows[r.line-1], " ")
	if words[0] != word || len(words) != 1+count {
		r.wrong = true
		return nil
	}
	return r.numbers(words[1:])
}

// numbers reads words of the row, which have to be numbers.
func (r *reader) numbers(words []string) []int {
	var l []int
	for _, w := range words {
		n, err := strconv.Atoi(w)
		if err != nil || !within(n, -maxNumber, maxNumber) || strconv.Itoa(n) != w { // numbers are written in one way only
			r.wrong = true
			return nil
		}
		l = append(l, n)
	}
	return l
}

// sizes reads the first row: how many lines there are in both directions.
func (r *reader) sizes() (grid, plate int) {
	l := r.row(sizesWord, 2)
	if r.wrong {
		return 0, 0
	}
	if !within(l[0], 0, api.MaxLines) || !within(l[1], 0, api.MaxLines) {
		r.wrong = true
	}
	return l[0], l[1]
}

// read returns the family of a text, and the number of the first row that is not as said (0: there is none).
func read(text string) (f api.Family, wrong int) {
	rows := strings.Split(text, "\n")
	last := len(rows) - 1 // what stands behind the last line feed, which should be nothing
	r := reader{rows: rows[:last]}
	grid, plate := r.sizes()
	f.Grid = r.row(gridWord, grid)
	f.Plate = r.row(plateWord, plate)
	for i := 0; i < grid && !r.wrong; i++ {
		f.Low = append(f.Low, r.row(lowWord, plate))
		f.High = append(f.High, r.row(highWord, plate))
	}
	if r.wrong {
		return f, r.line
	}
	if r.line < last || rows[last] != "" {
		return f, r.line + 1
	}
	return f, 0
}
