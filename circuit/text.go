package circuit

import (
	"strconv"
	"strings"

	"thermion/api"
)

// The first words of the rows of a text.
const (
	inputsWord = "inputs"
	stageWord  = "stage"
	tapWord    = "tap"
)

// maxNumber is the greatest number of 9 digits.
const maxNumber = 999999999

// Text returns the text of a net.
func Text(n api.Net) (string, api.Errno) {
	if e := Check(n); e != api.OK {
		return "", e
	}
	text := appendRow(nil, inputsWord, n.Inputs)
	for _, s := range n.Stages {
		text = appendRow(text, stageWord, s.Tube, s.Supply.Lo, s.Supply.Hi, s.Load.Lo, s.Load.Hi, s.Bias.Lo, s.Bias.Hi)
		for _, t := range s.Taps {
			text = appendRow(text, tapWord, t.Node, t.Num, t.Den)
		}
	}
	return string(text), api.OK
}

// appendRow appends a row of a word and numbers to a text.
func appendRow(text []byte, word string, numbers ...int) []byte {
	text = append(text, word...)
	for _, n := range numbers {
		text = append(text, ' ')
		text = strconv.AppendInt(text, int64(n), 10)
	}
	return append(text, '\n')
}

// Parse returns the net of a text, with families; with ErrForm the number of the first row that is not as said.
func Parse(text string, tubes []api.Family) (n api.Net, row int, e api.Errno) {
	if len(text) > api.MaxNet {
		return api.Net{}, 0, api.ErrLong
	}
	n, wrong := read(text)
	if wrong != 0 {
		return api.Net{}, wrong, api.ErrForm
	}
	n.Tubes = tubes
	if e := Check(n); e != api.OK {
		return api.Net{}, 0, e
	}
	return Copy(n), 0, api.OK
}

// read returns the net of a text, and the number of the first row that is not as said (0: there is none).
func read(text string) (n api.Net, wrong int) {
	rows := strings.Split(text, "\n")
	last := len(rows) - 1 // what stands behind the last line feed, which should be nothing
	var r reader
	for i, row := range rows[:last] {
		if !r.add(meaning(row)) {
			return api.Net{}, i + 1
		}
	}
	if !r.begun || rows[last] != "" {
		return api.Net{}, last + 1
	}
	return r.net, 0
}

// inputs is what the first row means: how many inputs a net has. (The others mean an api.Stage, without its taps, and an api.Tap.)
type inputs int

// meaning returns what a row means, nil if it is nothing that a row may mean.
func meaning(row string) any {
	words := strings.Split(row, " ")
	l, is := numbers(words[1:])
	switch {
	case !is:
		return nil
	case words[0] == inputsWord && len(l) == 1:
		return inputs(l[0])
	case words[0] == stageWord && len(l) == 7:
		return api.Stage{Tube: l[0], Supply: api.Range{Lo: l[1], Hi: l[2]}, Load: api.Range{Lo: l[3], Hi: l[4]}, Bias: api.Range{Lo: l[5], Hi: l[6]}}
	case words[0] == tapWord && len(l) == 3:
		return api.Tap{Node: l[0], Num: l[1], Den: l[2]}
	}
	return nil
}

// numbers reads words, and reports whether all of them are numbers as said.
func numbers(words []string) (l []int, is bool) {
	for _, w := range words {
		n, err := strconv.Atoi(w)
		if err != nil || !within(n, -maxNumber, maxNumber) || strconv.Itoa(n) != w { // numbers are written in one way only
			return nil, false
		}
		l = append(l, n)
	}
	return l, true
}

// reader puts together what rows mean.
type reader struct {
	net   api.Net
	begun bool // the first row has been read
}

// add adds what the next row means, and reports whether this may stand there.
func (r *reader) add(row any) bool {
	switch m := row.(type) {
	case inputs:
		if r.begun {
			return false
		}
		r.net.Inputs, r.begun = int(m), true
		return true
	case api.Stage:
		r.net.Stages = append(r.net.Stages, m)
		return r.begun
	case api.Tap:
		if len(r.net.Stages) == 0 {
			return false
		}
		s := &r.net.Stages[len(r.net.Stages)-1]
		s.Taps = append(s.Taps, m)
		return true
	}
	return false
}
