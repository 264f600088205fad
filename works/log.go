package works

import (
	"strings"

	"thermion/api"
)

// maxLogDigits is how many digits the numbers of a log may have: one more than those of lines, as ticks and numbers go up to 1,000,000,000.
const maxLogDigits = maxDigits + 1

// wordsOfEntry is how many words a row of a log has.
const wordsOfEntry = 5

// Write returns the log of entries.
func Write(l []api.Entry) (string, api.Errno) {
	if len(l) > api.MaxOrders {
		return "", api.ErrFull
	}
	var text []byte
	for _, x := range l {
		if !isEntry(x) {
			return "", api.ErrRange
		}
		text = append(text, sentence(digits(x.Tick), digits(x.Valve), digits(x.Test), digits(x.Meter), digits(x.Number))+"\n"...)
	}
	return string(text), api.OK
}

// isEntry reports whether an entry may stand in a log.
func isEntry(x api.Entry) bool {
	return within(x.Tick, 0, maxTick) && within(x.Valve, 1, api.MaxMade) && within(x.Test, 0, api.MaxValues-1) && within(x.Meter, 0, api.MaxMeters-1) && within(x.Number, -api.MaxShow, api.MaxShow)
}

// Read returns the entries of a log; with an error of a row its number.
func Read(log string) (l []api.Entry, line int, e api.Errno) {
	if len(log) > api.MaxBooks {
		return nil, 0, api.ErrLong
	}
	for row, ended := range rows(log) {
		x, is := readEntry(row)
		if !is || !ended {
			return nil, len(l) + 1, api.ErrForm
		}
		l = append(l, x)
	}
	if len(l) > api.MaxOrders {
		return nil, 0, api.ErrFull
	}
	for i, x := range l {
		if !isEntry(x) {
			return nil, i + 1, api.ErrRange
		}
	}
	return l, 0, api.OK
}

// readEntry reads a row of a log, and reports whether it is as said.
func readEntry(row string) (x api.Entry, is bool) {
	words := strings.Split(row, " ")
	if len(words) != wordsOfEntry {
		return api.Entry{}, false
	}
	var l [wordsOfEntry]int
	for i, word := range words {
		if l[i], is = number(word, maxLogDigits, i == len(l)-1); !is { // only the last one may be below 0
			return api.Entry{}, false
		}
	}
	return api.Entry{Tick: l[0], Valve: l[1], Test: l[2], Meter: l[3], Number: l[4]}, true
}
