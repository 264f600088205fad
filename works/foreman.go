package works

import (
	"slices"
	"strings"

	"thermion/api"
)

// maxTick is the greatest tick that there is.
const maxTick = 1000000000

// done is the reply to lines of which nothing more is to be said.
const done = "ok"

// foreman leads a plant line by line: he keeps its books, what was shown so far, and his replies.
type foreman struct {
	api.Books
	plant   api.Plant
	shown   []api.Entry
	replies []byte
}

// deed is what is done with the orders of a verb. It returns the reply; with an error nothing has changed.
type deed func(f *foreman, o order) (string, api.Errno)

// verbs returns what is done with the orders of each verb.
func verbs() map[string]deed {
	return map[string]deed{
		"tick":  (*foreman).tick,
		"guard": (*foreman).guard,
		"free":  (*foreman).free,
		"buy":   (*foreman).buy,
		"lot":   (*foreman).lot,
		"mount": (*foreman).mount,
		"pump":  (*foreman).pump,
		"show":  (*foreman).show,
		"judge": (*foreman).judge,
		"sell":  (*foreman).sell,
		"scrap": (*foreman).scrap,
		"pairs": (*foreman).pairs,
		"trace": (*foreman).trace,
		"stock": (*foreman).stock,
	}
}

// reply does a line, and returns what is said of it.
func (f *foreman) reply(line string) string {
	text, e := f.do(line)
	if e != api.OK {
		return sentence("error", digits(int(e)))
	}
	return text
}

// do does a line, and returns the reply.
func (f *foreman) do(line string) (string, api.Errno) {
	o, is := readOrder(line)
	if !is {
		return "", api.ErrForm
	}
	if f.isBarred(o.verb) {
		return "", api.ErrState
	}
	return verbs()[o.verb](f, o)
}

// isBarred reports whether a rule bars the lines of a verb.
func (f *foreman) isBarred(verb string) bool {
	isDown := func(name string) bool { return !f.isUp(name) }
	for _, r := range f.plant.Rules {
		if r.Verb == verb && (slices.ContainsFunc(r.Needs, isDown) || slices.ContainsFunc(r.Bars, f.isUp)) {
			return true
		}
	}
	return false
}

// isUp reports whether a guard is up.
func (f *foreman) isUp(name string) bool { return slices.Contains(f.Guards, name) }

// tick lets time go on.
func (f *foreman) tick(o order) (string, api.Errno) {
	n := o.numbers[0]
	if n == 0 || f.Tick+n > maxTick {
		return "", api.ErrRange
	}
	f.Tick += n
	return done, api.OK
}

// guard puts a guard up.
func (f *foreman) guard(o order) (string, api.Errno) {
	if f.isUp(o.word) {
		return "", api.ErrExists
	}
	if len(f.Guards) == api.MaxNames {
		return "", api.ErrFull
	}
	f.Guards = append(f.Guards, strings.Clone(o.word)) // the books hold nothing of the sheet
	return done, api.OK
}

// free takes a guard down.
func (f *foreman) free(o order) (string, api.Errno) {
	n := slices.Index(f.Guards, o.word)
	if n < 0 {
		return "", api.ErrMissing
	}
	f.Guards = slices.Delete(f.Guards, n, n+1)
	return done, api.OK
}

// buy brings a material into the store.
func (f *foreman) buy(o order) (string, api.Errno) {
	a, n := &f.Accounts[accountOf(o.word)], o.numbers[0]
	if n == 0 || bought(*a)+n > api.MaxAmounts {
		return "", api.ErrRange
	}
	a.Store += n
	return done, api.OK
}
