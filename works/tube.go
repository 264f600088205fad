package works

import (
	"thermion/api"
	"thermion/gauge"
	"thermion/match"
)

// How weeks are counted on marks.
const (
	weeksOfYear = 52
	yearsOfMark = 100
)

// show notes what a meter showed in a test of a tube.
func (f *foreman) show(o order) (string, api.Errno) {
	n, test, s := o.numbers[0], o.numbers[1], api.Shown{Meter: o.numbers[2], Number: o.numbers[3]}
	v := f.tube(n)
	if v == nil || !within(test, 0, len(v.Tests)-1) {
		return "", api.ErrMissing
	}
	if v.State != api.ValveSealed {
		return "", api.ErrState
	}
	if !within(s.Meter, 0, len(f.plant.Bench)-1) {
		return "", api.ErrMissing
	}
	if f.plant.Bench[s.Meter].Due < f.Tick {
		return "", api.ErrState
	}
	if _, e := gauge.True(f.plant.Bench, s.Meter, s.Number); e != api.OK {
		return "", e
	}
	if len(v.Tests[test]) == api.MaxShown {
		return "", api.ErrFull
	}
	v.Tests[test] = append(v.Tests[test], s)
	f.shown = append(f.shown, api.Entry{Tick: f.Tick, Valve: n, Test: test, Meter: s.Meter, Number: s.Number})
	return done, api.OK
}

// verdictOn returns the verdict on the tests of a tube that is sealed, and its place.
func (f *foreman) verdictOn(number int) (verdict, place int, e api.Errno) {
	v := f.tube(number)
	if v == nil {
		return 0, 0, api.ErrMissing
	}
	if v.State != api.ValveSealed {
		return 0, 0, api.ErrState
	}
	return gauge.Sheet(f.plant.Bench, f.Tick, f.modelOf(*v).Limits, v.Tests)
}

// judge says what follows from the tests of a tube.
func (f *foreman) judge(o order) (string, api.Errno) {
	verdict, place, e := f.verdictOn(o.numbers[0])
	if e != api.OK {
		return "", e
	}
	if verdict == api.Sure {
		return verdicts[verdict], api.OK
	}
	return sentence(verdicts[verdict], digits(place)), api.OK
}

// sell sells a tube whose tests are all right for sure.
func (f *foreman) sell(o order) (string, api.Errno) {
	n := o.numbers[0]
	verdict, _, e := f.verdictOn(n)
	if e != api.OK {
		return "", e
	}
	if verdict != api.Sure {
		return "", api.ErrUnsure
	}
	text, e := match.Text(f.mark(n))
	if e != api.OK { // there is none in a valid plant
		return "", e
	}
	v := f.tube(n)
	v.State, v.Mark = api.ValveSold, text
	f.move(f.taken(*v), inUse, inSold)
	return text, api.OK
}

// mark returns the mark of a tube that is sold now.
func (f *foreman) mark(number int) api.Mark {
	m := f.modelOf(*f.tube(number))
	week := f.Tick / f.plant.Week
	return api.Mark{Type: m.Name, Year: week / weeksOfYear % yearsOfMark, Week: week%weeksOfYear + 1, Line: m.Line, Number: number}
}

// scrap makes a tube scrap.
func (f *foreman) scrap(o order) (string, api.Errno) {
	v := f.tube(o.numbers[0])
	if v == nil {
		return "", api.ErrMissing
	}
	if v.State != api.ValveOpen && v.State != api.ValveSealed {
		return "", api.ErrState
	}
	f.lose(v)
	return done, api.OK
}
