package curve

import (
	"math"
	"slices"
	"strings"
	"testing"

	"thermion/api"
)

// odd are numbers that arguments may have, too.
var odd = []int{math.MinInt, math.MinInt + 15, -1000001, -17, -1, 0, 1, 2, 999, 1000000, 1000001, 1 << 32, math.MaxInt - 15, math.MaxInt}

// oddLaws are laws that are hardly any.
func oddLaws() []api.Law {
	l := []api.Law{{}, lawL(), lawM()}
	for _, n := range odd {
		for _, m := range odd {
			r := of(n, m)
			l = append(l,
				changed(lawL(), func(l *api.Law) { l.Perv = r }), changed(lawL(), func(l *api.Law) { l.Gain = r }), changed(lawL(), func(l *api.Law) { l.Shift = r }),
				changed(lawL(), func(l *api.Law) { l.Full = r }), changed(lawL(), func(l *api.Law) { l.Part = r }), api.Law{Perv: r, Gain: r, Shift: r, Full: r, Part: r})
		}
	}
	return l
}

// oddFamilies are families that are hardly any.
func oddFamilies() []api.Family {
	l := []api.Family{
		{}, familyF(), linesOf([]int{-1000000}, []int{1000000}), {Low: [][]int{nil, odd}}, {Grid: odd, Plate: odd}, {Grid: make([]int, 5000), Plate: make([]int, 5000)},
		{Grid: []int{0, 1}, Plate: []int{0}, Low: [][]int{{1}, nil}, High: [][]int{nil, {2}}}, {Grid: []int{0}, Plate: []int{0}, Low: make([][]int, 1), High: make([][]int, 1)},
	}
	for _, n := range odd {
		for list := range 6 {
			l = append(l, changed(familyF(), func(f *api.Family) { listsOf(f)[list][0] = n }), changed(familyF(), func(f *api.Family) { listsOf(f)[list][1] = n }))
		}
	}
	return l
}

// P1, R3, R5: with whatever arguments, each function of laws ends, does not panic, and has nothing but an error with an error.
func TestAnyLaws(t *testing.T) {
	for i, l := range oddLaws() {
		bad := CheckLaw(l)
		for _, n := range odd {
			for _, m := range odd {
				a, e1 := Drive(l, n, m)
				b, e2 := Current(l, n, m)
				c, e3 := Of(l, []int{n}, []int{m})
				d, e4 := Narrow(l, []api.Reading{at(0, 0, n, m), at(n, m, 0, 1)})
				if e1 != api.OK && a != none || e2 != api.OK && b != none || e3 != api.OK && !Same(c, api.Family{}) || e4 != api.OK && d != (api.Law{}) {
					t.Error(i, n, m, a, b, c, d)
				}
				if bad != api.OK && (e1 != bad || e2 != bad || e3 != bad || e4 != bad) {
					t.Error(i, n, m, e1, e2, e3, e4)
				}
				if a.Lo > a.Hi || b.Lo > b.Hi {
					t.Error(i, n, m, a, b)
				}
			}
		}
		if f, e := Of(l, odd, odd); e == api.OK || !Same(f, api.Family{}) {
			t.Error(i, f, e)
		}
	}
}

// P1, R3, R5: with whatever arguments, each function of families ends, does not panic, and has nothing but an error with an error.
func TestAnyFamilies(t *testing.T) {
	all := oddFamilies()
	for i, f := range all {
		bad := Check(f)
		for _, n := range odd {
			for _, m := range odd {
				a, e1 := At(f, n, m)
				b, e2 := Slope(f, n, m)
				c, e3 := Yield(f, n, m)
				d, e4 := Gain(f, n, m)
				if e1 != api.OK && a != none || e2 != api.OK && b != none || e3 != api.OK && c != none || e4 != api.OK && d != none {
					t.Error(i, n, m, a, b, c, d)
				}
				if bad != api.OK && (e1 != bad || e2 != bad || e3 != bad || e4 != bad) {
					t.Error(i, n, m, e1, e2, e3, e4)
				}
			}
		}
		for _, g := range all[:12] {
			if Inside(f, g) && (bad != api.OK || Check(g) != api.OK) {
				t.Error(i, g)
			}
			if h, e := Hull([]api.Family{f, g}); e != api.OK && !Same(h, api.Family{}) || bad != api.OK && e != bad {
				t.Error(i, h, e)
			}
		}
		if s, e := Text(f); e != bad || (s == "") != (e != api.OK) || !Same(f, Copy(f)) {
			t.Error(i, s, e)
		}
	}
	for _, s := range []string{"", "\n", "\x00", "\xff\xfe\n", strings.Repeat("curves 40 40\n", 7000), strings.Repeat(" ", 100000), "curves 40 40\ngrid" + strings.Repeat(" 0", 49000)} {
		if f, line, e := Parse(s); !Same(f, api.Family{}) || line == 0 || e != api.ErrForm {
			t.Error(f, line, e)
		}
	}
}

// copies returns copies of families.
func copies(l ...api.Family) []api.Family {
	var c []api.Family
	for _, f := range l {
		c = append(c, Copy(f))
	}
	return c
}

// R4: arguments are not changed.
func TestArgumentsAreKept(t *testing.T) {
	families(t, 30, func(d *dice, f api.Family) {
		l := []api.Family{f, d.familyIn(f), d.tubeIn(f)}
		was := copies(l...)
		grid, plate := slices.Clone(f.Grid), slices.Clone(f.Plate)
		reads := []api.Reading{at(4000, 0, 15000, 15178), at(0, 0, 0, 9)}
		Of(lawM(), f.Grid, f.Plate)
		Narrow(lawM(), reads)
		Hull(l)
		Inside(l[0], l[1])
		At(f, 1, 2)
		Slope(f, 0, 1)
		Yield(f, 0, 0)
		Gain(f, 0, 0)
		Text(f)
		Same(f, l[1])
		Copy(f)
		if !slices.EqualFunc(l, was, Same) || !slices.Equal(grid, f.Grid) || !slices.Equal(plate, f.Plate) || !slices.Equal(reads, []api.Reading{at(4000, 0, 15000, 15178), at(0, 0, 0, 9)}) {
			t.Error(l, was)
		}
	})
}

// R4: results share no memory with arguments, nor with one another, nor parts of them with other parts.
func TestResultsAreApart(t *testing.T) {
	f, one := familyF(), familyF()
	hull, _ := Hull([]api.Family{f})
	more, _ := Hull([]api.Family{f, one})
	of, _ := Of(lawL(), f.Grid, f.Plate)
	twin, _ := Of(lawL(), f.Plate, f.Plate)
	read, _, _ := Parse(textF)
	results := []*api.Family{&hull, &more, &of, &twin, &read, &f, &one}
	var lists [][]int
	for _, r := range results {
		lists = append(lists, listsOf(r)...)
	}
	for i, l := range lists {
		for k := range l {
			l[k] = 1000*i + k
		}
		for n := len(l); n < cap(l); n++ { // what stands behind a list belongs to no other one
			l[:cap(l)][n] = -1
		}
	}
	for i, l := range lists {
		for k := range l {
			if l[k] != 1000*i+k {
				t.Error(i, k, l)
			}
		}
	}
}

// R6: a call depends on its arguments alone: the same one has the same result, whatever was called before.
func TestCallsAreAlike(t *testing.T) {
	reads := []api.Reading{at(-1000, 100000, 15000, 15178)}
	l, e := Narrow(lawM(), reads)
	families(t, 31, func(d *dice, f api.Family) {
		g, p := d.volts()
		a := looked(t, f, g, p)
		Narrow(d.law(), []api.Reading{at(0, 0, 5, 1)})
		made(t, d.law(), f.Grid, f.Plate)
		Parse("curves 2 2\n")
		if b := looked(t, f, g, p); a != b {
			t.Error(a, b)
		}
		if m, e2 := Narrow(lawM(), reads); m != l || e2 != e {
			t.Error(m, e2)
		}
	})
}
