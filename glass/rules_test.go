package glass

import (
	"math"
	"slices"
	"testing"

	"thermion/api"
)

// odd are numbers that arguments may have, too.
var odd = []int{math.MinInt, math.MinInt + 15, -1000001, -17, -1, 0, 1, 2, 700, 2000, 2001, 100001, 1000000, 1000001, 1000000001, 1 << 40, 1<<40 + 1, math.MaxInt - 15, math.MaxInt}

// oddStuffs are stuffs that are hardly any.
func oddStuffs() []api.Stuff {
	l := []api.Stuff{{}, stuffG(), {Break: 1, Zones: make([]api.Zone, 5000)}, plainStuff(1000000000, one(100000), one(1000000)), plainStuff(1, of(0, 100000), of(0, 1000000))}
	for _, n := range odd {
		l = append(l,
			changed(stuffG(), func(s *api.Stuff) { s.Break = n }),
			changed(stuffG(), func(s *api.Stuff) { s.Zones[0].From = n }), changed(stuffG(), func(s *api.Stuff) { s.Zones[1].From = n }))
		for i := range rangesOf(new(stuffG())) {
			l = append(l, changed(stuffG(), func(s *api.Stuff) { *rangesOf(s)[i] = one(n) }), changed(stuffG(), func(s *api.Stuff) { *rangesOf(s)[i] = of(0, n) }))
		}
	}
	return l
}

// P1, R3, R5: with whatever stuffs, each function ends, does not panic, and has nothing but an error with an error.
func TestAnyStuffs(t *testing.T) {
	for i, s := range oddStuffs() {
		bad := Check(s)
		for k, n := range odd {
			m := odd[(i+k)%len(odd)]
			r, e1 := Growth(s, n, m)
			x, e2 := Mismatch(s, stuffG(), n, m)
			v, heat, e3 := Seal(stuffG(), s, n, m)
			l, e4 := Matches([]api.Stuff{s, s}, s, m, n)
			g, e5 := Strain(s, n, oven(2000, leg(0, 2)))
			w, tick, e6 := Judge(s, 1000, oven(2000, leg(0, 2)), n)
			o, e7 := Soak(s, of(n, m), 800, 5)
			p, e8 := Soak(s, of(0, 5), n, m)
			list, ticks, e9 := Fastest(s, 1, 2000, []int{n, 0}, []int{200, 2}, m)
			if bad != api.OK && slices.ContainsFunc([]api.Errno{e1, e2, e4, e5, e6, e7, e8, e9}, func(e api.Errno) bool { return e != bad }) || bad != api.OK && e3 != bad {
				t.Error(i, n, m, e1, e2, e3, e4, e5, e6, e7, e8, e9)
			}
			if e1 != api.OK && r != none || e2 != api.OK && x != none || e3 != api.OK && (v != 0 || heat != 0) || e4 != api.OK && l != nil || e5 != api.OK && g != nil || e6 != api.OK && (w != 0 || tick != 0) || e7 != api.OK && o != none || e8 != api.OK && p != none || e9 != api.OK && (list != nil || ticks != 0) {
				t.Error(i, n, m, r, x, v, heat, l, g, w, tick, o, p, list, ticks)
			}
		}
	}
}

// P1, R3, R5: with whatever programmes, coolings, fires and texts, each function ends, does not panic, and has nothing but an error with an error.
func TestAnyThings(t *testing.T) {
	for i, n := range odd {
		for _, m := range odd {
			for _, o := range []api.Oven{oven(n), oven(5, leg(n, m)), oven(5, leg(5, 5), leg(n, m)), oven(n, leg(m, 5)), oven(5, slices.Repeat([]api.Leg{leg(n, m)}, 5000)...)} {
				bad := CheckOven(o)
				l, e1 := Strain(stuffG(), 5, o)
				v, tick, e2 := Judge(stuffG(), 5, o, 5)
				s, e3 := Text(o)
				if e1 != bad || e2 != bad || e3 != bad || bad != api.OK && (l != nil || v != 0 || tick != 0 || s != "") {
					t.Error(i, o, l, v, tick, s, e1, e2, e3)
				}
			}
			for _, stops := range [][]int{{n}, {5, m}, make([]int, 5000)} {
				l, ticks, e := Fastest(stuffM(), 1, 300, stops, []int{7, m}, n)
				if e != api.OK && (l != nil || ticks != 0) {
					t.Error(i, stops, l, ticks, e)
				}
			}
			for _, l := range [][]api.Fire{{fire(n, m)}, {fire(5, 5, n), fire(5, 5, m)}, {fire(5, 5, n, m), {}, {}}, slices.Repeat([]api.Fire{fire(n, m)}, 5000), {fire(5, 5, make([]int, 5000)...)}} {
				bad := CheckFires(l)
				order, e1 := First(l)
				count, e2 := Count(l)
				is := Right(l, order)
				if e1 != bad && e1 != api.ErrMissing || e2 != bad || e1 != api.OK && order != nil || e2 != api.OK && count != 0 || is != (e1 == api.OK) {
					t.Error(i, l, order, count, is, e1, e2)
				}
				for _, order := range [][]int{{n}, {n, m}, {0, n, m}, slices.Repeat([]int{n}, 5000)} {
					if Right(l, order) && (bad != api.OK || len(order) != len(l)) {
						t.Error(i, l, order)
					}
				}
			}
		}
	}
	d := dice(30)
	for range 20000 {
		b := make([]byte, d.upTo(30))
		for i := range b {
			b[i] = "fromti \n0189\x00\xff"[d.upTo(14)]
		}
		if o, row, e := Parse(string(b)); e != api.OK && (o.From != 0 || o.Legs != nil) || (row != 0) != (e == api.ErrForm) {
			t.Fatal(string(b), o, row, e)
		}
	}
}

// P1: the greatest work ends.
func TestGreatestWork(t *testing.T) {
	s := api.Stuff{Break: 1000000000}
	for i := range 16 {
		s.Zones = append(s.Zones, zone(i, one(100000), one(0)))
	}
	twelve := slices.Repeat([]api.Stuff{s}, 12)
	if l, e := Matches(twelve, s, 2000, 0); len(l) != 12 || e != api.OK {
		t.Error(l, e)
	}
	o := oven(2000, slices.Repeat([]api.Leg{leg(0, 2000), leg(2000, 2000)}, 10)...)
	if v, n := judged(t, s, 1000, o, 1<<40); v != api.Never || n != 1001 {
		t.Error(v, n)
	}
	if l, e := Strain(s, 1000, o); len(l) != 20 || l[19] != one(40000000000) || e != api.OK {
		t.Error(l, e)
	}
	if l, n, e := Fastest(s, 1000, 2000, []int{1000, 0, 0, 0}, []int{200, 199, 198, 197}, 1<<40); l != nil || n != 0 || e != api.ErrMissing {
		t.Error(l, n, e)
	}
	if n, e := Count(free(8)); n != 40320 || e != api.OK {
		t.Error(n, e)
	}
}

// copyOf returns a stuff with zones of its own.
func copyOf(s api.Stuff) api.Stuff { return api.Stuff{Break: s.Break, Zones: slices.Clone(s.Zones)} }

// sameStuff reports whether two stuffs are equal.
func sameStuff(a, b api.Stuff) bool { return a.Break == b.Break && slices.Equal(a.Zones, b.Zones) }

// R4: arguments are not changed.
func TestArgumentsAreKept(t *testing.T) {
	walls(t, 31, 300, func(d *dice, s api.Stuff, thick int, o api.Oven) {
		y := d.stuff()
		was, other, legs := copyOf(s), copyOf(y), slices.Clone(o.Legs)
		list, stops, paces := []api.Stuff{s, y}, []int{500, 400}, []int{3, 2}
		Check(s)
		CheckOven(o)
		Growth(s, 5, 500)
		Mismatch(s, y, 500, 5)
		Seal(s, y, 500, 5)
		Matches(list, y, 500, 5)
		Strain(s, thick, o)
		Judge(s, thick, o, 5)
		Soak(s, of(5, 50), 500, 3)
		Fastest(s, thick, 600, stops, paces, 5)
		Text(o)
		if !sameStuff(s, was) || !sameStuff(y, other) || !sameStuff(list[0], was) || !sameStuff(list[1], other) || !slices.Equal(o.Legs, legs) || !slices.Equal(stops, []int{500, 400}) || !slices.Equal(paces, []int{3, 2}) {
			t.Error(s, y, list, o, stops, paces)
		}
	})
	firesAll(t, 32, 300, 6, func(d *dice, l []api.Fire) {
		var was []api.Fire
		for _, f := range l {
			was = append(was, fire(f.Heat, f.Hold, slices.Clone(f.After)...))
		}
		order := []int{2, 0, 1}
		CheckFires(l)
		Right(l, order)
		First(l)
		Count(l)
		if !slices.Equal(order, []int{2, 0, 1}) || !slices.EqualFunc(l, was, func(a, b api.Fire) bool {
			return a.Heat == b.Heat && a.Hold == b.Hold && slices.Equal(a.After, b.After)
		}) {
			t.Error(l, was, order)
		}
	})
}

// R4, R6: results are apart, and a call depends on its arguments alone.
func TestCallsAreAlike(t *testing.T) {
	for range 3 {
		first, _ := First(firesF())
		sure, _ := Matches([]api.Stuff{stuffM(), stuffG()}, stuffG(), 500, 300)
		list, ticks, _ := Fastest(stuffM(), 1, 310, []int{305, 300}, []int{3, 1}, 1000)
		strains, _ := Strain(stuffG(), 100, oven(800, leg(700, 10)))
		o, _, _ := Parse("from 8\nto 7 in 6\nto 5 in 4\n")
		if !slices.Equal(first, []int{0, 1, 2}) || !slices.Equal(sure, []int{0, 1}) || !slices.Equal(list, []int{1, 1}) || ticks != 2 || !slices.Equal(strains, []api.Range{of(399609, 399610)}) || o.From != 8 || !slices.Equal(o.Legs, []api.Leg{leg(7, 6), leg(5, 4)}) {
			t.Error(first, sure, list, ticks, strains, o)
		}
		first[0], sure[0], list[0], strains[0], o.Legs[0] = 7, 7, 7, one(7), leg(9, 9)
	}
}
