package glass

import (
	"slices"
	"testing"

	"thermion/api"
)

// P5.2: mismatches that were found by hand.
func TestMismatch(t *testing.T) {
	for i, c := range []struct {
		x, y      api.Stuff
		set, heat int
		want      api.Range
	}{
		{stuffG(), stuffM(), 500, 300, of(-100000, 100000)}, {stuffM(), stuffG(), 500, 300, of(-100000, 100000)}, {stuffG(), stuffM(), 800, 700, one(-1050000)}, {stuffM(), stuffG(), 800, 700, one(1050000)},
		{stuffG(), stuffM(), 800, 650, of(-1075000, -1025000)}, {stuffG(), stuffM(), 700, 702, one(21000)}, {stuffG(), stuffM(), 702, 700, one(-21000)}, {stuffM(), stuffG(), 698, 700, of(-1000, 1000)},
		{stuffM(), stuffM(), 900, 5, none}, {stuffG(), stuffG(), 900, 900, none}, {stuffG(), stuffG(), 700, 690, of(-10000, 10000)}, {stuffG(), stuffG(), 700, 710, none},
		{plainStuff(1, one(100000), none), plainStuff(1, none, none), 0, 2000, one(200000000)}, {plainStuff(1, one(100000), none), plainStuff(1, none, none), 2000, 0, one(-200000000)},
		{plainStuff(1, of(3, 7), none), plainStuff(1, of(1, 20), none), 10, 12, of(-34, 12)}, {plainStuff(1, of(3, 7), none), plainStuff(1, of(1, 20), none), 12, 10, of(-12, 34)},
	} {
		if r, e := Mismatch(c.x, c.y, c.set, c.heat); r != c.want || e != api.OK {
			t.Error(i, r, e)
		}
	}
}

// P5.2: heats that there are not, and the order of errors. (stuff_test.go has the errors of the stuffs.)
func TestSealErrors(t *testing.T) {
	for i, c := range []struct {
		set, heat      int
		mismatch, seal api.Errno
	}{
		{0, 0, api.OK, api.OK}, {2000, 0, api.OK, api.OK}, {2000, 2000, api.OK, api.OK}, {0, 2000, api.OK, api.ErrRange}, {5, 6, api.OK, api.ErrRange}, {6, 5, api.OK, api.OK},
		{-1, 0, api.ErrRange, api.ErrRange}, {0, -1, api.ErrRange, api.ErrRange}, {2001, 0, api.ErrRange, api.ErrRange}, {0, 2001, api.ErrRange, api.ErrRange}, {-1, -1, api.ErrRange, api.ErrRange}, {2001, 2001, api.ErrRange, api.ErrRange},
	} {
		if r, e := Mismatch(stuffM(), stuffM(), c.set, c.heat); r != none || e != c.mismatch {
			t.Error(i, r, e)
		}
		v, heat, e := Seal(stuffM(), stuffM(), c.set, c.heat)
		l, f := Matches([]api.Stuff{stuffM()}, stuffM(), c.set, c.heat)
		if e != c.seal || heat != 0 || f != c.seal || (v == api.Sure) != (e == api.OK) || len(l) != v {
			t.Error(i, v, heat, e, l, f)
		}
	}
	short, full := api.Stuff{Break: 1}, api.Stuff{Break: 1, Zones: make([]api.Zone, 17)}
	_, a := Mismatch(short, full, -1, -1)
	_, b := Mismatch(full, short, -1, -1)
	_, _, c := Seal(short, full, -1, -1)
	_, _, d := Seal(full, short, -1, -1)
	if a != api.ErrShort || b != api.ErrFull || c != api.ErrShort || d != api.ErrFull {
		t.Error(a, b, c, d)
	}
}

// P5.2: verdicts on seals that were found by hand, at the edges of limits.
func TestSeal(t *testing.T) {
	// still does not grow; slow grows by 10 a kelvin, wide by 8 to 12.
	still, slow, wide := plainStuff(1000, none, none), plainStuff(100, one(10), none), plainStuff(100, of(8, 12), none)
	late := api.Stuff{Break: 100, Zones: []api.Zone{zone(0, one(10), none), zone(50, of(0, 30), none)}}
	for i, c := range []struct {
		x, y          api.Stuff
		set, from     int
		verdict, heat int
	}{
		{stuffG(), stuffM(), 500, 300, api.Sure, 0}, {stuffG(), stuffM(), 800, 300, api.Never, 752}, {stuffG(), stuffM(), 800, 753, api.Sure, 0}, {stuffG(), stuffM(), 740, 0, api.Unsure, 539}, {stuffG(), stuffM(), 740, 540, api.Sure, 0}, {stuffM(), stuffG(), 800, 300, api.Never, 752},
		{slow, still, 60, 50, api.Sure, 0}, {slow, still, 60, 49, api.Never, 49}, {slow, still, 60, 0, api.Never, 49}, {still, slow, 60, 50, api.Sure, 0}, {still, slow, 60, 49, api.Never, 49}, {slow, still, 10, 0, api.Sure, 0}, {slow, still, 11, 0, api.Never, 0}, {slow, still, 2000, 2000, api.Sure, 0},
		// With 8 to 12 a kelvin 8 kelvin are surely right, 9 to 12 in doubt, and 13 surely wrong; what surely breaks counts before what is in doubt.
		{wide, still, 60, 52, api.Sure, 0}, {wide, still, 60, 51, api.Unsure, 51}, {wide, still, 60, 48, api.Unsure, 51}, {wide, still, 60, 47, api.Never, 47}, {wide, still, 60, 0, api.Never, 47}, {still, wide, 60, 51, api.Unsure, 51}, {still, wide, 60, 47, api.Never, 47}, {wide, still, 9, 0, api.Unsure, 0}, {wide, still, 13, 0, api.Never, 0},
		// In doubt from 54 on, but never sure to break.
		{late, slow, 60, 40, api.Unsure, 54}, {slow, late, 60, 40, api.Unsure, 54}, {slow, late, 60, 55, api.Sure, 0}, {late, late, 53, 0, api.Sure, 0}, {late, late, 54, 0, api.Unsure, 50}, {late, late, 49, 0, api.Sure, 0},
		// The limit is the lesser one, whichever stuff has it.
		{plainStuff(5, none, none), slow, 7, 0, api.Never, 6}, {slow, plainStuff(5, none, none), 7, 0, api.Never, 6}, {plainStuff(10, none, none), slow, 7, 6, api.Sure, 0}, {plainStuff(9, none, none), slow, 7, 6, api.Never, 6},
	} {
		if v, heat := sealed(t, c.x, c.y, c.set, c.from); v != c.verdict || heat != c.heat {
			t.Error(i, v, heat)
		}
	}
}

// P5.2: verdicts are those that one has by looking at each heat; each verdict is met often.
func TestSealIsThatOfHeats(t *testing.T) {
	count := map[int]int{}
	stuffs(t, 2, 3000, func(d *dice, x api.Stuff) {
		y := d.stuff()
		switch d.upTo(3) {
		case 0:
			y = d.stuffIn(x)
		case 1:
			x.Break, y.Break = d.from(1, 1000), d.from(1, 1000)
		}
		set := d.heat()
		from := set - d.upTo(min(set, 60)+1)
		v, heat := sealed(t, x, y, set, from)
		if w, want := plainSeal(x, y, set, from); v != w || heat != want {
			t.Error(y, set, from, v, heat, w, want)
		}
		for range 3 {
			at := d.heat()
			if r, want := mismatched(t, x, y, set, at), plainMismatch(x, y, set, at); r != want {
				t.Error(y, set, at, r, want)
			}
		}
		count[v]++
	})
	if count[api.Sure] < 300 || count[api.Never] < 300 || count[api.Unsure] < 300 {
		t.Error(count)
	}
}

// P5.2: the stuffs whose seals surely hold.
func TestMatches(t *testing.T) {
	bad := api.Stuff{Break: 1, Zones: []api.Zone{zone(0, of(2, 1), none)}}
	twelve := slices.Repeat([]api.Stuff{stuffM()}, 12)
	for i, c := range []struct {
		l         []api.Stuff
		y         api.Stuff
		set, from int
		want      []int
		e         api.Errno
	}{
		{[]api.Stuff{stuffM(), stuffG()}, stuffG(), 500, 300, []int{0, 1}, api.OK}, {[]api.Stuff{stuffM(), stuffG()}, stuffG(), 740, 300, []int{1}, api.OK}, {[]api.Stuff{stuffG(), stuffM()}, stuffG(), 740, 300, []int{0}, api.OK},
		{[]api.Stuff{stuffG(), stuffM(), stuffG()}, stuffM(), 800, 300, []int{1}, api.OK}, {[]api.Stuff{stuffG()}, stuffM(), 800, 300, nil, api.OK}, {[]api.Stuff{stuffG()}, stuffM(), 740, 0, nil, api.OK}, {[]api.Stuff{stuffM(), stuffG(), stuffM()}, stuffM(), 800, 300, []int{0, 2}, api.OK},
		{twelve, stuffM(), 5, 5, []int{0, 1, 2, 3, 4, 5, 6, 7, 8, 9, 10, 11}, api.OK}, {append(slices.Clone(twelve), stuffM()), stuffM(), 5, 5, nil, api.ErrFull}, {make([]api.Stuff, 13), api.Stuff{}, -1, -1, nil, api.ErrFull},
		{nil, api.Stuff{}, -1, -1, nil, api.OK}, {[]api.Stuff{}, bad, 5, 6, nil, api.OK},
		{[]api.Stuff{stuffM(), bad, {}}, stuffM(), 5, 5, nil, api.ErrOrder}, {[]api.Stuff{stuffM(), {}, bad}, stuffM(), 5, 5, nil, api.ErrRange}, {[]api.Stuff{stuffM(), bad}, stuffM(), 5, 6, nil, api.ErrRange}, {[]api.Stuff{bad, stuffM()}, stuffM(), 5, 6, nil, api.ErrOrder}, {[]api.Stuff{stuffM(), bad}, api.Stuff{Break: 1}, 5, 5, nil, api.ErrShort},
	} {
		if l, e := Matches(c.l, c.y, c.set, c.from); !slices.Equal(l, c.want) || e != c.e {
			t.Error(i, l, e)
		}
	}
	d := dice(3)
	for range 300 {
		y, l := d.stuff(), []api.Stuff{d.stuff(), d.stuff(), d.stuff()}
		set := d.heat()
		from := d.upTo(set + 1)
		var want []int
		for i, x := range l {
			if v, _ := sealed(t, x, y, set, from); v == api.Sure {
				want = append(want, i)
			}
		}
		if got, e := Matches(l, y, set, from); !slices.Equal(got, want) || e != api.OK {
			t.Fatal(l, y, set, from, got, want, e)
		}
	}
}
