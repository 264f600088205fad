package gauge

import (
	"testing"

	"thermion/api"
)

// P7.5: the chapter's examples.
func TestExamplesOfAges(t *testing.T) {
	for i, c := range []struct {
		r, drift api.Range
		ticks    int
		want     api.Range
	}{{of(10, 20), of(-1, 3), 500, of(9, 22)}, {of(10, 20), none, 5, of(10, 20)}} {
		if r, e := Aged(c.r, c.drift, c.ticks); r != c.want || e != api.OK {
			t.Error(i, r, e)
		}
	}
	for i, c := range []struct{ r, drift, limits, want api.Range }{{of(10, 20), of(0, 1), of(0, 25), of(5000, 1000000)}, {of(10, 20), of(0, 1), of(12, 25), of(-1, 1000000)}, {of(0, 5), one(1000), of(0, 9), of(4, 9)}} {
		if r, e := Keeps(c.r, c.drift, c.limits); r != c.want || e != api.OK {
			t.Error(i, r, e)
		}
	}
}

// drifting is what Aged and Keeps take.
type drifting struct {
	r, drift, limits api.Range
	ticks            int
}

// driftFaults are the faults of a range that drifts, in the order in which they are found.
func driftFaults() []fault[drifting] {
	return []fault[drifting]{
		{func(d *drifting) { d.r.Lo = -1000000001 }, api.ErrRange}, {func(d *drifting) { d.r.Hi = 1000000001 }, api.ErrRange}, {func(d *drifting) { d.drift.Lo = -1000001 }, api.ErrRange}, {func(d *drifting) { d.drift.Hi = 1000001 }, api.ErrRange}, {func(d *drifting) { d.drift = of(1<<63-1, -1<<63) }, api.ErrRange},
		{func(d *drifting) { d.r.Lo = 21 }, api.ErrOrder}, {func(d *drifting) { d.drift.Lo = 4 }, api.ErrOrder},
	}
}

// P7.5: the errors of Aged and Keeps in their order.
func TestErrorsOfAges(t *testing.T) {
	right := func() drifting { return drifting{of(10, 20), of(-1, 3), of(0, 30), 500} }
	aged := []fault[drifting]{{func(d *drifting) { d.ticks = -1 }, api.ErrRange}, {func(d *drifting) { d.ticks = 1000001 }, api.ErrRange}, {func(d *drifting) { d.ticks = -1 << 63 }, api.ErrRange}}
	inOrder(t, right, append(driftFaults(), aged...), func(d drifting) api.Errno {
		r, e := Aged(d.r, d.drift, d.ticks)
		if e != api.OK && r != none {
			t.Error(r, e)
		}
		return e
	})
	kept := []fault[drifting]{{func(d *drifting) { d.limits.Lo = -1000000001 }, api.ErrRange}, {func(d *drifting) { d.limits.Hi = 1000000001 }, api.ErrRange}, {func(d *drifting) { d.limits.Lo = 31 }, api.ErrOrder}}
	inOrder(t, right, append(driftFaults(), kept...), func(d drifting) api.Errno {
		r, e := Keeps(d.r, d.drift, d.limits)
		if e != api.OK && r != none {
			t.Error(r, e)
		}
		return e
	})
}

// P7.5, R7: the edges of what may drift, which may go beyond all values.
func TestAgesByHand(t *testing.T) {
	for i, c := range []struct {
		r, drift api.Range
		ticks    int
		want     api.Range
	}{
		{all, of(-1000000, 1000000), 1000000, of(-2000000000, 2000000000)}, {all, of(-1000000, 1000000), 0, all}, {one(1000000000), one(1000000), 1000000, one(2000000000)}, {one(-1000000000), one(-1000000), 1, one(-1000001000)},
		{none, one(1), 1, of(0, 1)}, {none, one(-1), 1, of(-1, 0)}, {none, one(1), 999, of(0, 1)}, {none, one(1), 1000, one(1)}, {none, one(1), 1001, of(1, 2)}, {none, one(-1), 1000, one(-1)}, {none, one(-1), 1001, of(-2, -1)}, {none, one(-999), 1000000, one(-999000)},
	} {
		if r, e := Aged(c.r, c.drift, c.ticks); r != c.want || e != api.OK {
			t.Error(i, r, e)
		}
	}
	for i, c := range []struct{ r, drift, limits, want api.Range }{
		{none, none, none, one(1000000)}, {none, none, one(1), one(-1)}, {of(0, 1), none, one(1), of(-1, 1000000)},
		{none, one(1), none, of(0, 999)}, {none, one(-1), none, of(0, 999)}, {none, one(1), of(0, 1000), one(1000000)}, {none, one(1), of(0, 999), of(999000, 999999)}, {none, one(1000), of(0, 999999), of(999999, 999999)}, {none, one(1000), of(0, 1000000), one(1000000)},
		// What comes into the limits only later does not count.
		{none, one(1000), of(1, 5), one(-1)}, {of(0, 2), one(1000), of(1, 5), of(-1, 5)}, {of(4, 9), one(-1000), of(1, 5), of(-1, 8)}, {all, of(-1000000, 1000000), all, of(0, 1000000)}, {all, one(1), all, of(0, 1000000)}, {one(1000000000), one(1000000), all, none},
	} {
		if r, e := Keeps(c.r, c.drift, c.limits); r != c.want || e != api.OK {
			t.Error(i, r, e)
		}
	}
}

// drift returns a range that drifts, with limits; slow ones may take long to go over them.
func (d *dice) drift() drifting {
	wide := []int{3, 100, 2000}[d.upTo(3)]
	x := drifting{r: d.near(-500, 500, wide), drift: d.near(-2000, 2000, wide)}
	switch d.upTo(4) {
	case 0:
		x.drift = d.any(-1000000, 1000000)
	case 1:
		x.drift = d.near(-3, 3, 3)
	}
	x.limits = d.wider(x.r, -3000, 3000)
	if d.upTo(3) == 0 {
		x.limits = d.near(-700, 700, wide)
	}
	x.ticks = d.upTo([]int{3, 2000, 1000001}[d.upTo(3)])
	return x
}

// plainAged rounds outwards.
func plainAged(d drifting, ticks int) api.Range {
	return of(d.r.Lo+floor(ticks*d.drift.Lo, 1000), d.r.Hi+ceil(ticks*d.drift.Hi, 1000))
}

// P7.5: Aged and Keeps against all ticks, one after the other.
func TestAges(t *testing.T) {
	count := map[string]int{}
	d := dice(30)
	for range 400 {
		x := d.drift()
		if r, e := Aged(x.r, x.drift, x.ticks); r != plainAged(x, x.ticks) || e != api.OK {
			t.Fatal(x, r, e)
		}
		want := one(-1)
		surely, may := true, true
		for n := 0; n <= 1000000 && may; n++ {
			r := plainAged(x, n)
			surely = surely && isRangeIn(r, x.limits)
			may = r.Lo <= x.limits.Hi && x.limits.Lo <= r.Hi
			if surely {
				want.Lo = n
			}
			if may {
				want.Hi = n
			}
		}
		if r, e := Keeps(x.r, x.drift, x.limits); r != want || e != api.OK {
			t.Fatal(x, r, e, want)
		}
		for _, n := range []int{want.Lo, want.Hi} {
			switch n {
			case -1:
				count["never"]++
			case 1000000:
				count["ever"]++
			default:
				count["ended"]++
			}
		}
	}
	if count["never"] < 50 || count["ever"] < 50 || count["ended"] < 50 {
		t.Error(count)
	}
}
