package mount

import (
	"slices"
	"testing"

	"thermion/api"
	"thermion/curve"
	"thermion/field"
)

// great calls f with chains of up to 24 points that positions fit, and their tight ranges.
func great(t *testing.T, seed dice, f func(d *dice, c api.Chain, r [][]api.Range)) {
	t.Helper()
	clashes := 0
	chains(t, seed, 400, 24, []int{9, 1000, api.MaxLength}[int(seed)%3], func(d *dice, c api.Chain) {
		r, e := Tight(c)
		if e == api.ErrClash {
			clashes++
			return
		}
		if e != api.OK {
			t.Error(e)
		}
		f(d, c, r)
	})
	if clashes > 200 {
		t.Error("too few cases", clashes)
	}
}

// P4.7 (tight): the far and the near positions fit, so the ends of tight ranges are reached.
func TestEndsAreReached(t *testing.T) {
	for seed := range dice(3) {
		great(t, 10+seed, func(d *dice, c api.Chain, r [][]api.Range) {
			for a := range c.Points {
				far, _ := Far(c, a)
				near, _ := Near(c, a)
				if !Fits(c, far) || !Fits(c, near) || far[a] != 0 || near[a] != 0 {
					t.Error(a, far, near)
				}
				for b := range c.Points {
					if r[a][b] != of(near[b], far[b]) {
						t.Error(a, b, r[a][b])
					}
				}
			}
		})
	}
}

// P4.7 (tight), P0: positions that fit keep to all tight ranges.
func TestPositionsKeepToTightRanges(t *testing.T) {
	d := dice(13)
	for range 500 {
		c := links(d.from(2, 24))
		var at []int
		for range c.Points {
			at = append(at, d.from(-400000, 400000))
		}
		for p := range c.Points - 1 {
			a, x := d.upTo(p+1), p+1
			gap := at[x] - at[a]
			c.Links = append(c.Links, between(a, x, of(gap-d.upTo(200000), gap+d.upTo(200000))))
		}
		if !Fits(c, at) {
			t.Fatal(c, at)
		}
		r := tightOf(t, c)
		for a := range c.Points {
			for b := range c.Points {
				if !isRangeIn(one(at[b]-at[a]), r[a][b]) {
					t.Fatal(c, at, a, b, r[a][b])
				}
			}
		}
	}
}

// P4.8: tight ranges go together, and those of the other direction are the negative ones.
func TestTightRangesGoTogether(t *testing.T) {
	great(t, 14, func(d *dice, c api.Chain, r [][]api.Range) {
		for a := range c.Points {
			if r[a][a] != none {
				t.Error(a, r[a][a])
			}
			for b := range c.Points {
				if r[a][b] != of(-r[b][a].Hi, -r[b][a].Lo) || r[a][b].Lo > r[a][b].Hi {
					t.Error(a, b, r[a][b], r[b][a])
				}
				for x := range c.Points {
					if sum := of(r[a][x].Lo+r[x][b].Lo, r[a][x].Hi+r[x][b].Hi); !isRangeIn(r[a][b], sum) {
						t.Error(a, x, b, r[a][b], sum)
					}
				}
			}
		}
	})
}

// P4.9: with one link more, or a narrower one, no tight range becomes wider; a link that is Sure changes none, one that is Never leaves no positions.
func TestFurtherLinks(t *testing.T) {
	var seen [4]int
	for seed := range dice(3) {
		great(t, 15+seed, func(d *dice, c api.Chain, r [][]api.Range) {
			if c.Points < 2 {
				return
			}
			l := d.link(c, []int{9, 1000, api.MaxLength}[(15+seed)%3])
			v, e := Ask(c, []api.Link{l})
			if e != api.OK {
				t.Fatal(l, e)
			}
			seen[v[0]]++
			further, e := Tight(more(c, l))
			if (v[0] == api.Never) != (e == api.ErrClash) || e != api.OK && e != api.ErrClash {
				t.Error(l, v, e)
			}
			for a := range further {
				for b := range further {
					if !isRangeIn(further[a][b], r[a][b]) || v[0] == api.Sure && further[a][b] != r[a][b] {
						t.Error(l, v, a, b, further[a][b], r[a][b])
					}
				}
			}
			n := d.upTo(len(c.Links))
			narrow := more(c)
			narrow.Links[n].Gap = d.any(c.Links[n].Gap.Lo, c.Links[n].Gap.Hi)
			in, e := Tight(narrow)
			if e != api.OK && e != api.ErrClash {
				t.Error(e)
			}
			for a := range in {
				for b := range in {
					if !isRangeIn(in[a][b], r[a][b]) {
						t.Error(narrow, a, b, in[a][b], r[a][b])
					}
				}
			}
		})
	}
	if seen[1] < 30 || seen[2] < 100 || seen[3] < 100 {
		t.Error("too few cases", seen)
	}
}

// P4.10: places are all positions that fit, without repetition, in lexicographic order.
func TestPlacesAreAll(t *testing.T) {
	fits := 0
	chains(t, 18, 3000, 4, 3, func(d *dice, c api.Chain) {
		all := plainPlaces(c, 9)
		l, e := Places(c)
		switch {
		case len(all) == 0:
			if l != nil || e != api.ErrClash {
				t.Error(l, e)
			}
		case len(all) > 300:
			if l != nil || e != api.ErrFull {
				t.Error(l, e)
			}
		default:
			fits++
			if !same(l, all) || e != api.OK || !slices.IsSortedFunc(l, slices.Compare[[]int]) {
				t.Error(l, all, e)
			}
			for _, at := range l {
				if !Fits(c, at) || at[0] != 0 {
					t.Error(at)
				}
			}
		}
	})
	if fits < 1000 {
		t.Error("too few cases", fits)
	}
}

// P4.11 (windings): if all numbers are alone, the turns stand where they should.
func TestTurnsStandWhereTheyShould(t *testing.T) {
	d := dice(19)
	for range 300 {
		turns, wire, pitch, first, percent := d.from(1, 11), d.from(1, 10000), d.from(1, 100)*100, d.upTo(900000), d.upTo(101)
		stretched := pitch/100*100 + pitch/100*percent // stretched by whole percents, it is a whole number
		w := api.Winding{Turns: turns, Wire: one(wire), Pitch: one(pitch), Stretch: one(percent * 10000), First: one(first), Length: one((turns-1)*stretched + wire)}
		if w.Length.Lo > api.MaxLength {
			continue
		}
		c, e := Wind(w)
		if e != api.OK {
			t.Fatal(w, e)
		}
		l, e := Places(c)
		if len(l) != 1 || e != api.OK {
			t.Fatal(w, l, e)
		}
		for turn := range turns {
			if l[0][2*turn+1] != first+turn*stretched || l[0][2*turn+2] != first+turn*stretched+wire {
				t.Fatal(w, turn, l)
			}
		}
		w.Length = one(w.Length.Lo + 1)
		if c, _ = Wind(w); turns > 1 {
			if _, e := Places(c); e != api.ErrClash {
				t.Fatal(w, e)
			}
		}
	}
}

// P4.11 (windings): the tight range from the first to the last turn lies within the sum of the pitches, and within Length.
func TestTurnsLieWithinLength(t *testing.T) {
	d := dice(20)
	fits := 0
	for range 500 {
		w := api.Winding{Turns: d.from(2, 11), Wire: d.any(1, 60), Pitch: d.any(100, 300), Stretch: d.any(0, 40000), First: d.any(0, 500)}
		middle := (w.Turns - 1) * (w.Pitch.Lo + w.Pitch.Hi) / 2
		w.Length = of(middle-d.upTo(300), middle+d.upTo(300))
		w.Length.Lo = max(0, w.Length.Lo)
		c, e := Wind(w)
		if e != api.OK || CheckChain(c) != api.OK {
			t.Fatal(w, e)
		}
		r, e := Tight(c)
		if e != api.OK {
			continue
		}
		fits++
		begins, ends := 2*w.Turns-1, 2*w.Turns
		sum := of((w.Turns-1)*c.Links[3].Gap.Lo, (w.Turns-1)*c.Links[3].Gap.Hi)
		if !isRangeIn(r[1][begins], sum) || !isRangeIn(r[1][ends], w.Length) || !isRangeIn(r[begins][ends], w.Wire) || !isRangeIn(r[0][1], w.First) {
			t.Fatal(w, r[1])
		}
		if c.Links[3].Gap.Lo > w.Pitch.Lo*2 || c.Links[3].Gap.Hi < w.Pitch.Hi { // it is stretched, not by more than the whole
			t.Fatal(w, c.Links[3])
		}
	}
	if fits < 200 {
		t.Error("too few cases", fits)
	}
}

// walk puts in parts that are offered until there are none, and returns their order.
func walk(t *testing.T, d *dice, k api.Kit, offer func(api.Kit, []int) ([]int, api.Errno)) []int {
	t.Helper()
	var order []int
	for {
		in := slices.Sorted(slices.Values(order))
		l, e := offer(k, in)
		if e != api.OK {
			t.Fatal(k, in, e)
		}
		if len(l) == 0 {
			return order
		}
		order = append(order, l[d.upTo(len(l))])
	}
}

// P4.12 (guard): whoever puts in only what Guard says, beginning with a good state, comes to a whole order. P4.15: none has less time than the fastest one.
func TestGuarded(t *testing.T) {
	good := 0
	kits(t, 21, 600, 10, func(d *dice, k api.Kit) {
		n, _ := Orders(k)
		fastest, ticks, e := Fastest(k)
		if (n == 0) != (e == api.ErrState) {
			t.Error(n, e)
		}
		if n == 0 {
			if l, e := Guard(k, nil); l != nil || e != api.OK {
				t.Error(l, e)
			}
			return
		}
		good++
		if !isOrder(k, fastest) || len(fastest) != len(k.Parts) || plainTime(k, fastest) != ticks {
			t.Error(fastest, ticks)
		}
		for range 5 {
			order := walk(t, d, k, Guard)
			if len(order) != len(k.Parts) || !isOrder(k, order) || plainTime(k, order) < ticks {
				t.Error(order, fastest, ticks)
			}
		}
	})
	if good < 200 {
		t.Error("too few cases", good)
	}
}

// isOrder reports whether parts may go in one after the other.
func isOrder(k api.Kit, order []int) bool {
	for i, p := range order {
		if !slices.Contains(plainMay(k, order[:i]), p) {
			return false
		}
	}
	return true
}

// P4.13: a kit without whole orders has a stuck state; the order that Stuck returns is one, and no shorter one is stuck.
func TestStuckOnes(t *testing.T) {
	stuck := 0
	kits(t, 22, 600, 9, func(d *dice, k api.Kit) {
		n, _ := Orders(k)
		order, is, e := Stuck(k)
		if n == 0 && !is || e != api.OK {
			t.Error(n, order, is, e)
		}
		if is {
			stuck++
			if !isOrder(k, order) || len(order) == len(k.Parts) || len(plainMay(k, order)) > 0 {
				t.Error(order)
			}
		}
		for range 10 {
			l := walk(t, d, k, May)
			if len(l) < len(k.Parts) && (!is || len(l) < len(order) || len(l) == len(order) && slices.Compare(l, order) < 0) {
				t.Error(l, order, is)
			}
		}
	})
	if stuck < 200 {
		t.Error("too few cases", stuck)
	}
}

// P4.14: more Needs or Bars never make Orders more.
func TestMoreInterlocks(t *testing.T) {
	fewer := 0
	kits(t, 23, 800, 8, func(d *dice, k api.Kit) {
		if len(k.Parts) < 2 {
			return
		}
		own := d.upTo(len(k.Parts))
		other := (own + d.from(1, len(k.Parts)-1)) % len(k.Parts)
		p := &k.Parts[own]
		before, _ := Orders(k)
		list := []*[]int{&p.Needs, &p.Bars}[d.upTo(2)]
		if slices.Contains(*list, other) {
			return
		}
		*list = slices.Sorted(slices.Values(append(slices.Clone(*list), other)))
		after, e := Orders(k)
		if after > before || e != api.OK {
			t.Error(own, other, before, after, e)
		}
		if after < before {
			fewer++
		}
	})
	if fewer < 100 {
		t.Error("too few cases", fewer)
	}
}

// P4.16 (plans): the plans that All returns are valid, and those of all positions that fit; with a narrower chain there are no others.
func TestPlansOfAllPositions(t *testing.T) {
	d := dice(24)
	drawn, narrower := 0, 0
	for range 20000 {
		m := d.mount()
		l, e := All(m)
		if e != api.OK {
			continue
		}
		drawn++
		var want []api.Plan
		for _, at := range plainPlaces(m.Chain, 12) {
			p, e := Draw(m, at)
			if e != api.OK || field.Check(p) != api.OK {
				t.Fatal(m, at, e)
			}
			want = append(want, p)
		}
		if !slices.EqualFunc(l, want, field.Same) {
			t.Fatal(m, l, want)
		}
		in := changed(m, func(m *api.Mount) { m.Chain = more(m.Chain) })
		if len(in.Chain.Links) == 0 {
			continue
		}
		n := d.upTo(len(in.Chain.Links))
		in.Chain.Links[n].Gap = d.any(in.Chain.Links[n].Gap.Lo, in.Chain.Links[n].Gap.Hi)
		fewer, e := All(in)
		if e != api.OK && e != api.ErrClash {
			t.Fatal(in, e)
		}
		if len(fewer) < len(l) {
			narrower++
		}
		for _, p := range fewer {
			if !slices.ContainsFunc(l, func(q api.Plan) bool { return field.Same(p, q) }) {
				t.Fatal(m, in, p)
			}
		}
	}
	if drawn < 300 || narrower < 50 {
		t.Error("too few cases", drawn, narrower)
	}
}

// triode returns a mount of a cathode (1), a grid (2) of two wires, and a plate (3): the point 2 is where the grid begins.
func triode(gap api.Range) api.Mount {
	c := links(6, between(0, 1, one(1)), between(1, 2, gap), between(2, 3, one(1)), between(1, 4, of(4, 5)), between(4, 5, one(1)))
	return api.Mount{Chain: c, Wide: 8, High: 4, Bars: []api.Bar{bar(1, 0, 1, 0, 3), bar(2, 2, 3, 0, 0), bar(2, 2, 3, 2, 2), bar(3, 4, 5, 0, 3)}}
}

// T2 (mounts): a mount whose points are all moved alike is drawn alike.
func TestMovedAlike(t *testing.T) {
	d := dice(25)
	for range 2000 {
		m := d.mount()
		places, e := Places(m.Chain)
		if e != api.OK {
			continue
		}
		at := places[d.upTo(len(places))]
		moved, by := slices.Clone(at), d.from(-1<<40, 1<<40)
		for i := range moved {
			moved[i] += by
		}
		a, e1 := Draw(m, at)
		b, e2 := Draw(m, moved)
		if !field.Same(a, b) || e1 != e2 {
			t.Fatal(m, at, by, a, b)
		}
	}
}

// T2 (mounts): a mount whose grid is moved by a column is the plan's electrode shifted by a cell.
func TestGridIsShifted(t *testing.T) {
	m := triode(of(0, 3))
	for x := range 3 {
		at := []int{0, 1, 1 + x, 2 + x, 5, 6}
		moved := []int{0, 1, 2 + x, 3 + x, 5, 6}
		a, e := Draw(m, at)
		b, e2 := Draw(m, moved)
		if e != api.OK || e2 != api.OK {
			t.Fatal(e, e2)
		}
		right, e := field.Shift(a, 2, 1, 0)
		left, e2 := field.Shift(b, 2, -1, 0)
		if !field.Same(right, b) || !field.Same(left, a) || e != api.OK || e2 != api.OK {
			t.Error(x, a, b, right, left)
		}
	}
}

// T2 (mounts): whatever positions its parts take, the currents of a mount lie within those of a law with all their amplifications.
func TestCurrentsOfMounts(t *testing.T) {
	plans, e := All(triode(of(1, 2)))
	if e != api.OK || len(plans) != 4 {
		t.Fatal(plans, e)
	}
	var gains []api.Range
	for _, p := range plans {
		g, e := field.Amplification(p, 200, 1, 2, 3)
		if e != api.OK {
			t.Fatal(p, e)
		}
		gains = append(gains, g)
	}
	whole := gains[0]
	for _, g := range gains {
		whole = of(min(whole.Lo, g.Lo), max(whole.Hi, g.Hi))
	}
	if slices.Index(gains, whole) >= 0 {
		t.Error("the positions make no difference", gains)
	}
	law := func(gain api.Range) api.Law {
		return api.Law{Perv: of(50000, 70000), Gain: gain, Full: one(api.MaxCurrent), Part: one(api.Million)}
	}
	for _, g := range gains {
		for _, grid := range []int{-4000, -1000, 0, 3000} {
			for _, plate := range []int{0, 50000, 250000} {
				a, e := curve.Current(law(g), grid, plate)
				b, e2 := curve.Current(law(whole), grid, plate)
				if !isRangeIn(a, b) || e != api.OK || e2 != api.OK {
					t.Error(g, grid, plate, a, b, e, e2)
				}
			}
		}
	}
}
