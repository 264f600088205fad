package match

import (
	"slices"
	"testing"

	"thermion/api"
	"thermion/gauge"
)

// P8.6 (no more): the best pairing is a pairing, with as many pairs as the bound of the proof; no cut has a lesser bound.
func TestProofs(t *testing.T) {
	for _, k := range []kind{rowKind, smallKind, wideKind} {
		left := 0
		sortings(t, 50, 500, k, func(d *dice, s api.Sorting) {
			l, proof := pairsIn(t, s), proofOf(t, s)
			var taken []int
			for i, p := range l {
				if p[0] >= p[1] || i > 0 && p[0] <= l[i-1][0] || !plainAlike(s, p[0], p[1]) || slices.Contains(taken, p[0]) || slices.Contains(taken, p[1]) {
					t.Error(l, p)
				}
				taken = append(taken, p[:]...)
			}
			if n, e := Bound(s, proof); n != len(l) || n != plainBound(s, proof) || e != api.OK {
				t.Error(l, proof, n, e)
			}
			for range 20 {
				cut := (set(d.upTo(1<<24)) & upTo(len(s.Items))).list()
				if n, e := Bound(s, cut); n < len(l) || n != plainBound(s, cut) || e != api.OK {
					t.Error(l, cut, n, e)
				}
			}
			if len(l) > 0 && 2*len(l) < len(s.Items)-1 {
				left++
			}
		})
		if left < 100 {
			t.Error(k, left)
		}
	}
}

// P8.8 (in a row): of one value without ranges the most pairs are found by going through the items by their values.
func TestPairsInARow(t *testing.T) {
	left := 0
	sortings(t, 51, 2000, rowKind, func(d *dice, s api.Sorting) {
		var values []int
		for _, item := range s.Items {
			values = append(values, item[0].Lo)
		}
		slices.Sort(values)
		pairs := 0
		for i := 0; i+1 < len(values); i++ {
			if values[i+1]-values[i] <= s.Tol[0] {
				pairs++
				i++ // both are paired
			}
		}
		if l := pairsIn(t, s); len(l) != pairs {
			t.Error(l, pairs)
		}
		if 0 < pairs && 2*pairs+1 < len(values) {
			left++
		}
	})
	if left < 500 {
		t.Error(left)
	}
}

// easier returns a sorting with greater tolerances, narrower ranges or more items.
func (d *dice) easier(s api.Sorting, k kind) api.Sorting {
	x := api.Sorting{Tol: slices.Clone(s.Tol)}
	for _, item := range s.Items {
		x.Items = append(x.Items, slices.Clone(item))
	}
	which := d.upTo(3)
	for i := range x.Tol {
		if which == 0 {
			x.Tol[i] += d.upTo(3)
		}
	}
	for _, item := range x.Items {
		for i, r := range item {
			if which == 1 {
				item[i] = d.in(r)
			}
		}
	}
	if which == 2 && len(x.Items) < k.items {
		var item []api.Range
		for range x.Tol {
			item = append(item, d.near(k.most, k.wide))
		}
		x.Items = slices.Insert(x.Items, d.upTo(len(x.Items)+1), item)
	}
	return x
}

// P8.9, P0: with greater tolerances, narrower ranges or more items there are not fewer pairs.
func TestEasierSortings(t *testing.T) {
	for _, k := range []kind{rowKind, smallKind, wideKind} {
		more := 0
		sortings(t, 52, 1000, k, func(d *dice, s api.Sorting) {
			x := d.easier(s, k)
			l, m := pairsIn(t, s), pairsIn(t, x)
			if len(m) < len(l) {
				t.Error(x, l, m)
			}
			if len(m) > len(l) {
				more++
			}
		})
		if more < 100 {
			t.Error(k, more)
		}
	}
}

// P8.10: items in another order have as many pairs, and as many quads.
func TestOtherOrders(t *testing.T) {
	other := 0
	for _, k := range []kind{rowKind, wideKind, {12, 2, 8, 1, 9}} {
		sortings(t, 53, 300, k, func(d *dice, s api.Sorting) {
			x := d.shuffled(s)
			l, m := pairsIn(t, s), pairsIn(t, x)
			if len(l) != len(m) || len(proofOf(t, s)) != len(proofOf(t, x)) {
				t.Error(x, l, m)
			}
			if len(s.Items) > api.MaxQuads {
				return
			}
			p, q := quadsIn(t, s), quadsIn(t, x)
			if len(p) != len(q) {
				t.Error(x, p, q)
			}
			if !slices.Equal(p, q) {
				other++
			}
		})
	}
	if other < 100 {
		t.Error(other)
	}
}

// P8.11: quads are quads, no item is in two; there are at most half as many as pairs.
func TestQuadsAreQuads(t *testing.T) {
	sizes := map[int]int{}
	sortings(t, 54, 600, kind{12, 3, 8, 1, 12}, func(d *dice, s api.Sorting) {
		l := quadsIn(t, s)
		var taken []int
		for i, q := range l {
			if !slices.IsSorted(q[:]) || !areAll(s, q[:]) || i > 0 && q[0] <= l[i-1][0] || slices.ContainsFunc(q[:], func(n int) bool { return slices.Contains(taken, n) }) {
				t.Error(l)
			}
			taken = append(taken, q[:]...)
		}
		if 2*len(l) > len(pairsIn(t, s)) {
			t.Error(l)
		}
		sizes[len(l)]++
	})
	if sizes[1] < 50 || sizes[2] < 20 || sizes[3] < 20 {
		t.Error(sizes)
	}
}

// P8.12 (fillings): a filling fills no place twice; what the best one fills is what the other bins need, and the items that go into scarce ones, together.
func TestFillings(t *testing.T) {
	for _, k := range []kind{rowKind, smallKind, wideKind} {
		some := 0
		sortings(t, 55, 300, k, func(d *dice, s api.Sorting) {
			bins := d.bins(s, k, 8, 8)
			l := filling(t, s, bins)
			scarce, e := Scarce(s, bins)
			if e != api.OK || !isFilling(s, bins, l) || !slices.IsSorted(scarce) {
				t.Error(bins, l, scarce, e)
			}
			sum := 0
			for b, x := range bins {
				if !slices.Contains(scarce, b) {
					sum += x.Need
				}
			}
			for n := range s.Items {
				if slices.ContainsFunc(scarce, func(b int) bool { return plainGoes(s, n, bins[b]) }) {
					sum++
				}
			}
			if filled(l) != sum {
				t.Error(bins, l, scarce, sum)
			}
			if len(scarce) > 0 && len(scarce) < len(bins) && filled(l) > 0 {
				some++
			}
		})
		if some < 50 {
			t.Error(k, some)
		}
	}
}

// P8.12: sorted items of bins that need enough are a filling, and the best one.
func TestSortedItemsFill(t *testing.T) {
	most := 0
	sortings(t, 56, 300, wideKind, func(d *dice, s api.Sorting) {
		bins := d.bins(s, wideKind, 8, 0)
		sorted, e := Sort(s, bins)
		for b := range bins {
			bins[b].Need = min(24, took(sorted, b)+d.upTo(2)*d.upTo(9))
		}
		if l := filling(t, s, bins); !isFilling(s, bins, sorted) || !slices.Equal(l, sorted) || e != api.OK {
			t.Error(bins, sorted, l, e)
		}
		most = max(most, filled(sorted))
	})
	if most < 20 {
		t.Error(most)
	}
}

// P8.13: a need more never makes it fewer places.
func TestNeedsMore(t *testing.T) {
	more, same := 0, 0
	sortings(t, 57, 1000, wideKind, func(d *dice, s api.Sorting) {
		bins := d.bins(s, wideKind, 8, 5)
		if len(bins) == 0 {
			return
		}
		was := filled(filling(t, s, bins))
		bins[d.upTo(len(bins))].Need++
		switch filled(filling(t, s, bins)) - was {
		case 0:
			same++
		case 1:
			more++
		default:
			t.Error(bins, was)
		}
	})
	if more < 50 || same < 50 {
		t.Error(more, same)
	}
}

// shown returns what some meters may show of a value, each of which was compared with the standard.
func (d *dice) shown(bench []api.Meter, x int) []api.Shown {
	var l []api.Shown
	for m, meter := range bench {
		if m > 0 && d.upTo(2) == 0 {
			continue
		}
		made := gauge.Makes(meter, x)
		y := d.from(made.Lo, made.Hi)
		l = append(l, api.Shown{Meter: m, Number: (y + meter.Step/2) / meter.Step * meter.Step})
	}
	return l
}

// T4 (pairs and bins), P0: true values of items that are paired by what meters showed differ by no more than the tolerance; what is sorted into a bin truly lies in its limits.
func TestMeasuredItems(t *testing.T) {
	bench := []api.Meter{
		{Gain: of(990000, 1010000), Off: of(-3, 3), Step: 5, By: -1},
		{Gain: one(1000000), Off: of(-4, 0), Step: 10, By: -1},
		{Gain: of(1900000, 2000000), Step: 1, By: -1},
	}
	d := dice(58)
	pairs, sorted := 0, 0
	for range 500 {
		s := api.Sorting{Tol: []int{d.from(20, 80), d.from(20, 80)}}
		var values [][]int
		for range d.from(1, 24) {
			x := []int{d.from(500, 700), d.from(500, 700)}
			var item []api.Range
			for _, n := range x {
				r, e := gauge.Together(bench, d.shown(bench, n))
				if e != api.OK || n < r.Lo || r.Hi < n {
					t.Fatal(n, r, e)
				}
				item = append(item, r)
			}
			values, s.Items = append(values, x), append(s.Items, item)
		}
		for _, p := range pairsIn(t, s) {
			pairs++
			for i, tol := range s.Tol {
				if x, y := values[p[0]][i], values[p[1]][i]; max(x-y, y-x) > tol {
					t.Fatal(s, values, p)
				}
			}
		}
		bins := []api.Bin{{Want: []api.Range{of(500, 600), of(480, 650)}, Need: 4}, {Want: []api.Range{of(550, 720), of(550, 720)}, Need: 4}}
		l, e := Sort(s, bins)
		for n, b := range slices.Concat(l, filling(t, s, bins)) {
			if b < 0 {
				continue
			}
			sorted++
			for i, want := range bins[b].Want {
				if x := values[n%len(values)][i]; e != api.OK || x < want.Lo || want.Hi < x {
					t.Fatal(s, values, n, b)
				}
			}
		}
	}
	if pairs < 500 || sorted < 500 {
		t.Error(pairs, sorted)
	}
}
