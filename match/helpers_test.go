package match

import (
	"slices"
	"testing"

	"thermion/api"
)

// dice makes numbers for tests that are the same in each run.
type dice uint64

// upTo returns a number from 0 to n - 1.
func (d *dice) upTo(n int) int {
	*d += 0x9e3779b97f4a7c15
	x := uint64(*d)
	x = (x ^ x>>30) * 0xbf58476d1ce4e5b9
	x = (x ^ x>>27) * 0x94d049bb133111eb
	return int((x ^ x>>31) % uint64(n))
}

// from returns a number from least to most.
func (d *dice) from(least, most int) int { return least + d.upTo(most-least+1) }

// near returns a range of at most wide + 1 numbers, which begins with a number from 0 to most.
func (d *dice) near(most, wide int) api.Range {
	a := d.upTo(most + 1)
	return of(a, a+d.upTo(wide+1))
}

// in returns a range within r.
func (d *dice) in(r api.Range) api.Range {
	a, b := d.from(r.Lo, r.Hi), d.from(r.Lo, r.Hi)
	return of(min(a, b), max(a, b))
}

// kind is what sortings are like: how many items and values they have at most, from which numbers their ranges begin, how wide these are, and how great tolerances are.
type kind struct{ items, values, most, wide, tol int }

// The kinds of sortings: in rows are single values; in small ones all pairings can be looked at.
var (
	rowKind   = kind{24, 1, 60, 0, 5}
	smallKind = kind{8, 3, 12, 1, 8}
	wideKind  = kind{24, 4, 30, 4, 22}
)

// sorting returns a valid sorting of a kind, half of them with as many items as it may have.
func (d *dice) sorting(k kind) api.Sorting {
	var s api.Sorting
	for range d.from(1, k.values) {
		s.Tol = append(s.Tol, d.upTo(k.tol+1))
	}
	items := k.items
	if d.upTo(2) == 0 {
		items = d.upTo(k.items + 1)
	}
	for range items {
		var item []api.Range
		for range s.Tol {
			item = append(item, d.near(k.most, k.wide))
		}
		s.Items = append(s.Items, item)
	}
	return s
}

// sortings calls f with valid sortings of a kind.
func sortings(t *testing.T, seed dice, count int, k kind, f func(d *dice, s api.Sorting)) {
	t.Helper()
	d := &seed
	for i := range count {
		s := d.sorting(k)
		if e := Check(s); e != api.OK {
			t.Fatal(s, e)
		}
		f(d, s)
		if t.Failed() {
			t.Fatal("case ", i, ": ", s)
		}
	}
}

// bins returns at most so many valid bins for a sorting, which need at most so many items.
func (d *dice) bins(s api.Sorting, k kind, most, need int) []api.Bin {
	var l []api.Bin
	for range d.upTo(most + 1) {
		b := api.Bin{Need: d.upTo(need + 1)}
		for range s.Tol {
			a := d.from(-k.most, k.most/2)
			b.Want = append(b.Want, of(a, a+d.from(k.most/2, 2*k.most)))
		}
		l = append(l, b)
	}
	return l
}

// shuffled returns the items of a sorting in another order.
func (d *dice) shuffled(s api.Sorting) api.Sorting {
	s.Items = slices.Clone(s.Items)
	for i := range s.Items {
		k := d.upTo(i + 1)
		s.Items[i], s.Items[k] = s.Items[k], s.Items[i]
	}
	return s
}

// plainAlike reports whether each two true values of two different items differ by no more than the tolerance.
func plainAlike(s api.Sorting, a, b int) bool {
	for i, t := range s.Tol {
		for x := s.Items[a][i].Lo; x <= s.Items[a][i].Hi; x++ {
			for y := s.Items[b][i].Lo; y <= s.Items[b][i].Hi; y++ {
				if x-y > t || y-x > t {
					return false
				}
			}
		}
	}
	return a != b
}

// plainPairings returns all pairings of a sorting, each as the list of partners (the number of items for one that has none).
func plainPairings(s api.Sorting) [][]int {
	n := len(s.Items)
	var all [][]int
	partners := slices.Repeat([]int{-1}, n)
	var next func(a int)
	next = func(a int) {
		switch {
		case a == n:
			all = append(all, slices.Clone(partners))
		case partners[a] >= 0:
			next(a + 1)
		default:
			for b := a + 1; b < n; b++ {
				if partners[b] < 0 && plainAlike(s, a, b) {
					partners[a], partners[b] = b, a
					next(a + 1)
					partners[b] = -1
				}
			}
			partners[a] = n
			next(a + 1)
			partners[a] = -1
		}
	}
	next(0)
	return all
}

// pairsOf returns the pairs of a list of partners.
func pairsOf(partners []int) [][2]int {
	var l [][2]int
	for a, b := range partners {
		if a < b && b < len(partners) {
			l = append(l, [2]int{a, b})
		}
	}
	return l
}

// plainBest returns those of all pairings that have the most pairs, the first one first.
func plainBest(s api.Sorting) [][]int {
	all := plainPairings(s)
	most := 0
	for _, l := range all {
		most = max(most, len(pairsOf(l)))
	}
	all = slices.DeleteFunc(all, func(l []int) bool { return len(pairsOf(l)) < most })
	slices.SortFunc(all, slices.Compare[[]int])
	return all
}

// plainBound returns the bound of a cut: labels of items that are alike become the same.
func plainBound(s api.Sorting, cut []int) int {
	label := map[int]int{}
	for n := range s.Items {
		if !slices.Contains(cut, n) {
			label[n] = n
		}
	}
	for a := range s.Items {
		for b := range s.Items {
			x, isA := label[a]
			y, isB := label[b]
			if isA && isB && plainAlike(s, a, b) {
				for n, z := range label {
					if z == y {
						label[n] = x
					}
				}
			}
		}
	}
	sizes := map[int]int{}
	for _, x := range label {
		sizes[x]++
	}
	odd := 0
	for _, n := range sizes {
		odd += n % 2
	}
	return (len(s.Items) + len(cut) - odd) / 2
}

// plainQuads returns the best quads, of all sets of quads that there are.
func plainQuads(s api.Sorting) [][4]int {
	var quads [][]int
	for bits := range 1 << len(s.Items) {
		var l []int
		for n := range s.Items {
			if bits>>n&1 != 0 {
				l = append(l, n)
			}
		}
		if len(l) == 4 && areAll(s, l) {
			quads = append(quads, l)
		}
	}
	slices.SortFunc(quads, slices.Compare[[]int])
	var best, taken []int
	var more func(from int)
	more = func(from int) {
		if len(taken) > len(best) || len(taken) == len(best) && slices.Compare(taken, best) < 0 {
			best = slices.Clone(taken)
		}
		for i, q := range quads[from:] {
			if !slices.ContainsFunc(q, func(n int) bool { return slices.Contains(taken, n) }) {
				taken = append(taken, q...)
				more(from + i + 1)
				taken = taken[:len(taken)-4]
			}
		}
	}
	more(0)
	var l [][4]int
	for i := 0; i < len(best); i += 4 {
		l = append(l, [4]int(best[i:i+4]))
	}
	return l
}

// areAll reports whether items are all alike, two by two.
func areAll(s api.Sorting, l []int) bool {
	for i, a := range l {
		for _, b := range l[:i] {
			if !plainAlike(s, a, b) {
				return false
			}
		}
	}
	return true
}

// plainGoes reports whether an item goes into a bin.
func plainGoes(s api.Sorting, n int, b api.Bin) bool {
	for i, r := range s.Items[n] {
		if r.Lo < b.Want[i].Lo || b.Want[i].Hi < r.Hi {
			return false
		}
	}
	return true
}

// isFilling reports whether each item of a list has a bin into which it goes, or none, and no bin more than it needs.
func isFilling(s api.Sorting, bins []api.Bin, l []int) bool {
	got := make([]int, len(bins))
	for n, b := range l {
		if b == -1 {
			continue
		}
		if b < 0 || b >= len(bins) || !plainGoes(s, n, bins[b]) {
			return false
		}
		if got[b]++; got[b] > bins[b].Need {
			return false
		}
	}
	return len(l) == len(s.Items)
}

// filled returns how many places a filling fills.
func filled(l []int) int {
	n := 0
	for _, b := range l {
		if b >= 0 {
			n++
		}
	}
	return n
}

// plainFillings returns those of all fillings that fill the most places, the first one first.
func plainFillings(s api.Sorting, bins []api.Bin) [][]int {
	var all [][]int
	var more func(l []int)
	more = func(l []int) {
		if len(l) == len(s.Items) {
			if isFilling(s, bins, l) {
				all = append(all, slices.Clone(l))
			}
			return
		}
		for b := range bins {
			more(append(l, b))
		}
		more(append(l, -1)) // behind all bins
	}
	more(nil)
	most := 0
	for _, l := range all {
		most = max(most, filled(l))
	}
	return slices.DeleteFunc(all, func(l []int) bool { return filled(l) < most })
}

// of makes a range, one that of one number.
func of(lo, hi int) api.Range { return api.Range{Lo: lo, Hi: hi} }
func one(n int) api.Range     { return of(n, n) }

// row makes a sorting of items with one value each, without ranges.
func row(tol int, values ...int) api.Sorting {
	s := api.Sorting{Tol: []int{tol}}
	for _, n := range values {
		s.Items = append(s.Items, []api.Range{one(n)})
	}
	return s
}

// sortingS and sortingQ are the sortings of the chapter's examples (T is S with the tolerance 1).
func sortingS() api.Sorting { return row(2, 10, 11, 12, 14, 15) }
func sortingQ() api.Sorting { return row(1, 1, 1, 1, 2, 2, 5) }

// binsOf are the bins of the chapter's examples, which need so many.
func binsOf(a, b int) []api.Bin {
	return []api.Bin{{Want: []api.Range{of(10, 12)}, Need: a}, {Want: []api.Range{of(11, 15)}, Need: b}}
}

// pairsIn, proofOf, quadsIn and filling return the results for valid sortings, which must not be errors.
func pairsIn(t *testing.T, s api.Sorting) [][2]int {
	t.Helper()
	l, e := Pairs(s)
	if e != api.OK {
		t.Fatal(s, e)
	}
	return l
}

func proofOf(t *testing.T, s api.Sorting) []int {
	t.Helper()
	l, e := Proof(s)
	if e != api.OK {
		t.Fatal(s, e)
	}
	return l
}

func quadsIn(t *testing.T, s api.Sorting) [][4]int {
	t.Helper()
	l, e := Quads(s)
	if e != api.OK {
		t.Fatal(s, e)
	}
	return l
}

func filling(t *testing.T, s api.Sorting, bins []api.Bin) []int {
	t.Helper()
	l, e := Fill(s, bins)
	if e != api.OK {
		t.Fatal(s, bins, e)
	}
	return l
}

// changed returns a thing that was changed.
func changed[T any](x T, change func(x *T)) T {
	change(&x)
	return x
}

// fault is a change that makes a thing wrong, and the error that it has then.
type fault[T any] struct {
	change func(x *T)
	want   api.Errno
}

// inOrder demands that each fault of a right thing is found, and the first one of two.
func inOrder[T any](t *testing.T, right func() T, faults []fault[T], check func(x T) api.Errno) {
	t.Helper()
	if e := check(right()); e != api.OK {
		t.Error(e)
	}
	for i, a := range faults {
		if e := check(changed(right(), a.change)); e != a.want {
			t.Error(i, e)
		}
		for k, b := range faults[i+1:] {
			if e := check(changed(changed(right(), b.change), a.change)); e != a.want {
				t.Error(i, i+1+k, e)
			}
		}
	}
}
