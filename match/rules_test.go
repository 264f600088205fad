package match

import (
	"math"
	"slices"
	"testing"

	"thermion/api"
)

// odd are numbers that arguments may have, too.
var odd = []int{math.MinInt, math.MinInt + 15, -1000000001, -1000000000, -1000001, -17, -1, 0, 1, 2, 5, 24, 25, 31, 32, 53, 54, 63, 64, 99999, 100000, 1000000, 1000001, 1000000000, 1000000001, 1 << 42, math.MaxInt - 15, math.MaxInt}

// oddSortings are sortings that are hardly any.
func oddSortings() []api.Sorting {
	l := []api.Sorting{{}, {Tol: []int{}}, {Items: [][]api.Range{{}}}, {Tol: []int{0}, Items: [][]api.Range{nil, {}}}, sortingS(), sortingQ(), two(), {Tol: make([]int, 5000)}, {Tol: []int{1}, Items: make([][]api.Range, 5000)}, {Tol: []int{1}, Items: [][]api.Range{make([]api.Range, 5000)}}, row(0, make([]int, 24)...)}
	for i, n := range odd {
		m := odd[(3*i+5)%len(odd)]
		l = append(l, row(n, 1, 2, 3), row(1000000, n, m, n), row(5, 1, n, 2), api.Sorting{Tol: []int{m, n}, Items: [][]api.Range{{of(n, m), of(m, n)}}})
		for _, r := range []api.Range{of(n, m), of(m, n), of(0, n), of(n, 0), of(n, math.MaxInt), of(math.MinInt, n)} {
			s := two()
			s.Items[i%3][i%2] = r
			l = append(l, s)
		}
	}
	return l
}

// P1, R3, R5: with whatever sortings, numbers, cuts and bins, each function ends, does not panic, and has nothing but an error with an error.
func TestAnySortings(t *testing.T) {
	for i, s := range oddSortings() {
		bad := Check(s)
		l1, e1 := Pairs(s)
		l2, e2 := Proof(s)
		l3, e3 := Quads(s)
		if e1 != bad || e2 != bad || e3 != bad && e3 != api.ErrOver || e1 != api.OK && l1 != nil || e2 != api.OK && l2 != nil || e3 != api.OK && l3 != nil {
			t.Error(i, bad, l1, l2, l3, e1, e2, e3)
		}
		for k, n := range odd {
			m := odd[(i+k)%len(odd)]
			if is := Alike(s, n, m); is && (bad != api.OK || n == m || min(n, m) < 0 || max(n, m) >= len(s.Items)) {
				t.Error(i, n, m)
			}
			for _, cut := range [][]int{{n}, {0, n}, {n, m}, {0, 1, n, m}} {
				b, e := Bound(s, cut)
				if bad != api.OK && e != bad || e != api.OK && b != 0 || e == api.OK && (b < len(cut)/2 || b > len(s.Items)) {
					t.Error(i, cut, b, e)
				}
			}
			for _, bins := range [][]api.Bin{
				{{Want: []api.Range{of(n, m)}, Need: 1}}, {{Want: []api.Range{of(m, n)}, Need: n}}, {{Want: []api.Range{of(math.MinInt, math.MaxInt), of(n, math.MaxInt)}, Need: m}}, {{Need: n}}, slices.Repeat([]api.Bin{{Want: []api.Range{of(min(n, m), max(n, m))}, Need: 3}}, 8),
			} {
				if e := errorOfBins(t, s, bins); bad != api.OK && e != bad {
					t.Error(i, bins, e)
				}
			}
		}
		for _, bins := range [][]api.Bin{nil, make([]api.Bin, 8), make([]api.Bin, 5000), {{Want: make([]api.Range, 5000)}}} {
			if e := errorOfBins(t, s, bins); bad != api.OK && e != bad {
				t.Error(i, bins, e)
			}
		}
	}
}

// P1, R3, R5: with whatever marks and texts, each function ends, does not panic, and has nothing but an error with an error; what is read is written as it was.
func TestAnyMarks(t *testing.T) {
	for i, n := range odd {
		for k, m := range odd {
			for _, kind := range []string{"", "A", "ABCD", "ABCDE", "é", "\xff\xfe", "A\x00", "Ａ"} {
				x := mark(kind, n, m, odd[(i+k)%len(odd)], odd[(2*i+5*k)%len(odd)])
				s, e := Text(x)
				if got, e2 := Parse(s); e != api.OK && s != "" || e == api.OK && (got != x || e2 != api.OK) {
					t.Error(x, s, e, got, e2)
				}
			}
		}
	}
	d := dice(60)
	signs := []string{"A", "Z", "0", "9", "+", "a", "é", "\xff", "\x00", "7", "B", "1"}
	read := 0
	for i := range 200000 {
		text := ""
		for range d.upTo(18) {
			text += signs[d.upTo(len(signs))]
		}
		if i%2 == 0 { // one that is nearly as said
			text, _ = Text(d.mark())
			at := d.upTo(len(text))
			text = text[:at] + signs[d.upTo(len(signs))] + text[min(len(text), at+d.upTo(3)):]
		}
		m, e := Parse(text)
		if s, e2 := Text(m); e != api.OK && m != (api.Mark{}) || e == api.OK && (s != text || e2 != api.OK) {
			t.Fatal(text, m, e)
		}
		if e == api.OK {
			read++
		}
	}
	if read < 500 {
		t.Error(read)
	}
}

// P1: the greatest work ends soon.
func TestGreatestWork(t *testing.T) {
	same := row(0, make([]int, 24)...)
	if l := pairsIn(t, same); len(l) != 12 || l[11] != [2]int{22, 23} {
		t.Error(l)
	}
	if l := quadsIn(t, row(0, make([]int, 12)...)); len(l) != 3 {
		t.Error(l)
	}
	all := api.Bin{Want: []api.Range{of(math.MinInt, math.MaxInt)}, Need: 2}
	if l := filling(t, same, slices.Repeat([]api.Bin{all}, 8)); filled(l) != 16 || l[15] != 7 || l[16] != -1 {
		t.Error(l)
	}
	// Items that are alike to few others: each one is asked for nearly all.
	if l := pairsIn(t, groups(5)); len(l) != 9 {
		t.Error(l)
	}
	for range 200 {
		pairsIn(t, spaced(24))
		proofOf(t, spaced(23))
	}
}

// copyOf returns a sorting, and bins, with parts of their own.
func copyOf(s api.Sorting, bins []api.Bin) (api.Sorting, []api.Bin) {
	s.Tol, s.Items, bins = slices.Clone(s.Tol), slices.Clone(s.Items), slices.Clone(bins)
	for i, item := range s.Items {
		s.Items[i] = slices.Clone(item)
	}
	for i, b := range bins {
		bins[i].Want = slices.Clone(b.Want)
	}
	return s, bins
}

// isCopy reports whether a sorting and bins are as others.
func isCopy(s api.Sorting, bins []api.Bin, x api.Sorting, others []api.Bin) bool {
	return slices.Equal(s.Tol, x.Tol) && slices.EqualFunc(s.Items, x.Items, slices.Equal[[]api.Range]) && slices.EqualFunc(bins, others, func(a, b api.Bin) bool { return a.Need == b.Need && slices.Equal(a.Want, b.Want) })
}

// spoil changes all things of a result, also those behind its end.
func spoil[T any](l []T, x T) {
	l = l[:cap(l)]
	for i := range l {
		l[i] = x
	}
}

// R4, R6: arguments are not changed; results are apart from others, and a call depends on its arguments alone.
func TestArgumentsAreKept(t *testing.T) {
	sortings(t, 61, 300, kind{12, 2, 8, 1, 9}, func(d *dice, s api.Sorting) {
		bins := d.bins(s, smallKind, 8, 4)
		was, wasBins := copyOf(s, bins)
		cut := (set(d.upTo(1<<12)) & upTo(len(s.Items))).list()
		wasCut := slices.Clone(cut)
		results := func() ([][2]int, []int, [][4]int, []int, []int, []int) {
			a, b, c := pairsIn(t, s), proofOf(t, s), quadsIn(t, s)
			x, _ := Sort(s, bins)
			y, _ := Scarce(s, bins)
			Bound(s, cut)
			Alike(s, 0, 1)
			return a, b, c, x, y, filling(t, s, bins)
		}
		a, b, c, x, y, z := results()
		a2, b2, c2, x2, y2, z2 := results()
		spoil(a2, [2]int{77, 77})
		spoil(c2, [4]int{77, 77, 77, 77})
		for _, l := range [][]int{b2, x2, y2, z2} {
			spoil(l, 77)
		}
		if !isCopy(s, bins, was, wasBins) || !slices.Equal(cut, wasCut) {
			t.Error(s, bins, cut)
		}
		a3, b3, c3, x3, y3, z3 := results()
		if !slices.Equal(a, a3) || !slices.Equal(b, b3) || !slices.Equal(c, c3) || !slices.Equal(x, x3) || !slices.Equal(y, y3) || !slices.Equal(z, z3) {
			t.Error(s, bins)
		}
	})
}
