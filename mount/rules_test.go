package mount

import (
	"math"
	"slices"
	"testing"

	"thermion/api"
	"thermion/field"
)

// odd are numbers that arguments may have, too.
var odd = []int{math.MinInt, math.MinInt + 15, -1000001, -1000000, -17, -1, 0, 1, 2, 3, 16, 17, 24, 999999, 1000000, 1000001, 1 << 40, math.MaxInt - 15, math.MaxInt}

// oddChains are chains that are hardly any.
func oddChains() []api.Chain {
	l := []api.Chain{{}, chainC(), links(1), links(2, make([]api.Link, 5000)...), links(24), row(24, of(-1000000, 1000000))}
	for _, n := range odd {
		l = append(l,
			links(n), changed(chainC(), func(c *api.Chain) { c.Points = n }),
			more(chainC(), between(n, 1, none)), more(chainC(), between(1, n, none)), more(chainC(), between(n, n, none)),
			more(chainC(), between(0, 1, one(n))), more(chainC(), between(0, 1, of(n, 11))), more(chainC(), between(0, 1, of(11, n))))
	}
	return l
}

// P1, R3, R5: with whatever chains, each function ends, does not panic, and has nothing but an error with an error.
func TestAnyChains(t *testing.T) {
	for i, c := range oddChains() {
		bad := CheckChain(c)
		r, e := Tight(c)
		if bad != api.OK && e != bad || e != api.OK && r != nil || e == api.OK && len(r) != c.Points {
			t.Error(i, r, e)
		}
		if l, e := Places(c); bad != api.OK && e != bad || e != api.OK && l != nil || e == api.OK && len(l) == 0 {
			t.Error(i, l, e)
		}
		for k, n := range odd {
			m := odd[(i+k)%len(odd)]
			far, e1 := Far(c, n)
			near, e2 := Near(c, n)
			asked, e3 := Ask(c, []api.Link{between(0, 1, none), between(n, m, of(m, n))})
			also, e4 := Ask(c, []api.Link{between(1, 0, of(n, m))})
			if bad != api.OK && (e1 != bad || e2 != bad || e3 != bad || e4 != bad) || e1 != api.OK && far != nil || e2 != api.OK && near != nil || e3 != api.OK && asked != nil || e4 != api.OK && also != nil {
				t.Error(i, n, far, near, asked, also)
			}
			for _, at := range [][]int{{n}, {n, m}, {n, m, n}, {0, n, m}, slices.Repeat([]int{n}, 24)} {
				if Fits(c, at) && (bad != api.OK || e != api.OK && e != api.ErrMissing) {
					t.Error(i, at)
				}
				Draw(api.Mount{Chain: c, Bars: mountM().Bars, Wide: 4, High: 1, Zero: 1}, at)
			}
		}
		if l, e := All(api.Mount{Chain: c, Bars: mountM().Bars, Wide: 4, High: 1, Zero: 1}); bad != api.OK && e != bad || e != api.OK && l != nil {
			t.Error(i, l, e)
		}
	}
}

// P1, R3, R5: with whatever windings and mounts, each function ends, does not panic, and has nothing but an error with an error.
func TestAnyWindingsAndMounts(t *testing.T) {
	for _, n := range odd {
		for _, m := range odd {
			w := changed(windingW(), func(w *api.Winding) { w.Turns = n })
			for i := range partsOf(&w) {
				x := windingW()
				*partsOf(&x)[i] = of(n, m)
				for _, w := range []api.Winding{w, x} {
					if c, e := Wind(w); e != api.OK && (c.Points != 0 || c.Links != nil) || e == api.OK && CheckChain(c) != api.OK {
						t.Error(w, c, e)
					}
				}
			}
			for i, x := range []api.Mount{
				mountWith(bar(n, 0, 1, 0, 0)), mountWith(bar(1, n, m, 0, 0)), mountWith(bar(1, 0, 1, n, m)),
				changed(mountM(), func(x *api.Mount) { x.Wide, x.Zero = n, m }), changed(mountM(), func(x *api.Mount) { x.High, x.Zero = n, m }),
			} {
				bad := CheckMount(x)
				p, e1 := Draw(x, []int{n, n + 2})
				q, e2 := Draw(x, []int{n, m})
				l, e3 := All(x)
				if e1 != api.OK && p.Cells != nil || e2 != api.OK && q.Cells != nil || e3 != api.OK && l != nil || bad != api.OK && (e1 != bad || e2 != bad || e3 != bad) {
					t.Error(i, x, p, q, l)
				}
			}
		}
	}
	if e := CheckMount(mountWith(make([]api.Bar, 5000)...)); e != api.ErrFull {
		t.Error(e)
	}
}

// P1, R3, R5: with whatever kits, each function ends, does not panic, and has nothing but an error with an error.
func TestAnyKits(t *testing.T) {
	l := []api.Kit{{}, kitK(), free(14), free(5000), with(needing(make([]int, 5000)...))}
	for _, n := range odd {
		l = append(l, api.Kit{Change: n}, with(needing(n)), with(barred(n)), with(needing(0, n)), with(barred(0, n)), with(api.Part{Jig: n}), with(api.Part{Ticks: n}))
	}
	for i, k := range l {
		bad := CheckKit(k)
		for _, n := range odd {
			for _, in := range [][]int{{n}, {0, n}, {n, 1}, slices.Repeat([]int{n}, 5000)} {
				may, e1 := May(k, in)
				good, e2 := Guard(k, in)
				if e1 != api.OK && may != nil || e2 != api.OK && good != nil || e1 != e2 || bad != api.OK && e1 != bad {
					t.Error(i, in, may, good, e1, e2)
				}
			}
		}
		order, is, e1 := Stuck(k)
		n, e2 := Orders(k)
		fastest, ticks, e3 := Fastest(k)
		if e1 != bad || e2 != bad || e3 != bad && e3 != api.ErrState || e1 != api.OK && (order != nil || is || n != 0) || e3 != api.OK && (fastest != nil || ticks != 0) || !is && order != nil {
			t.Error(i, order, is, n, fastest, ticks, e1, e2, e3)
		}
	}
}

// P1: the greatest work ends.
func TestGreatestWork(t *testing.T) {
	c := links(24)
	for a := range 24 {
		for b := range a {
			if len(c.Links) < 80 {
				c.Links = append(c.Links, between(b, a, of(0, api.MaxLength)))
			}
		}
	}
	for p := 13; p < 24; p++ {
		c.Links[p] = between(0, p, of(0, api.MaxLength))
	}
	if l, e := Places(c); l != nil || e != api.ErrFull {
		t.Error(len(l), e)
	}
	k := free(14)
	for p := range k.Parts {
		k.Parts[p] = api.Part{Jig: p % 9, Ticks: 10000}
	}
	k.Change = 10000
	if order, ticks, e := Fastest(k); len(order) != 14 || ticks != 220000 || e != api.OK {
		t.Error(order, ticks, e)
	}
	if order, is, e := Stuck(k); order != nil || is || e != api.OK {
		t.Error(order, is, e)
	}
}

// R4: arguments are not changed.
func TestArgumentsAreKept(t *testing.T) {
	chains(t, 30, 300, 5, 3, func(d *dice, c api.Chain) {
		was := slices.Clone(c.Links)
		at := make([]int, c.Points, c.Points+1)
		asked := []api.Link{between(0, 1, none), between(1, 0, one(5))}
		m := api.Mount{Chain: c, Bars: mountM().Bars, Wide: 4, High: 1, Zero: 1}
		CheckChain(c)
		Fits(c, at)
		Tight(c)
		Far(c, 0)
		Near(c, 0)
		Ask(c, asked)
		Places(c)
		Draw(m, at)
		All(m)
		if !slices.Equal(c.Links, was) || slices.Max(at) != 0 || asked[1] != between(1, 0, one(5)) || m.Bars[0] != mountM().Bars[0] {
			t.Error(c, at, asked, m)
		}
	})
	kits(t, 31, 300, 6, func(d *dice, k api.Kit) {
		var was []api.Part
		for _, p := range k.Parts {
			was = append(was, api.Part{Needs: slices.Clone(p.Needs), Bars: slices.Clone(p.Bars), Jig: p.Jig, Ticks: p.Ticks})
		}
		in := make([]int, 1, 9)
		May(k, in)
		Guard(k, in)
		Stuck(k)
		Orders(k)
		Fastest(k)
		if in[0] != 0 || !slices.EqualFunc(k.Parts, was, func(a, b api.Part) bool {
			return slices.Equal(a.Needs, b.Needs) && slices.Equal(a.Bars, b.Bars) && a.Jig == b.Jig && a.Ticks == b.Ticks
		}) {
			t.Error(in, k, was)
		}
	})
}

// spoil changes all numbers of lists that were returned, also those behind their ends.
func spoil(l ...[]int) {
	for _, x := range l {
		x = x[:cap(x)]
		for i := range x {
			x[i] = 99
		}
	}
}

// R4, R6: results share no memory with each other, and a call depends on its arguments alone.
func TestResultsAreApart(t *testing.T) {
	r := tightOf(t, chainC())
	for i := range r[1][:cap(r[1])] {
		r[1][:cap(r[1])][i] = of(99, 99)
	}
	if r[0][1] != of(10, 12) || r[2][2] != none || tightOf(t, chainC())[1][2] != of(5, 8) {
		t.Error(r)
	}
	places, _ := Places(chainC())
	spoil(places[0], places[2])
	if !same(places[3:], [][]int{{0, 11, 18}, {0, 12, 17}, {0, 12, 18}}) || !slices.Equal(places[1], []int{0, 10, 18}) {
		t.Error(places)
	}
	plans, _ := All(mountM())
	spoil(plans[0].Cells)
	again, _ := Draw(mountM(), []int{0, 2})
	if !slices.Equal(plans[1].Cells, []int{0, 1, 1, 1}) || !slices.Equal(again.Cells, []int{0, 1, 1, 0}) || field.Same(plans[0], again) {
		t.Error(plans, again)
	}
	for range 3 {
		far, _ := Far(chainC(), 0)
		near, _ := Near(chainC(), 0)
		asked, _ := Ask(chainC(), []api.Link{between(0, 1, of(9, 13)), between(0, 2, one(17))})
		may, _ := May(kitK(), nil)
		good, _ := Guard(kitK(), []int{0})
		order, _, _ := Stuck(kitK())
		fastest, _, _ := Fastest(kitK())
		if !same([][]int{far, near, asked, may, good, order, fastest}, [][]int{{0, 12, 18}, {0, 10, 17}, {1, 3}, {0, 2}, {2}, {0, 1}, {0, 2, 1}}) {
			t.Error(far, near, asked, may, good, order, fastest)
		}
		spoil(far, near, asked, may, good, order, fastest)
	}
}
