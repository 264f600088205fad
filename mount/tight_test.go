package mount

import (
	"slices"
	"testing"

	"thermion/api"
)

// P4.1: tight ranges that were found by hand.
func TestTight(t *testing.T) {
	alone := links(3, chainC().Links[:2]...)
	for i, c := range []struct {
		c    api.Chain
		want [][]api.Range
	}{
		{chainC(), [][]api.Range{{{}, of(10, 12), of(17, 18)}, {of(-12, -10), {}, of(5, 8)}, {of(-18, -17), of(-8, -5), {}}}},
		{more(alone, between(0, 2, of(19, 20))), [][]api.Range{{{}, of(11, 12), of(19, 20)}, {of(-12, -11), {}, of(7, 8)}, {of(-20, -19), of(-8, -7), {}}}},
		{more(alone, between(2, 0, of(-20, -19))), [][]api.Range{{{}, of(11, 12), of(19, 20)}, {of(-12, -11), {}, of(7, 8)}, {of(-20, -19), of(-8, -7), {}}}},
		{alone, [][]api.Range{{{}, of(10, 12), of(15, 20)}, {of(-12, -10), {}, of(5, 8)}, {of(-20, -15), of(-8, -5), {}}}},
		{more(alone, between(0, 1, of(11, 30))), [][]api.Range{{{}, of(11, 12), of(16, 20)}, {of(-12, -11), {}, of(5, 8)}, {of(-20, -16), of(-8, -5), {}}}}, // two links of the same points
		{more(alone, between(0, 2, one(20))), [][]api.Range{{{}, one(12), one(20)}, {one(-12), {}, one(8)}, {one(-20), one(-8), {}}}},
		{links(1), [][]api.Range{{{}}}},
		{links(2, between(1, 0, of(-3, 1))), [][]api.Range{{{}, of(-1, 3)}, {of(-3, 1), {}}}},
	} {
		if r, e := Tight(c.c); !same(r, c.want) || e != api.OK {
			t.Error(i, r, e)
		}
	}
}

// P4.1: the greatest chains have tight ranges that are sums of all links.
func TestTightOfGreatChains(t *testing.T) {
	for _, gap := range []api.Range{one(api.MaxLength), one(-api.MaxLength), of(-api.MaxLength, api.MaxLength), of(0, api.MaxLength)} {
		r := tightOf(t, row(24, gap))
		for a := range 24 {
			for b := range 24 {
				want := of((b-a)*gap.Lo, (b-a)*gap.Hi)
				if a > b {
					want = of((b-a)*gap.Hi, (b-a)*gap.Lo)
				}
				if r[a][b] != want {
					t.Error(gap, a, b, r[a][b])
				}
			}
		}
	}
}

// P4.1: chains that no positions fit.
func TestClash(t *testing.T) {
	all := links(12)
	for a := range 12 {
		for b := range a {
			all.Links = append(all.Links, between(a, b, one(-api.MaxLength)))
		}
	}
	for i, c := range []api.Chain{
		more(chainC(), between(0, 2, of(21, 22))),
		more(chainC(), between(0, 2, of(10, 16))),
		more(chainC(), between(0, 1, of(13, 14))),
		more(chainC(), between(1, 0, of(0, 9))),
		links(2, between(0, 1, of(0, 4)), between(0, 1, of(5, 9))),
		more(row(24, of(0, 1)), between(0, 23, of(24, 30))),
		more(row(24, of(0, 1)), between(23, 0, of(1, 30))),
		more(row(24, one(api.MaxLength)), between(0, 23, one(-api.MaxLength)), between(0, 22, one(-api.MaxLength)), between(1, 23, one(-api.MaxLength))),
		all, // each way round has less than nothing: sums of them would soon be too great
	} {
		r, e1 := Tight(c)
		far, e2 := Far(c, 0)
		near, e3 := Near(c, -1)
		asked, e4 := Ask(c, []api.Link{between(99, 99, none)})
		places, e5 := Places(c)
		if CheckChain(c) != api.OK || len(r)+len(far)+len(near)+len(asked)+len(places) > 0 || slices.ContainsFunc([]api.Errno{e1, e2, e3, e4, e5}, func(e api.Errno) bool { return e != api.ErrClash }) {
			t.Error(i, e1, e2, e3, e4, e5)
		}
	}
}

// P4.1: the functions of chains return CheckChain's error first.
func TestTightErrors(t *testing.T) {
	for i, c := range []api.Chain{links(0), links(25), links(2, many(81)...), links(2, between(0, 2, none)), links(2, between(1, 1, none)), links(2, between(0, 1, of(1, 0))), links(2, between(0, 1, one(1000001))), links(2)} {
		want := CheckChain(c)
		r, e1 := Tight(c)
		far, e2 := Far(c, 99)
		near, e3 := Near(c, -1)
		asked, e4 := Ask(c, []api.Link{between(99, 99, none)})
		places, e5 := Places(c)
		if want == api.OK || len(r)+len(far)+len(near)+len(asked)+len(places) > 0 || slices.ContainsFunc([]api.Errno{e1, e2, e3, e4, e5}, func(e api.Errno) bool { return e != want }) {
			t.Error(i, want, e1, e2, e3, e4, e5)
		}
	}
}

// P4.1: the far and the near positions.
func TestFarAndNear(t *testing.T) {
	for i, c := range []struct {
		c         api.Chain
		a         int
		far, near []int
		want      api.Errno
	}{
		{chainC(), 0, []int{0, 12, 18}, []int{0, 10, 17}, api.OK},
		{chainC(), 1, []int{-10, 0, 8}, []int{-12, 0, 5}, api.OK},
		{chainC(), 2, []int{-17, -5, 0}, []int{-18, -8, 0}, api.OK},
		{links(1), 0, []int{0}, []int{0}, api.OK},
		{chainC(), 3, nil, nil, api.ErrMissing},
		{chainC(), -1, nil, nil, api.ErrMissing},
		{links(1), 1, nil, nil, api.ErrMissing},
		{row(24, one(1)), 23, slices.Collect(func(yield func(int) bool) {
			for n := -23; n <= 0 && yield(n); n++ {
			}
		}), nil, api.OK},
	} {
		far, e := Far(c.c, c.a)
		near, e2 := Near(c.c, c.a)
		if c.near == nil && c.want == api.OK { // there is only one way to stand
			c.near = c.far
		}
		if !slices.Equal(far, c.far) || !slices.Equal(near, c.near) || e != c.want || e2 != c.want {
			t.Error(i, far, near, e, e2)
		}
	}
}

// P4.2: verdicts on links that were found by hand.
func TestAsk(t *testing.T) {
	for i, c := range []struct {
		l    []api.Link
		want []int
	}{
		{[]api.Link{between(1, 2, of(0, 9)), between(0, 1, of(12, 20)), between(2, 1, of(0, 1))}, []int{1, 3, 2}},
		{nil, nil},
		{[]api.Link{between(0, 1, of(10, 12)), between(0, 1, of(11, 12)), between(0, 1, of(10, 11)), between(0, 1, one(11))}, []int{1, 3, 3, 3}},
		{[]api.Link{between(0, 1, of(9, 10)), between(0, 1, of(8, 9)), between(0, 1, of(12, 13)), between(0, 1, of(13, 14))}, []int{3, 2, 3, 2}},
		{[]api.Link{between(1, 0, of(-12, -10)), between(1, 0, of(10, 12)), between(2, 0, of(-18, 1000000)), between(2, 0, of(-1000000, -18))}, []int{1, 2, 1, 3}},
		{many(1000), slices.Repeat([]int{2}, 1000)}, // there may be more of them than a chain has
	} {
		if v, e := Ask(chainC(), c.l); !slices.Equal(v, c.want) || e != api.OK {
			t.Error(i, v, e)
		}
	}
}

// P4.2: the errors of links that are asked for, link by link.
func TestAskErrors(t *testing.T) {
	for i, c := range []struct {
		l    []api.Link
		want api.Errno
	}{
		{[]api.Link{between(0, 3, of(1, 0))}, api.ErrMissing},
		{[]api.Link{between(3, 3, of(1, 0))}, api.ErrMissing},
		{[]api.Link{between(-1, 0, none)}, api.ErrMissing},
		{[]api.Link{between(2, 2, of(1, 0))}, api.ErrExists},
		{[]api.Link{between(0, 2, of(1, -1000001))}, api.ErrOrder},
		{[]api.Link{between(0, 2, of(1, 1000001))}, api.ErrRange},
		{[]api.Link{between(0, 2, of(-1000001, 1))}, api.ErrRange},
		{[]api.Link{between(0, 1, none), between(0, 2, of(1, 1000001)), between(9, 9, none)}, api.ErrRange},
		{[]api.Link{between(0, 1, none), between(2, 2, none), between(9, 9, none)}, api.ErrExists},
	} {
		if v, e := Ask(chainC(), c.l); v != nil || e != c.want {
			t.Error(i, v, e)
		}
	}
}

// P4.1, P4.2: tight ranges, far and near positions, and verdicts, are what is found if all positions are tried.
func TestTightPlainly(t *testing.T) {
	clashes := 0
	chains(t, 3, 3000, 4, 3, func(d *dice, c api.Chain) {
		all := plainPlaces(c, 9)
		r, e := Tight(c)
		if len(all) == 0 {
			clashes++
			if r != nil || e != api.ErrClash {
				t.Error(r, e)
			}
			return
		}
		for a := range c.Points {
			far, e := Far(c, a)
			near, e2 := Near(c, a)
			if e != api.OK || e2 != api.OK {
				t.Error(a, e, e2)
			}
			for b := range c.Points {
				if want := plainTight(all, a, b); r[a][b] != want || far[b] != want.Hi || near[b] != want.Lo {
					t.Error(a, b, r, far, near)
				}
			}
		}
		if c.Points > 1 {
			askedPlainly(t, c, all, []api.Link{d.link(c, 9), d.link(c, 9), d.link(c, 9)})
		}
	})
	if clashes < 150 {
		t.Error("too few cases", clashes)
	}
}

// askedPlainly checks verdicts on links against all positions.
func askedPlainly(t *testing.T, c api.Chain, all [][]int, l []api.Link) {
	t.Helper()
	v, e := Ask(c, l)
	if e != api.OK || len(v) != len(l) {
		t.Fatal(v, e)
	}
	for i, x := range l {
		yes := 0
		for _, at := range all {
			if plainFits(links(c.Points, x), at) {
				yes++
			}
		}
		want := 3
		switch yes {
		case len(all):
			want = 1
		case 0:
			want = 2
		}
		if v[i] != want {
			t.Error(x, v[i], want)
		}
	}
}
