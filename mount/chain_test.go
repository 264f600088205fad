package mount

import (
	"math"
	"slices"
	"testing"

	"thermion/api"
)

// many returns as many links between the points 0 and 1.
func many(n int) []api.Link { return slices.Repeat([]api.Link{between(0, 1, of(0, 1))}, n) }

// row returns a chain of points in a row, each as far behind the one before.
func row(points int, gap api.Range) api.Chain {
	c := links(points)
	for p := 1; p < points; p++ {
		c.Links = append(c.Links, between(p-1, p, gap))
	}
	return c
}

// P4.1: what is wrong with a chain, and what is not.
func TestCheckChain(t *testing.T) {
	bad := func(l api.Link) api.Chain { return more(chainC(), l) }
	for i, c := range []struct {
		c    api.Chain
		want api.Errno
	}{
		{chainC(), api.OK},
		{links(1), api.OK},
		{row(24, of(-1, 1)), api.OK},
		{links(2, many(80)...), api.OK},
		{links(0), api.ErrRange},
		{links(-1), api.ErrRange},
		{row(25, of(-1, 1)), api.ErrRange},
		{links(2, many(81)...), api.ErrFull},
		{bad(between(3, 0, none)), api.ErrMissing},
		{bad(between(-1, 0, none)), api.ErrMissing},
		{bad(between(0, 3, none)), api.ErrMissing},
		{bad(between(0, -1, none)), api.ErrMissing},
		{bad(between(0, 0, none)), api.ErrExists},
		{bad(between(2, 2, none)), api.ErrExists},
		{bad(between(0, 1, of(1, 0))), api.ErrOrder},
		{bad(between(0, 1, of(-1000000, 1000000))), api.OK},
		{bad(between(0, 1, of(-1000001, 0))), api.ErrRange},
		{bad(between(0, 1, of(0, 1000001))), api.ErrRange},
		{bad(between(0, 1, one(1000001))), api.ErrRange},
		{bad(between(0, 1, one(-1000001))), api.ErrRange},
		{links(2), api.ErrLoose},
		{links(3, between(0, 1, none)), api.ErrLoose},
		{links(3, between(1, 2, none)), api.ErrLoose},
		{links(4, between(0, 1, none), between(3, 2, none)), api.ErrLoose},
		{links(4, between(3, 2, none), between(2, 1, none), between(1, 0, none)), api.OK}, // in either direction, in any order
		{links(4, between(2, 3, none), between(1, 2, none), between(0, 1, none)), api.OK},
		{links(4, between(3, 1, none), between(3, 2, none), between(0, 2, none)), api.OK},
	} {
		if e := CheckChain(c.c); e != c.want {
			t.Error(i, e)
		}
	}
}

// P4.1, R1: of several errors of a chain the first one is returned.
func TestChainErrorOrder(t *testing.T) {
	for i, c := range []struct {
		c    api.Chain
		want api.Errno
	}{
		{links(0, slices.Repeat([]api.Link{between(9, 9, of(1, 0))}, 81)...), api.ErrRange},
		{links(2, slices.Repeat([]api.Link{between(9, 9, of(1, 0))}, 81)...), api.ErrFull},
		{links(3, between(9, 9, of(1, 0))), api.ErrMissing},
		{links(3, between(1, 1, of(1, 0))), api.ErrExists},
		{links(3, between(0, 1, of(1, -2000000))), api.ErrOrder},
		{links(3, between(0, 1, of(0, 2000000))), api.ErrRange},
		{links(3, between(0, 1, of(0, 2000000)), between(9, 9, none)), api.ErrRange}, // link by link
		{links(3, between(0, 1, none), between(1, 1, none), between(9, 0, none)), api.ErrExists},
	} {
		if e := CheckChain(c.c); e != c.want {
			t.Error(i, e)
		}
	}
}

// P4.1: all points are reached, however the links are sorted.
func TestReached(t *testing.T) {
	d := dice(1)
	for range 300 {
		c := row(24, none)
		d.shuffle(c.Links)
		if e := CheckChain(c); e != api.OK {
			t.Fatal(c, e)
		}
		c.Links = c.Links[1:]
		if e := CheckChain(c); e != api.ErrLoose {
			t.Fatal(c, e)
		}
	}
}

// P4.1: positions that fit, and those that do not.
func TestFits(t *testing.T) {
	big := links(2, between(0, 1, of(-5, 9)))
	for i, c := range []struct {
		c    api.Chain
		at   []int
		want bool
	}{
		{chainC(), []int{0, 10, 17}, true},
		{chainC(), []int{0, 12, 18}, true},
		{chainC(), []int{-7, 3, 11}, true},
		{chainC(), []int{0, 9, 17}, false},
		{chainC(), []int{0, 13, 18}, false},
		{chainC(), []int{0, 12, 16}, false},
		{chainC(), []int{0, 11, 19}, false},
		{chainC(), []int{0, 10}, false},
		{chainC(), []int{0, 10, 17, 0}, false},
		{chainC(), nil, false},
		{links(1), []int{math.MinInt}, true},
		{links(1), nil, false},
		{links(0), nil, false},
		{links(3, between(0, 1, none)), []int{0, 0, 0}, false},
		{big, []int{math.MaxInt, math.MaxInt - 5}, true},
		{big, []int{math.MaxInt, math.MaxInt - 6}, false},
		{big, []int{math.MinInt, math.MinInt + 9}, true},
		{big, []int{math.MinInt, math.MinInt + 10}, false},
		{big, []int{math.MaxInt, math.MinInt}, false}, // they would be neighbours if numbers went round
		{big, []int{math.MaxInt, math.MinInt + 8}, false},
		{big, []int{math.MinInt, math.MaxInt}, false},
		{big, []int{math.MinInt + 4, math.MaxInt}, false},
		{big, []int{math.MinInt, 0}, false},
		{big, []int{0, math.MinInt}, false},
	} {
		if Fits(c.c, c.at) != c.want {
			t.Error(i)
		}
	}
}

// P4.1: Fits looks at each link.
func TestFitsPlainly(t *testing.T) {
	yes := 0
	chains(t, 2, 4000, 4, 3, func(d *dice, c api.Chain) {
		var at []int
		for range c.Points {
			at = append(at, d.from(-3, 3))
		}
		if Fits(c, at) != plainFits(c, at) {
			t.Error(at)
		}
		if Fits(c, at) {
			yes++
		}
	})
	if yes < 500 {
		t.Error("too few cases", yes)
	}
}
