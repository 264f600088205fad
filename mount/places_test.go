package mount

import (
	"slices"
	"testing"

	"thermion/api"
)

// P4.2: places that were found by hand.
func TestPlaces(t *testing.T) {
	for i, c := range []struct {
		c    api.Chain
		want [][]int
	}{
		{chainC(), [][]int{{0, 10, 17}, {0, 10, 18}, {0, 11, 17}, {0, 11, 18}, {0, 12, 17}, {0, 12, 18}}},
		{links(1), [][]int{{0}}},
		{links(2, between(1, 0, of(-1, 1))), [][]int{{0, -1}, {0, 0}, {0, 1}}},
		{links(3, between(0, 1, of(0, 1)), between(0, 2, of(-1, 0))), [][]int{{0, 0, -1}, {0, 0, 0}, {0, 1, -1}, {0, 1, 0}}},
		{links(3, between(2, 0, of(0, 1)), between(2, 1, of(0, 1))), [][]int{{0, -1, -1}, {0, 0, -1}, {0, 0, 0}, {0, 1, 0}}},
		{row(24, one(api.MaxLength)), [][]int{slices.Collect(func(yield func(int) bool) {
			for n := 0; n < 24 && yield(n*api.MaxLength); n++ {
			}
		})}},
	} {
		if l, e := Places(c.c); !same(l, c.want) || e != api.OK {
			t.Error(i, l, e)
		}
	}
}

// P4.2: there may be as many places as MaxPlaces, but not one more; what is too much is found at once.
func TestManyPlaces(t *testing.T) {
	for i, c := range []struct {
		c    api.Chain
		n    int
		want api.Errno
	}{
		{links(2, between(0, 1, of(1, 300))), 300, api.OK},
		{links(2, between(0, 1, of(1, 301))), 0, api.ErrFull},
		{links(3, between(0, 1, of(1, 20)), between(1, 2, of(1, 15))), 300, api.OK},
		{links(3, between(0, 1, of(1, 43)), between(1, 2, of(1, 7))), 0, api.ErrFull},
		{row(24, of(-api.MaxLength, api.MaxLength)), 0, api.ErrFull},
		{row(9, of(0, 1)), 256, api.OK},
		{row(10, of(0, 1)), 0, api.ErrFull},
	} {
		if l, e := Places(c.c); len(l) != c.n || e != c.want {
			t.Error(i, len(l), e)
		}
	}
}

// P4.2: places that are taken step by step are not looked for further.
func TestPositionsStop(t *testing.T) {
	r, e := reachesOf(chainC())
	if e != api.OK {
		t.Fatal(e)
	}
	for want := range 6 {
		n := 0
		for range positions(r, 3) {
			if n++; n > want {
				break
			}
		}
		if n != want+1 {
			t.Error(n, want)
		}
	}
}
