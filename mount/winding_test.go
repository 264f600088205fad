package mount

import (
	"slices"
	"testing"

	"thermion/api"
)

// windingW is the winding of the chapter's examples.
func windingW() api.Winding {
	return api.Winding{Turns: 2, Wire: one(50), Pitch: of(200, 210), Stretch: one(10000), First: of(0, 5), Length: of(250, 260)}
}

// partsOf returns the ranges of a winding, in their order.
func partsOf(w *api.Winding) []*api.Range {
	return []*api.Range{&w.Wire, &w.Pitch, &w.Stretch, &w.First, &w.Length}
}

// P4.3: chains of windings that were made by hand.
func TestWind(t *testing.T) {
	three := changed(windingW(), func(w *api.Winding) { w.Turns, w.Wire = 3, of(49, 51) })
	for i, c := range []struct {
		w    api.Winding
		want api.Chain
	}{
		{windingW(), links(5, between(0, 1, of(0, 5)), between(1, 2, one(50)), between(3, 4, one(50)), between(1, 3, of(202, 213)), between(1, 4, of(250, 260)))},
		{changed(windingW(), func(w *api.Winding) { w.Turns = 1 }), links(3, between(0, 1, of(0, 5)), between(1, 2, one(50)))},
		{three, links(7, between(0, 1, of(0, 5)), between(1, 2, of(49, 51)), between(3, 4, of(49, 51)), between(1, 3, of(202, 213)), between(5, 6, of(49, 51)), between(3, 5, of(202, 213)), between(1, 6, of(250, 260)))},
	} {
		if got, e := Wind(c.w); got.Points != c.want.Points || !slices.Equal(got.Links, c.want.Links) || e != api.OK {
			t.Error(i, got, e)
		}
	}
}

// P4.3: the stretched pitch is rounded outwards.
func TestStretched(t *testing.T) {
	for i, c := range []struct{ pitch, stretch, want api.Range }{
		{of(200, 210), none, of(200, 210)},
		{of(200, 210), one(1), of(200, 211)},
		{of(200, 210), one(4999), of(200, 212)},
		{of(200, 210), one(5000), of(201, 212)},
		{of(200, 210), of(0, 5000), of(200, 212)},
		{of(200, 200), of(5000, 10000), of(201, 202)},
		{of(200, 200), of(5000, 10001), of(201, 203)},
		{of(1, 10000), one(api.Million), of(2, 20000)},
		{of(1, 10000), of(0, api.Million), of(1, 20000)},
		{one(1), one(999999), of(1, 2)},
		{one(1), one(1), of(1, 2)},
		{one(3), one(333333), of(3, 4)},
		{one(3), one(333334), of(4, 5)},
	} {
		w := changed(windingW(), func(w *api.Winding) { w.Pitch, w.Stretch = c.pitch, c.stretch })
		if got, e := Wind(w); e != api.OK || got.Links[3] != between(1, 3, c.want) {
			t.Error(i, got, e)
		}
	}
}

// P4.3: the bounds of a winding's numbers.
func TestWindingBounds(t *testing.T) {
	for i, c := range []struct{ part, least, most int }{{0, 1, 10000}, {1, 1, 10000}, {2, 0, 1000000}, {3, 0, 1000000}, {4, 0, 1000000}} {
		for _, k := range []struct {
			r    api.Range
			want api.Errno
		}{
			{of(c.least, c.most), api.OK}, {one(c.least), api.OK}, {one(c.most), api.OK},
			{of(c.least-1, c.most), api.ErrRange}, {of(c.least, c.most+1), api.ErrRange}, {one(c.least - 1), api.ErrRange}, {one(c.most + 1), api.ErrRange},
			{of(c.least+1, c.least), api.ErrOrder}, {of(c.most+1, c.least-1), api.ErrOrder},
		} {
			w := windingW()
			*partsOf(&w)[c.part] = k.r
			got, e := Wind(w)
			if e != k.want || e != api.OK && (got.Points != 0 || got.Links != nil) {
				t.Error(i, k.r, got, e)
			}
		}
	}
	for i, c := range []struct {
		turns int
		want  api.Errno
	}{{1, api.OK}, {11, api.OK}, {0, api.ErrRange}, {12, api.ErrRange}, {-1, api.ErrRange}} {
		w := changed(windingW(), func(w *api.Winding) { w.Turns = c.turns })
		if got, e := Wind(w); e != c.want || e == api.OK && got.Points != 2*c.turns+1 {
			t.Error(i, got, e)
		}
	}
}

// P4.3, R1: of several errors of a winding the first one is returned.
func TestWindingErrorOrder(t *testing.T) {
	w := windingW()
	for i := range partsOf(&w) {
		for k := range i {
			later, first := of(2, 1), one(-1)
			w := windingW()
			*partsOf(&w)[i], *partsOf(&w)[k] = later, first
			if _, e := Wind(w); e != api.ErrRange {
				t.Error(i, k, e)
			}
			*partsOf(&w)[i], *partsOf(&w)[k] = first, later
			if _, e := Wind(w); e != api.ErrOrder {
				t.Error(i, k, e)
			}
		}
		w := changed(windingW(), func(w *api.Winding) { w.Turns = 0 })
		*partsOf(&w)[i] = of(2, 1)
		if _, e := Wind(w); e != api.ErrRange {
			t.Error(i, e)
		}
	}
}

// P4.3: the chain of each winding is valid, also that of the greatest one, whose links are as many as they should be.
func TestGreatestWinding(t *testing.T) {
	w := api.Winding{Turns: 11, Wire: one(10000), Pitch: one(10000), Stretch: one(api.Million), First: one(api.MaxLength), Length: of(0, api.MaxLength)}
	c, e := Wind(w)
	if e != api.OK || CheckChain(c) != api.OK || c.Points != 23 || len(c.Links) != 23 {
		t.Error(c, e)
	}
	if r := tightOf(t, c); r[0][22] != one(1210000) {
		t.Error(r[0][22])
	}
	w.Length = of(0, 209999) // too short for it: that is what the chain is for
	c, e = Wind(w)
	if _, clash := Tight(c); e != api.OK || clash != api.ErrClash {
		t.Error(e, clash)
	}
}
