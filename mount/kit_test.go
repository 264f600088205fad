package mount

import (
	"slices"
	"testing"

	"thermion/api"
)

// needing makes a part that needs others, barred one that others bar.
func needing(l ...int) api.Part { return api.Part{Needs: l} }
func barred(l ...int) api.Part  { return api.Part{Bars: l} }

// parts makes a kit.
func parts(l ...api.Part) api.Kit { return api.Kit{Parts: l} }

// free returns a kit of so many parts without interlocks.
func free(n int) api.Kit { return parts(make([]api.Part, n)...) }

// with returns the kit of the examples with another part 1.
func with(p api.Part) api.Kit {
	k := kitK()
	k.Parts[1] = p
	return k
}

// P4.4: what is wrong with a kit, and what is not.
func TestCheckKit(t *testing.T) {
	for i, c := range []struct {
		k    api.Kit
		want api.Errno
	}{
		{kitK(), api.OK},
		{api.Kit{}, api.OK},
		{free(14), api.OK},
		{free(15), api.ErrFull},
		{api.Kit{Change: 10000}, api.OK},
		{api.Kit{Change: 10001}, api.ErrRange},
		{api.Kit{Change: -1}, api.ErrRange},
		{with(needing(0, 2)), api.OK},
		{with(barred(0, 2)), api.OK},
		{with(api.Part{Needs: []int{0, 2}, Bars: []int{0, 2}}), api.OK}, // it never may go in
		{with(needing(3)), api.ErrMissing},
		{with(needing(-1)), api.ErrMissing},
		{with(needing(0, 3)), api.ErrMissing},
		{with(needing(1)), api.ErrExists},
		{with(needing(0, 1)), api.ErrExists},
		{with(needing(2, 0)), api.ErrOrder},
		{with(needing(0, 0)), api.ErrOrder},
		{with(needing(2, 2)), api.ErrOrder},
		{with(barred(3)), api.ErrMissing},
		{with(barred(-1)), api.ErrMissing},
		{with(barred(1)), api.ErrExists},
		{with(barred(2, 0)), api.ErrOrder},
		{with(barred(2, 2)), api.ErrOrder},
		{with(api.Part{Jig: 8, Ticks: 10000}), api.OK},
		{with(api.Part{Jig: 9}), api.ErrRange},
		{with(api.Part{Jig: -1}), api.ErrRange},
		{with(api.Part{Ticks: 10001}), api.ErrRange},
		{with(api.Part{Ticks: -1}), api.ErrRange},
	} {
		if e := CheckKit(c.k); e != c.want {
			t.Error(i, e)
		}
	}
}

// P4.4, R1: of several errors of a kit the first one is returned.
func TestKitErrorOrder(t *testing.T) {
	for i, c := range []struct {
		k    api.Kit
		want api.Errno
	}{
		{changed(free(15), func(k *api.Kit) { k.Change, k.Parts[0].Needs = -1, []int{99} }), api.ErrFull},
		{changed(with(needing(99)), func(k *api.Kit) { k.Change = -1 }), api.ErrRange},
		{with(needing(1, 99)), api.ErrExists}, // number by number
		{with(needing(2, 0, 99)), api.ErrOrder},
		{with(needing(2, 1)), api.ErrExists}, // its own number, which is not greater than the one before, too
		{with(needing(2, -1)), api.ErrMissing},
		{with(api.Part{Needs: []int{2, 0}, Bars: []int{99}, Jig: 9}), api.ErrOrder}, // Needs, then Bars, then Jig and Ticks
		{with(api.Part{Needs: []int{0}, Bars: []int{99}, Jig: 9}), api.ErrMissing},
		{with(api.Part{Bars: []int{1}, Ticks: -1}), api.ErrExists},
		{parts(api.Part{Jig: 9}, needing(99)), api.ErrRange}, // part by part
		{parts(api.Part{Ticks: -1}, needing(1)), api.ErrRange},
		{parts(barred(0), needing(99)), api.ErrExists},
	} {
		if e := CheckKit(c.k); e != c.want {
			t.Error(i, e)
		}
	}
}

// P4.4, P4.5: the functions of kits return CheckKit's error first.
func TestKitErrors(t *testing.T) {
	for i, k := range []api.Kit{free(15), {Change: -1}, with(needing(3)), with(needing(1)), with(barred(2, 0)), with(api.Part{Jig: 9})} {
		want := CheckKit(k)
		may, e1 := May(k, []int{99})
		good, e2 := Guard(k, []int{1, 0})
		order, is, e3 := Stuck(k)
		n, e4 := Orders(k)
		fastest, ticks, e5 := Fastest(k)
		if want == api.OK || len(may)+len(good)+len(order)+n+len(fastest)+ticks > 0 || is || slices.ContainsFunc([]api.Errno{e1, e2, e3, e4, e5}, func(e api.Errno) bool { return e != want }) {
			t.Error(i, want, e1, e2, e3, e4, e5)
		}
	}
}

// P4.4: which parts may go in, and which are good.
func TestMayAndGuard(t *testing.T) {
	pair := parts(needing(1), needing(0), api.Part{})
	for i, c := range []struct {
		k             api.Kit
		in, may, good []int
	}{
		{kitK(), nil, []int{0, 2}, []int{0, 2}},
		{kitK(), []int{0}, []int{1, 2}, []int{2}},
		{kitK(), []int{1}, []int{0}, nil}, // no order leads there, but it may be asked for
		{kitK(), []int{2}, []int{0}, []int{0}},
		{kitK(), []int{0, 1}, nil, nil},
		{kitK(), []int{0, 2}, []int{1}, []int{1}},
		{kitK(), []int{1, 2}, []int{0}, []int{0}},
		{kitK(), []int{0, 1, 2}, nil, nil},
		{api.Kit{}, nil, nil, nil},
		{pair, nil, []int{2}, nil},
		{pair, []int{0}, []int{1, 2}, []int{1, 2}},
		{parts(barred(1), barred(0)), nil, []int{0, 1}, nil},
		{parts(barred(1, 2), needing(0), needing(0, 1)), nil, []int{0}, []int{0}},
		{parts(barred(1, 2), needing(0), needing(0, 1)), []int{2}, nil, nil},
		{free(14), []int{13}, []int{0, 1, 2, 3, 4, 5, 6, 7, 8, 9, 10, 11, 12}, []int{0, 1, 2, 3, 4, 5, 6, 7, 8, 9, 10, 11, 12}},
		{free(14), []int{0, 1, 2, 3, 4, 5, 6, 7, 8, 9, 10, 11, 12}, []int{13}, []int{13}},
	} {
		may, e := May(c.k, c.in)
		good, e2 := Guard(c.k, c.in)
		if !slices.Equal(may, c.may) || !slices.Equal(good, c.good) || e != api.OK || e2 != api.OK {
			t.Error(i, may, good, e, e2)
		}
	}
}

// P4.4: the errors of states, number by number.
func TestMayErrors(t *testing.T) {
	for i, c := range []struct {
		in   []int
		want api.Errno
	}{
		{[]int{3}, api.ErrMissing},
		{[]int{-1}, api.ErrMissing},
		{[]int{0, 1, 2, 3}, api.ErrMissing},
		{[]int{1, 0}, api.ErrOrder},
		{[]int{1, 1}, api.ErrOrder},
		{[]int{0, 2, 1}, api.ErrOrder},
		{[]int{1, 0, 99}, api.ErrOrder},
		{[]int{99, 1, 0}, api.ErrMissing},
		{[]int{2, -1}, api.ErrMissing},
	} {
		may, e := May(kitK(), c.in)
		good, e2 := Guard(kitK(), c.in)
		if may != nil || good != nil || e != c.want || e2 != c.want {
			t.Error(i, may, good, e, e2)
		}
	}
	if may, e := May(api.Kit{}, []int{0}); may != nil || e != api.ErrMissing {
		t.Error(may, e)
	}
}

// P4.4: May and Guard, and what is found if all orders are tried.
func TestMayPlainly(t *testing.T) {
	kits(t, 4, 1500, 5, func(d *dice, k api.Kit) {
		var in []int
		for p := range k.Parts {
			if d.upTo(3) == 0 {
				in = append(in, p)
			}
		}
		want := plainMay(k, in)
		may, e := May(k, in)
		if !slices.Equal(may, want) || e != api.OK {
			t.Error(in, may, want, e)
		}
		good, e := Guard(k, in)
		want = slices.DeleteFunc(want, func(p int) bool { return len(plainWhole(k, append(slices.Clone(in), p))) == 0 })
		if !slices.Equal(good, want) || e != api.OK {
			t.Error(in, good, want, e)
		}
	})
}
