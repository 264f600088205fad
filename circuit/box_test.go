package circuit

import (
	"testing"

	"thermion/api"
)

// P9.3: boxes that are kept, or are not, found by hand.
func TestKeeps(t *testing.T) {
	full := of(0, 100000)
	for i, c := range []struct {
		n           api.Net
		inputs, box []api.Range
		want        bool
	}{
		{netN(), []api.Range{one(0)}, []api.Range{of(40000, 60000)}, true}, {netN(), []api.Range{one(0)}, []api.Range{of(60000, 70000)}, false}, {netN(), []api.Range{one(0)}, []api.Range{one(50000)}, true}, {netN(), []api.Range{one(0)}, []api.Range{of(50001, 100000)}, false}, {netN(), []api.Range{one(0)}, []api.Range{of(0, 49999)}, false}, {netN(), []api.Range{one(0)}, []api.Range{of(0, 1000000)}, true},
		{netN(), []api.Range{of(-2000, 0)}, []api.Range{of(50000, 100000)}, true}, {netN(), []api.Range{of(-2000, 0)}, []api.Range{of(50001, 100000)}, false}, {netN(), []api.Range{of(-2000, 0)}, []api.Range{of(50000, 99999)}, false},
		// With 100000 at one of the twins the other one is at 33300 to 33300, or 33400 to be on the sure side; with 40000 and less the other one draws nothing.
		{twins(), nil, []api.Range{of(0, 40000), one(100000)}, true}, {twins(), nil, []api.Range{one(100000), of(0, 40000)}, true}, {twins(), nil, []api.Range{of(0, 40001), one(100000)}, false}, {twins(), nil, []api.Range{of(0, 33000), one(100000)}, false}, {twins(), nil, []api.Range{of(33300, 33400), one(100000)}, true}, {twins(), nil, []api.Range{of(33301, 33400), one(100000)}, false}, {twins(), nil, []api.Range{of(33300, 33399), one(100000)}, false}, {twins(), nil, []api.Range{full, full}, true}, {twins(), nil, []api.Range{of(33300, 100000), of(33300, 100000)}, true}, {twins(), nil, []api.Range{of(0, 40000), of(0, 40000)}, false}, {twins(), nil, []api.Range{one(100000), one(100000)}, false},
		// Not only the first plate counts, and not only the last one. A box is taken as it is: the plates found by it do not count for each other.
		{row(), nil, []api.Range{one(50000), one(100000), one(50000)}, true}, {row(), nil, []api.Range{one(50000), one(100000), one(50001)}, false}, {row(), nil, []api.Range{one(50001), one(100000), one(50000)}, false}, {row(), nil, []api.Range{one(50000), one(99999), one(50000)}, false},
		{row(), nil, []api.Range{of(50000, 100000), one(100000), one(50000)}, false}, {row(), nil, []api.Range{one(50000), of(50000, 100000), one(50000)}, false}, {row(), nil, []api.Range{full, full, full}, true},
	} {
		if is, e := Keeps(c.n, c.inputs, c.box); is != c.want || e != api.OK {
			t.Error(i, is, e)
		}
	}
}

// P9.3: which plates remember two boxes, found by hand.
func TestMemory(t *testing.T) {
	a, b := []api.Range{of(0, 40000), one(100000)}, []api.Range{one(100000), of(0, 40000)}
	full := []api.Range{of(0, 100000), of(0, 100000)}
	for i, c := range []struct {
		n            api.Net
		inputs, a, b []api.Range
		want         int
	}{
		{twins(), nil, a, b, 0}, {twins(), nil, b, a, 0}, {twins(), nil, a, a, -1}, {twins(), nil, a, full, -1}, {twins(), nil, full, b, -1},
		{twins(), nil, a, []api.Range{one(100000), one(100000)}, -1}, {twins(), nil, []api.Range{none, none}, b, -1}, {twins(), nil, []api.Range{of(0, 40001), one(100000)}, b, -1},
		{netN(), []api.Range{one(0)}, []api.Range{of(40000, 60000)}, []api.Range{one(50000)}, -1}, {netN(), []api.Range{one(0)}, []api.Range{of(40000, 60000)}, []api.Range{none}, -1}, {netN(), []api.Range{one(0)}, []api.Range{of(0, 50000)}, []api.Range{of(50000, 70000)}, -1},
		// A stage before the twins and one behind them: the second one remembers.
		{apart(), nil, []api.Range{one(50000), of(0, 40000), one(100000), of(0, 100000)}, []api.Range{one(50000), one(100000), of(0, 40000), of(0, 100000)}, 1},
		{apart(), nil, []api.Range{one(50000), of(0, 100000), of(0, 100000), of(0, 100000)}, []api.Range{one(50000), one(100000), of(0, 40000), of(0, 100000)}, -1},
	} {
		if p, e := Memory(c.n, c.inputs, c.a, c.b); p != c.want || e != api.OK {
			t.Error(i, p, e)
		}
	}
}

// apart is the twins with a stage before them and one behind them.
func apart() api.Net {
	n := twins()
	n.Stages[0].Taps[0].Node, n.Stages[1].Taps[0].Node = 2, 1
	n.Stages = []api.Stage{stage(), n.Stages[0], n.Stages[1], stage(tap(1, 1, 50))}
	return n
}

// P9.3: the errors of Keeps and of Memory, and the first one of two.
func TestKeepsErrors(t *testing.T) {
	type call struct {
		n            api.Net
		inputs, a, b []api.Range
	}
	right := func() call {
		return call{netX(), make([]api.Range, 2), make([]api.Range, 3), make([]api.Range, 3)}
	}
	faults := []fault[call]{
		{func(c *call) { c.n.Tubes = nil }, api.ErrShort}, {func(c *call) { c.inputs = append(c.inputs, c.inputs...) }, api.ErrForm}, {func(c *call) { c.inputs[0].Lo = 1 }, api.ErrOrder}, {func(c *call) { c.inputs[1].Lo = -1000001 }, api.ErrRange},
		{func(c *call) { c.a = append(c.a, c.a...) }, api.ErrForm}, {func(c *call) { c.a[0].Hi = 1000001 }, api.ErrRange}, {func(c *call) { c.a[0].Lo = 1 }, api.ErrOrder}, {func(c *call) { c.a[2].Lo = -1 }, api.ErrRange},
	}
	inOrder(t, right, faults, func(c call) api.Errno {
		is, e := Keeps(c.n, c.inputs, c.a)
		if e != api.OK && is {
			t.Error(is, e)
		}
		return e
	})
	faults = append(faults, []fault[call]{{func(c *call) { c.b = c.b[:len(c.b)-1] }, api.ErrForm}, {func(c *call) { c.b[0].Lo = -1 }, api.ErrRange}, {func(c *call) { c.b[1].Lo = 1 }, api.ErrOrder}}...)
	inOrder(t, right, faults, func(c call) api.Errno {
		p, e := Memory(c.n, c.inputs, c.a, c.b)
		if e != api.OK && p != 0 || e == api.OK && p != -1 {
			t.Error(p, e)
		}
		return e
	})
	for i, c := range []struct {
		inputs, box []api.Range
		e           api.Errno
	}{
		{[]api.Range{of(-1000000, 1000000)}, []api.Range{of(0, 1000000)}, api.OK}, {nil, []api.Range{{}}, api.ErrForm}, {[]api.Range{{}}, nil, api.ErrForm}, {[]api.Range{{}}, make([]api.Range, 2), api.ErrForm}, {[]api.Range{of(0, 1000001)}, nil, api.ErrRange}, {[]api.Range{of(1, 0)}, nil, api.ErrOrder},
		{[]api.Range{{}}, []api.Range{of(-1, 0)}, api.ErrRange}, {[]api.Range{{}}, []api.Range{of(0, 1000001)}, api.ErrRange}, {[]api.Range{{}}, []api.Range{of(0, -1)}, api.ErrRange}, {[]api.Range{{}}, []api.Range{of(1000001, 0)}, api.ErrRange}, {[]api.Range{{}}, []api.Range{of(1, 0)}, api.ErrOrder},
	} {
		if is, e := Keeps(netN(), c.inputs, c.box); e != c.e || e != api.OK && is {
			t.Error(i, is, e)
		}
		if p, e := Memory(netN(), c.inputs, c.box, c.box); e != c.e || e != api.OK && p != 0 {
			t.Error(i, p, e)
		}
	}
}

// box returns a box: what a net comes to after some sweeps, the least box around another one that is kept, or any one.
func (d *dice) box(t *testing.T, n api.Net, inputs []api.Range) []api.Range {
	t.Helper()
	box := rests(t, n, inputs, d.upTo(9)).Nodes[n.Inputs:]
	which := d.upTo(4)
	for i, s := range n.Stages {
		switch which {
		case 1: // a little more, or a little less
			box[i] = of(max(0, box[i].Lo-d.from(-1, 2)), min(api.MaxVolt, box[i].Hi+d.from(-1, 2)))
			box[i].Hi = max(box[i].Lo, box[i].Hi)
		case 2:
			box[i] = one(d.upTo(2) * s.Supply.Hi)
		case 3:
			box[i] = d.any(0, s.Supply.Hi)
		}
	}
	if which == 2 || which == 3 && d.upTo(2) == 0 {
		return keptAround(t, n, inputs, box)
	}
	return box
}

// keptAround returns a box around another one that is kept, as narrow as it comes out.
func keptAround(t *testing.T, n api.Net, inputs, box []api.Range) []api.Range {
	t.Helper()
	for range 40 {
		grown := false
		for i, r := range platesBy(t, n, inputs, box) {
			was := box[i]
			box[i] = of(min(was.Lo, r.Lo), max(was.Hi, r.Hi))
			grown = grown || box[i] != was
		}
		if !grown {
			break
		}
	}
	return box
}

// platesBy returns the plates of all stages by the inputs and a box.
func platesBy(t *testing.T, n api.Net, inputs, box []api.Range) []api.Range {
	t.Helper()
	nodes := append(append([]api.Range(nil), inputs...), box...)
	var l []api.Range
	for i := range n.Stages {
		r, e := Plate(n, i, plainGrid(n, i, nodes))
		if e != api.OK {
			t.Fatal(n, i, nodes, e)
		}
		l = append(l, r)
	}
	return l
}

// P9.3: Keeps follows the chapter, and Memory does.
func TestKeepsPlainly(t *testing.T) {
	for _, k := range kinds() {
		count := map[bool]int{}
		nets(t, 20, 800, k, (*dice).size, func(d *dice, n api.Net, inputs []api.Range) {
			a, b := d.box(t, n, inputs), d.box(t, n, inputs)
			want := -1
			for i := range a {
				if want == -1 && (a[i].Hi < b[i].Lo || b[i].Hi < a[i].Lo) {
					want = i
				}
			}
			for _, box := range [][]api.Range{a, b} {
				kept := areIn(platesBy(t, n, inputs, box), box)
				if is, e := Keeps(n, inputs, box); is != kept || e != api.OK {
					t.Error(box, is, kept, e)
				}
				if count[kept]++; !kept {
					want = -1
				}
			}
			if p, e := Memory(n, inputs, a, b); p != want || e != api.OK {
				t.Error(a, b, p, want, e)
			}
		})
		if count[true] < 300 || count[false] < 100 {
			t.Error(k, count)
		}
	}
}
