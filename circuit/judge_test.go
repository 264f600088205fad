package circuit

import (
	"slices"
	"testing"

	"thermion/api"
)

// loose is the net N with a load of 100000 to 300000: its plate is at 25000 to 50000 with the grid at 0.
func loose() api.Net {
	return changed(netN(), func(n *api.Net) { n.Stages[0].Load = of(100000, 300000) })
}

// P9.4: corners that were found by hand: each bit by itself, and all of them.
func TestCorner(t *testing.T) {
	n := netN()
	n.Tubes[0].High[1][1] = 1100
	n.Tubes = append(n.Tubes, changed(familyF(), func(f *api.Family) { f.High[1][0] = 50 }))
	n.Stages[0].Supply, n.Stages[0].Load, n.Stages[0].Bias = of(10, 20), of(30, 40), of(-60, -50)
	n.Inputs, n.Stages[0].Taps = 3, []api.Tap{tap(1, 7, 9)}
	inputs := []api.Range{of(1, 2), of(-4, -3), of(5, 6)}
	for k := range 256 {
		m, l, e := Corner(n, inputs, k)
		bit := func(i int) int { return k >> i & 1 }
		want := copyOf(n)
		for i, c := range [][2]int{{1000, 1100}, {1000, 1000}} {
			want.Tubes[i].Low[1][1], want.Tubes[i].High[1][1] = c[bit(i)], c[bit(i)]
		}
		want.Tubes[1].Low[1][0], want.Tubes[1].High[1][0] = 50*bit(1), 50*bit(1)
		want.Stages[0].Supply, want.Stages[0].Load, want.Stages[0].Bias = one([]int{10, 20}[bit(2)]), one([]int{30, 40}[bit(3)]), one([]int{-60, -50}[bit(4)])
		if !Same(m, want) || !slices.Equal(l, []api.Range{one(1 + bit(5)), one(-4 + bit(6)), one(5 + bit(7))}) || e != api.OK {
			t.Fatal(k, m, l, e)
		}
	}
	// The corner of the example, and one of two stages.
	m, l, e := Corner(netN(), []api.Range{of(-2000, 0)}, 16)
	if !Same(m, netN()) || !slices.Equal(l, []api.Range{one(0)}) || e != api.OK {
		t.Error(m, l, e)
	}
	n = twins()
	n.Stages[0].Bias, n.Stages[1].Supply, n.Stages[1].Bias = of(1, 2), of(3, 4), of(5, 6)
	m, l, e = Corner(n, nil, 8+16)
	n.Stages[0].Bias, n.Stages[1].Supply, n.Stages[1].Bias = one(2), one(4), one(5)
	if !Same(m, n) || len(l) != 0 || e != api.OK {
		t.Error(m, l, e)
	}
}

// P9.4: Corner follows the chapter.
func TestCornerPlainly(t *testing.T) {
	for _, k := range kinds() {
		nets(t, 30, 300, k, (*dice).smallSize, func(d *dice, n api.Net, inputs []api.Range) {
			all := 1 << bitsOf(n)
			for range 10 {
				number := d.upTo(all)
				m, l, e := Corner(n, inputs, number)
				want, in := plainCorner(n, inputs, number)
				if !Same(m, want) || !slices.Equal(l, in) || e != api.OK || Check(m) != api.OK {
					t.Error(number, m, l, e)
				}
			}
			for _, number := range []int{-1, all} {
				if m, l, e := Corner(n, inputs, number); !Same(m, api.Net{}) || l != nil || e != api.ErrRange {
					t.Error(number, m, l, e)
				}
			}
		})
	}
}

// P9.4: all corners are handed out, ascending, as long as more of them are asked for.
func TestCornersInOrder(t *testing.T) {
	nets(t, 33, 100, usualKind, (*dice).smallSize, func(d *dice, n api.Net, inputs []api.Range) {
		all := 1 << bitsOf(n)
		enough := d.upTo(all)
		for _, last := range []int{all - 1, enough} {
			next := 0
			for k, c := range (fed{wired{n}, inputs}).corners() {
				want, in := plainCorner(n, inputs, next)
				if k != next || !Same(c.Net, want) || !slices.Equal(c.inputs, in) {
					t.Error(k, next)
				}
				next++
				if k == last {
					break
				}
			}
			if next != last+1 {
				t.Error(all, last, next)
			}
		}
	})
}

// P9.4: the errors of Corner, and the first one of two; how many bits are too many.
func TestCornerErrors(t *testing.T) {
	type call struct {
		n      api.Net
		inputs []api.Range
		corner int
	}
	right := func() call { return call{netN(), []api.Range{{}}, 31} }
	inOrder(t, right, []fault[call]{
		{func(c *call) { c.n.Tubes = nil }, api.ErrShort}, {func(c *call) { c.inputs = append(c.inputs, api.Range{}) }, api.ErrForm}, {func(c *call) { c.inputs[0].Hi = 1000001 }, api.ErrRange}, {func(c *call) { c.inputs[0].Lo = 1 }, api.ErrOrder},
		{func(c *call) { c.n.Tubes, c.n.Stages = slices.Repeat(c.n.Tubes, 3), slices.Repeat(c.n.Stages, 2) }, api.ErrFull}, {func(c *call) { c.corner = 1 << 40 }, api.ErrRange},
	}, func(c call) api.Errno {
		n, l, e := Corner(c.n, c.inputs, c.corner)
		if e != api.OK && (!Same(n, api.Net{}) || l != nil) {
			t.Error(n, l, e)
		}
		return e
	})
	for tubes := 1; tubes <= 4; tubes++ {
		for stages := 1; stages <= 6; stages++ {
			for inputs := range 5 {
				n := api.Net{Tubes: slices.Repeat([]api.Family{familyF()}, tubes), Inputs: inputs, Stages: slices.Repeat([]api.Stage{stage()}, stages)}
				bits, want := tubes+3*stages+inputs, api.OK
				if bits > 8 {
					want = api.ErrFull
				}
				_, _, e1 := Corner(n, make([]api.Range, inputs), 1<<min(bits, 8)-1)
				_, _, _, e2 := Judge(n, nil, 0)
				_, _, _, e3 := Gate(n, none, none, 0, make([]bool, 1<<inputs), 0)
				if e1 != want || e2 != want || e3 != want {
					t.Error(tubes, stages, inputs, e1, e2, e3)
				}
			}
		}
	}
}

// window makes a window of the plate of the net N.
func window(lo, hi int) api.Window { return api.Window{Node: 1, Range: of(lo, hi)} }

// asking makes a case with an input.
func asking(input api.Range, windows ...api.Window) api.Case {
	return api.Case{Inputs: []api.Range{input}, Windows: windows}
}

// P9.4: verdicts that were found by hand.
func TestJudge(t *testing.T) {
	input := func(lo, hi int) api.Window { return api.Window{Node: 0, Range: of(lo, hi)} }
	for i, c := range []struct {
		n                       api.Net
		cases                   []api.Case
		sweeps                  int
		verdict, number, corner int
	}{
		{netN(), nil, 9, api.Sure, -1, -1}, {netN(), []api.Case{asking(one(0))}, 9, api.Sure, -1, -1}, {netN(), []api.Case{asking(one(0), window(49000, 51000))}, 9, api.Sure, -1, -1}, {netN(), []api.Case{asking(one(0), window(50000, 50000))}, 9, api.Sure, -1, -1}, {netN(), []api.Case{asking(one(0), window(60000, 70000))}, 9, api.Never, 0, 0}, {netN(), []api.Case{asking(one(0), window(50001, 70000))}, 9, api.Never, 0, 0}, {netN(), []api.Case{asking(one(0), window(0, 49999))}, 9, api.Never, 0, 0},
		{netN(), []api.Case{asking(of(-2000, 0), window(49000, 51000))}, 9, api.Never, 0, 0}, {netN(), []api.Case{asking(of(-2000, 0), window(99000, 100000))}, 9, api.Never, 0, 16}, {netN(), []api.Case{asking(of(-2000, 0), window(50000, 100000))}, 9, api.Sure, -1, -1}, {netN(), []api.Case{asking(of(-2000, 0), window(-1<<62, 1<<62))}, 9, api.Sure, -1, -1},
		// Rounded outwards the plate is at 66600 to 66700, at each corner, too: a window with a part of it neither fails nor is sure.
		{netN(), []api.Case{asking(one(-1000), window(66650, 66700))}, 9, api.Unsure, -1, -1}, {netN(), []api.Case{asking(one(-1000), window(66600, 66650))}, 9, api.Unsure, -1, -1}, {netN(), []api.Case{asking(one(-1000), window(66601, 66699))}, 9, api.Unsure, -1, -1}, {netN(), []api.Case{asking(one(-1000), window(66600, 66700))}, 9, api.Sure, -1, -1}, {netN(), []api.Case{asking(one(-1000), window(66700, 99999))}, 9, api.Unsure, -1, -1}, {netN(), []api.Case{asking(one(-1000), window(66701, 99999))}, 9, api.Never, 0, 0},
		// Without sweeps nothing is known.
		{netN(), []api.Case{asking(one(0), window(10000, 60000))}, 0, api.Unsure, -1, -1}, {netN(), []api.Case{asking(one(0), window(0, 100000))}, 0, api.Sure, -1, -1}, {netN(), []api.Case{asking(one(0), window(100001, 100001))}, 0, api.Never, 0, 0}, {netN(), []api.Case{asking(one(0), window(10000, 60000))}, 1, api.Sure, -1, -1},
		// The load is bit 2: at 300000 the plate is at 25000.
		{loose(), []api.Case{asking(one(0), window(40000, 50000))}, 9, api.Never, 0, 4}, {loose(), []api.Case{asking(one(0), window(25000, 40000))}, 9, api.Never, 0, 0}, {loose(), []api.Case{asking(one(0), window(25000, 50000))}, 9, api.Sure, -1, -1},
		// Other windows of a case, and of other nodes.
		{netN(), []api.Case{asking(one(0), window(50000, 50000), window(0, 1000000), window(50000, 50001))}, 9, api.Sure, -1, -1}, {netN(), []api.Case{asking(one(0), window(50000, 50000), window(0, 1000000), window(50001, 50001))}, 9, api.Never, 0, 0}, {netN(), []api.Case{asking(one(-1000), window(66650, 66700), window(0, 0))}, 9, api.Never, 0, 0}, {netN(), []api.Case{asking(one(-1000), window(66650, 66700), window(0, 100000))}, 9, api.Unsure, -1, -1},
		{netN(), []api.Case{asking(of(-5, 5), input(-5, 5))}, 0, api.Sure, -1, -1}, {netN(), []api.Case{asking(of(-5, 5), input(-4, 5))}, 0, api.Never, 0, 0}, {netN(), []api.Case{asking(of(-5, 5), input(-5, 4))}, 0, api.Never, 0, 16}, {netN(), []api.Case{asking(of(-5, 5), input(-5, -5), input(5, 5))}, 0, api.Never, 0, 0},
		// The first case that a corner fails counts, and not the first corner of all cases; nor what is unsure before.
		{netN(), []api.Case{asking(one(0)), asking(one(0), window(50000, 50000), window(50001, 50001))}, 9, api.Never, 1, 0}, {netN(), []api.Case{asking(one(-1000), window(66650, 66700)), asking(one(0), window(50000, 50000))}, 9, api.Unsure, -1, -1}, {netN(), []api.Case{asking(one(0), window(50000, 50000)), asking(one(-1000), window(66650, 66700))}, 9, api.Unsure, -1, -1}, {netN(), []api.Case{asking(one(-1000), window(66650, 66700)), asking(one(0), window(50000, 50000)), asking(one(0), window(0, 0))}, 9, api.Never, 2, 0},
		{netN(), []api.Case{asking(of(-2000, 0), window(99000, 100000)), asking(one(0), window(0, 0))}, 9, api.Never, 0, 16}, {netN(), []api.Case{asking(one(0), window(0, 0)), asking(of(-2000, 0), window(99000, 100000))}, 9, api.Never, 0, 0}, {loose(), slices.Repeat([]api.Case{asking(one(0), slices.Repeat([]api.Window{window(25000, 50000)}, 6)...)}, 16), 9, api.Sure, -1, -1},
		{loose(), append(slices.Repeat([]api.Case{asking(one(0), window(25000, 50000))}, 15), asking(one(0), window(25001, 50000))), 9, api.Never, 15, 4},
		// A family is bit 0: with its High the plate is at 25000.
		{changed(netN(), func(n *api.Net) { n.Tubes[0].High[1][1] = 3000 }), []api.Case{asking(one(0), window(30000, 50000))}, 9, api.Never, 0, 1}, {changed(netN(), func(n *api.Net) { n.Tubes[0].High[1][1] = 3000 }), []api.Case{asking(one(0), window(0, 30000))}, 9, api.Never, 0, 0},
	} {
		if v, k, corner, e := Judge(c.n, c.cases, c.sweeps); v != c.verdict || k != c.number || corner != c.corner || e != api.OK {
			t.Error(i, v, k, corner, e)
		}
	}
}

// judged is a call of Judge.
type judged struct {
	n      api.Net
	cases  []api.Case
	sweeps int
}

// P9.4: the errors of Judge, and the first one of two.
func TestJudgeErrors(t *testing.T) {
	right := func() judged {
		return judged{loose(), []api.Case{asking(one(0), window(0, 5), window(0, 6)), asking(one(0), window(0, 5), window(0, 6))}, 30}
	}
	check := func(c judged) api.Errno {
		v, number, corner, e := Judge(c.n, c.cases, c.sweeps)
		if e != api.OK && (v != 0 || number != 0 || corner != 0) {
			t.Error(v, number, corner, e)
		}
		return e
	}
	inOrder(t, right, []fault[judged]{
		{func(c *judged) { c.n.Stages[0].Load.Lo = 0 }, api.ErrRange}, {func(c *judged) { c.cases = slices.Concat(c.cases, make([]api.Case, 15)) }, api.ErrFull},
		{func(c *judged) { c.cases[0].Inputs = append(c.cases[0].Inputs, api.Range{}) }, api.ErrForm}, {func(c *judged) { c.cases[0].Inputs[0].Hi = 1000001 }, api.ErrRange}, {func(c *judged) { c.cases[0].Inputs[0].Lo = 1 }, api.ErrOrder},
		{func(c *judged) { c.cases[0].Windows = slices.Concat(c.cases[0].Windows, make([]api.Window, 5)) }, api.ErrFull}, {func(c *judged) { c.cases[0].Windows[0].Node = 99 }, api.ErrRange}, {func(c *judged) { c.cases[0].Windows[0].Range.Lo = 7 }, api.ErrOrder}, {func(c *judged) { c.cases[0].Windows[1].Node = -1 }, api.ErrRange},
		{func(c *judged) { c.cases[1].Inputs = append(c.cases[1].Inputs, api.Range{}) }, api.ErrForm}, {func(c *judged) { c.cases[1].Windows[1].Range.Hi = -1 }, api.ErrOrder},
		{func(c *judged) { c.sweeps = 31 }, api.ErrRange}, {func(c *judged) { c.n.Stages = slices.Repeat(c.n.Stages, 3) }, api.ErrFull},
	}, check)
	for i, c := range []struct {
		change func(c *judged)
		e      api.Errno
	}{
		{func(c *judged) { c.sweeps = -1 }, api.ErrRange}, {func(c *judged) { c.sweeps, c.cases = 31, nil }, api.ErrRange}, {func(c *judged) { c.cases = make([]api.Case, 16) }, api.ErrForm}, {func(c *judged) { c.cases = make([]api.Case, 17) }, api.ErrFull}, {func(c *judged) { c.cases[1].Inputs = nil }, api.ErrForm}, {func(c *judged) { c.cases[1].Windows = nil }, api.OK},
		{func(c *judged) { c.cases[0].Windows = make([]api.Window, 6) }, api.OK}, {func(c *judged) { c.cases[0].Windows = make([]api.Window, 7) }, api.ErrFull}, {func(c *judged) { c.cases[1].Windows[0] = api.Window{Node: 2, Range: of(1, 0)} }, api.ErrRange}, {func(c *judged) { c.cases[1].Windows[0] = api.Window{Node: 1, Range: of(1<<62, -1<<62)} }, api.ErrOrder}, {func(c *judged) { c.cases[1].Inputs[0] = of(-1000000, 1000000) }, api.OK},
	} {
		if e := check(changed(right(), c.change)); e != c.e {
			t.Error(i, e)
		}
	}
}

// window returns a window for a range that is known, which it may just keep or not.
func (d *dice) window(node int, r api.Range) api.Window {
	w := api.Window{Node: node, Range: of(r.Lo-d.from(-1, 3), r.Hi+d.from(-1, 3))}
	switch d.upTo(6) {
	case 0:
		w.Range.Lo = d.of(r)
	case 1:
		w.Range.Hi = d.of(r)
	case 2:
		w.Range = of(r.Lo-5, r.Hi+5)
	}
	w.Range.Hi = max(w.Range.Lo, w.Range.Hi)
	return w
}

// cases returns cases for a net.
func (d *dice) cases(t *testing.T, k kind, n api.Net, sweeps, most int) []api.Case {
	t.Helper()
	var l []api.Case
	for range d.upTo(most + 1) {
		c := api.Case{Inputs: d.inputs(k, n)}
		x := rests(t, n, c.Inputs, sweeps)
		for range d.upTo(4) {
			node := d.upTo(len(x.Nodes))
			c.Windows = append(c.Windows, d.window(node, x.Nodes[node]))
		}
		l = append(l, c)
	}
	return l
}

// P9.4: Judge is what is found when each corner is asked.
func TestJudgePlainly(t *testing.T) {
	for _, k := range kinds() {
		count, later := map[int]int{}, 0
		nets(t, 31, 250, k, (*dice).smallSize, func(d *dice, n api.Net, inputs []api.Range) {
			sweeps := []int{0, 1, d.upTo(31), 30}[d.upTo(4)]
			cases := d.cases(t, k, n, sweeps, 3)
			v, number, corner, e := Judge(n, cases, sweeps)
			want, first, at := plainJudge(t, n, cases, sweeps)
			if v != want || number != first || corner != at || e != api.OK {
				t.Error(cases, sweeps, v, number, corner, e, want, first, at)
			}
			if count[v]++; v == api.Never && corner > 0 {
				later++
			}
		})
		if count[api.Sure] < 25 || count[api.Never] < 25 || count[api.Unsure] < 15 || later < 10 {
			t.Error(k, count, later)
		}
	}
}

// P9.5: gates that were found by hand.
func TestGate(t *testing.T) {
	low, high := of(-1000, 60000), of(90000, 100000)
	for i, c := range []struct {
		n                       api.Net
		low, high               api.Range
		node                    int
		table                   []bool
		sweeps                  int
		verdict, number, corner int
	}{
		{netN(), one(0), one(50000), 1, []bool{false, false}, 9, api.Never, 0, 0}, {netN(), one(0), one(50000), 1, []bool{true, true}, 9, api.Sure, -1, -1}, {netN(), of(0, 50000), one(60000), 1, []bool{false, false}, 9, api.Sure, -1, -1}, {netN(), one(0), one(50000), 1, []bool{true, false}, 9, api.Never, 1, 0},
		{netN(), low, high, 0, []bool{false, true}, 9, api.Sure, -1, -1}, {netN(), low, high, 0, []bool{false, false}, 9, api.Never, 1, 0}, {netN(), low, high, 0, []bool{true, true}, 9, api.Never, 0, 0}, {netN(), low, high, 0, []bool{true, false}, 0, api.Never, 0, 0},
		// At -2000 the plate is at 100000, which is high; at 100000 it is at 50000, which is not.
		{netN(), one(-2000), one(100000), 1, []bool{true, true}, 9, api.Never, 1, 0}, {netN(), of(-2000, 50000), of(60000, 100000), 1, []bool{false, false}, 9, api.Never, 0, 0},
		// Either input is enough for a low plate, bit 0 of the table's numbers is input 0.
		{nor(), of(0, 20000), of(90000, 100000), 2, []bool{true, false, false, false}, 9, api.Sure, -1, -1}, {nor(), of(0, 20000), of(90000, 100000), 2, []bool{true, true, false, false}, 9, api.Never, 1, 0}, {nor(), of(0, 20000), of(90000, 100000), 2, []bool{true, false, true, false}, 9, api.Never, 2, 0}, {nor(), of(0, 20000), of(90000, 100000), 2, []bool{true, false, false, true}, 9, api.Never, 3, 0}, {nor(), of(0, 20000), of(90000, 100000), 2, []bool{true, false, false, false}, 0, api.Unsure, -1, -1},
		{nor(), of(0, 20000), of(90000, 100000), 0, []bool{false, true, false, true}, 9, api.Sure, -1, -1}, {nor(), of(0, 20000), of(90000, 100000), 1, []bool{false, false, true, true}, 9, api.Sure, -1, -1}, {nor(), of(0, 20000), of(90000, 100000), 1, []bool{false, true, false, true}, 9, api.Never, 1, 0},
		// Without inputs there is one number.
		{netOf(0, stage()), of(0, 50000), of(50001, 100000), 0, []bool{false}, 9, api.Sure, -1, -1}, {netOf(0, stage()), of(0, 50000), of(50001, 100000), 0, []bool{true}, 9, api.Never, 0, 0}, {netOf(0, stage()), of(0, 50000), of(50000, 100000), 0, []bool{true}, 9, api.Sure, -1, -1},
		{netOf(4, stage()), of(-1000000, 0), of(1, 1000000), 4, slices.Repeat([]bool{true}, 16), 9, api.Sure, -1, -1}, {netOf(4, stage()), of(-1000000, 0), of(1, 1000000), 4, append(slices.Repeat([]bool{true}, 15), false), 9, api.Never, 15, 0}, {netOf(4, stage()), of(-1000000, 0), of(1, 1000000), 3, append(make([]bool, 8), slices.Repeat([]bool{true}, 8)...), 9, api.Sure, -1, -1},
	} {
		if v, number, corner, e := Gate(c.n, c.low, c.high, c.node, c.table, c.sweeps); v != c.verdict || number != c.number || corner != c.corner || e != api.OK {
			t.Error(i, v, number, corner, e)
		}
	}
}

// nor is a net whose plate is high (at 100000) if both inputs are low (at 20000 or less), and low if one of them is high (at 90000 or more): a twentieth of both, less 4500, is at most -2500, or at least 0.
func nor() api.Net {
	n := netOf(2, stage(tap(0, 1, 20), tap(1, 1, 20)))
	n.Stages[0].Load, n.Stages[0].Bias = one(400000), one(-4500)
	return n
}

// P9.5: the errors of Gate, and the first one of two.
func TestGateErrors(t *testing.T) {
	type call struct {
		n            api.Net
		low, high    api.Range
		node, sweeps int
		table        []bool
	}
	right := func() call { return call{netN(), none, none, 1, 30, []bool{true, false}} }
	check := func(c call) api.Errno {
		v, number, corner, e := Gate(c.n, c.low, c.high, c.node, c.table, c.sweeps)
		if e != api.OK && (v != 0 || number != 0 || corner != 0) {
			t.Error(v, number, corner, e)
		}
		return e
	}
	inOrder(t, right, []fault[call]{
		{func(c *call) { c.n.Stages[0].Tube = 9 }, api.ErrRange}, {func(c *call) { c.low.Lo = 1 << 40 }, api.ErrOrder}, {func(c *call) { c.high.Lo = 1 << 50 }, api.ErrOrder}, {func(c *call) { c.low.Hi = 1000001 }, api.ErrRange}, {func(c *call) { c.high.Hi = 1000001 }, api.ErrRange}, {func(c *call) { c.node = 99 }, api.ErrRange},
		{func(c *call) { c.table = append(c.table, true) }, api.ErrForm}, {func(c *call) { c.sweeps = 31 }, api.ErrRange}, {func(c *call) { c.n.Tubes = slices.Repeat(c.n.Tubes, 4); c.n.Stages = slices.Repeat(c.n.Stages, 2) }, api.ErrFull},
	}, check)
	for i, c := range []struct {
		change func(c *call)
		e      api.Errno
	}{
		{func(c *call) { c.low, c.high = of(-1000000, 1000000), of(-1000000, 1000000) }, api.OK}, {func(c *call) { c.low = of(-1000001, 0) }, api.ErrRange}, {func(c *call) { c.high = of(-1000001, 0) }, api.ErrRange}, {func(c *call) { c.low, c.high = of(-1000001, 0), of(1, 0) }, api.ErrOrder}, {func(c *call) { c.low = of(0, -1) }, api.ErrOrder},
		{func(c *call) { c.node = 0 }, api.OK}, {func(c *call) { c.node = -1 }, api.ErrRange}, {func(c *call) { c.table = nil }, api.ErrForm}, {func(c *call) { c.table = c.table[:1] }, api.ErrForm}, {func(c *call) { c.table = make([]bool, 4) }, api.ErrForm}, {func(c *call) { c.sweeps = -1 }, api.ErrRange}, {func(c *call) { c.sweeps = 0 }, api.OK},
	} {
		if e := check(changed(right(), c.change)); e != c.e {
			t.Error(i, e)
		}
	}
}

// P9.5: Gate is what Judge has for its cases.
func TestGatePlainly(t *testing.T) {
	for _, k := range kinds() {
		count := map[int]int{}
		nets(t, 32, 400, k, (*dice).smallSize, func(d *dice, n api.Net, inputs []api.Range) {
			node, sweeps := d.upTo(n.Inputs+len(n.Stages)), d.upTo(12)
			low, high := d.any(-k.grid, k.plate), d.any(-k.grid, k.plate)
			if d.upTo(2) == 0 {
				low, high = of(-k.grid, d.from(-k.grid, k.plate)), of(d.from(0, k.plate), k.plate)
			}
			var table []bool
			var cases []api.Case
			for x := range 1 << n.Inputs {
				table = append(table, d.upTo(2) == 0)
				c := api.Case{Windows: []api.Window{{Node: node, Range: low}}}
				if table[x] {
					c.Windows[0].Range = high
				}
				for range n.Inputs {
					c.Inputs = append(c.Inputs, []api.Range{low, high}[x%2])
					x /= 2
				}
				cases = append(cases, c)
			}
			v, number, corner, e := Gate(n, low, high, node, table, sweeps)
			want, first, at, e2 := Judge(n, cases, sweeps)
			if v != want || number != first || corner != at || e != api.OK || e2 != api.OK {
				t.Error(low, high, node, table, sweeps, v, number, corner, e)
			}
			count[v]++
		})
		if count[api.Sure] < 10 || count[api.Never] < 50 || count[api.Unsure] < 10 {
			t.Error(k, count)
		}
	}
}
