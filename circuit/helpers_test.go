package circuit

import (
	"slices"
	"testing"

	"thermion/api"
	"thermion/curve"
)

// dice makes numbers for tests that are the same in each run.
type dice uint64

// upTo returns a number from 0 to n - 1.
func (d *dice) upTo(n int) int {
	*d += 0x9e3779b97f4a7c15
	x := uint64(*d)
	x = (x ^ x>>30) * 0xbf58476d1ce4e5b9
	x = (x ^ x>>27) * 0x94d049bb133111eb
	return int((x ^ x>>31) % uint64(n))
}

// from returns a number from least to most.
func (d *dice) from(least, most int) int { return least + d.upTo(most-least+1) }

// any returns a range of numbers from least to most, at times of one number.
func (d *dice) any(least, most int) api.Range {
	a, b := d.from(least, most), d.from(least, most)
	if d.upTo(4) == 0 {
		b = a
	}
	return of(min(a, b), max(a, b))
}

// near returns a range of at most wide + 1 numbers from least to most.
func (d *dice) near(least, most, wide int) api.Range {
	a := d.from(least, most)
	return of(a, min(most, a+d.upTo(wide+1)))
}

// in returns a range within r, at times r itself.
func (d *dice) in(r api.Range) api.Range {
	if d.upTo(4) == 0 {
		return r
	}
	return d.any(r.Lo, r.Hi)
}

// of a range returns one of its numbers, often its first or last one.
func (d *dice) of(r api.Range) int { return []int{r.Lo, r.Hi, d.from(r.Lo, r.Hi)}[d.upTo(3)] }

// kind is what nets are like: how great the voltages of plates and of grids are, currents, loads, and both numbers of taps.
type kind struct{ plate, grid, current, load, num, den int }

// The kinds of nets: in small ones all voltages can be tried one by one, great ones have whatever is valid.
var (
	smallKind = kind{plate: 60, grid: 30, current: 40, load: 3000, num: 2, den: 3}
	usualKind = kind{plate: 300000, grid: 20000, current: 3000, load: 200000, num: 3, den: 40}
	greatKind = kind{plate: api.MaxVolt, grid: api.MaxVolt, current: api.MaxCurrent, load: api.MaxLoad, num: 1000, den: 1000}
)

// kinds are all of them.
func kinds() []kind { return []kind{smallKind, usualKind, greatKind} }

// lines returns ascending lines from least to most.
func (d *dice) lines(least, most int) []int {
	count := d.from(1, 4)
	step := (most - least) / count
	var l []int
	for i := range count {
		l = append(l, least+i*step+d.upTo(step))
	}
	return l
}

// family returns a valid family, often a tube.
func (d *dice) family(k kind) api.Family {
	f := api.Family{Grid: d.lines(-k.grid, k.grid/4), Plate: d.lines(0, k.plate)}
	step := 1 + k.current/(len(f.Grid)+len(f.Plate))
	spread := []int{0, 1 + step/20, step}[d.upTo(3)]
	for i := range f.Grid {
		f.Low, f.High = append(f.Low, nil), append(f.High, nil)
		for j := range f.Plate {
			low := min(before(f.Low, i, j)+d.upTo(step+1), api.MaxCurrent)
			high := min(max(low, before(f.High, i, j))+d.upTo(spread+1), api.MaxCurrent)
			f.Low[i], f.High[i] = append(f.Low[i], low), append(f.High[i], high)
		}
	}
	if spread == 0 {
		f.High = curve.Copy(f).Low
	}
	return f
}

// before returns the greatest number that stands before a place of a table that rises (0: there is none).
func before(t [][]int, i, k int) int {
	n := 0
	if i > 0 {
		n = t[i-1][k]
	}
	if k > 0 {
		n = max(n, t[i][k-1])
	}
	return n
}

// familyIn returns a family of the same lines inside f, at times f itself or a tube.
func (d *dice) familyIn(f api.Family) api.Family {
	x := curve.Copy(f)
	which := d.upTo(3)
	if which == 0 {
		return x
	}
	for i := range f.Grid {
		for k := range f.Plate {
			x.Low[i][k] = d.from(max(f.Low[i][k], before(x.Low, i, k)), f.High[i][k])
			x.High[i][k] = x.Low[i][k]
		}
	}
	if which == 1 {
		return x
	}
	for i := range f.Grid {
		for k := range f.Plate {
			x.High[i][k] = d.from(max(x.Low[i][k], before(x.High, i, k)), f.High[i][k])
		}
	}
	return x
}

// size is how many families, stages and inputs a net has, and whether its taps lead only from inputs and from earlier stages.
type size struct {
	tubes, stages, inputs int
	ahead                 bool
}

// size returns how great a net may be.
func (d *dice) size() size {
	return size{d.from(1, 4), d.from(1, 6), d.upTo(5), d.upTo(3) == 0}
}

// smallSize returns how great a net with at most MaxBits bits may be.
func (d *dice) smallSize() size {
	s := []size{{1, 1, 4, false}, {2, 1, 3, false}, {3, 1, 2, false}, {4, 1, 1, false}, {1, 2, 1, false}, {2, 2, 0, false}}[d.upTo(6)]
	s.tubes, s.inputs, s.ahead = d.from(1, s.tubes), d.upTo(s.inputs+1), d.upTo(3) == 0
	return s
}

// net returns a valid net of a size.
func (d *dice) net(k kind, s size) api.Net {
	n := api.Net{Inputs: s.inputs}
	for range s.tubes {
		n.Tubes = append(n.Tubes, d.family(k))
	}
	part := []int{1 << 30, 50, 4}[d.upTo(3)] // tolerances: none, small or great ones
	for i := range s.stages {
		nodes := s.inputs + s.stages
		if s.ahead {
			nodes = s.inputs + i
		}
		load := []int{k.load, k.load, 1 + k.load/500}[d.upTo(3)]
		n.Stages = append(n.Stages, api.Stage{
			Tube: d.upTo(s.tubes), Taps: d.taps(k, nodes),
			Supply: d.near(d.upTo(2)*k.plate/3, k.plate, k.plate/part), Load: d.near(1+d.upTo(2)*load/10, load, load/part), Bias: d.near(-k.grid, k.grid/4, k.grid/part),
		})
	}
	return n
}

// taps returns taps from some of the first nodes.
func (d *dice) taps(k kind, nodes int) []api.Tap {
	var l []api.Tap
	for node := range nodes {
		if len(l) < 4 && d.upTo(2) == 0 {
			l = append(l, api.Tap{Node: node, Num: d.upTo(k.num + 1), Den: d.from(1, k.den)})
		}
	}
	return l
}

// inputs returns voltages of the inputs of a net.
func (d *dice) inputs(k kind, n api.Net) []api.Range {
	var l []api.Range
	for range n.Inputs {
		l = append(l, []api.Range{d.near(-k.grid, k.grid/4, 0), d.near(-k.grid, k.grid, k.grid/10), d.any(-k.grid, k.grid)}[d.upTo(3)])
	}
	return l
}

// nets calls f with valid nets of a kind, and with inputs for them.
func nets(t *testing.T, seed dice, count int, k kind, next func(d *dice) size, f func(d *dice, n api.Net, inputs []api.Range)) {
	t.Helper()
	d := &seed
	for i := range count {
		n := d.net(k, next(d))
		if e := Check(n); e != api.OK {
			t.Fatal(n, e)
		}
		inputs := d.inputs(k, n)
		f(d, n, inputs)
		if t.Failed() {
			t.Fatal("case ", i, ": ", n, inputs)
		}
	}
}

// netIn returns a net each part of which lies within that of another one.
func (d *dice) netIn(n api.Net) api.Net {
	x := copyOf(n)
	for i, f := range x.Tubes {
		x.Tubes[i] = d.familyIn(f)
	}
	for i, s := range x.Stages {
		x.Stages[i].Supply, x.Stages[i].Load, x.Stages[i].Bias = d.in(s.Supply), d.in(s.Load), d.in(s.Bias)
	}
	return x
}

// rangesIn returns ranges each of which lies within another one.
func (d *dice) rangesIn(l []api.Range) []api.Range {
	var x []api.Range
	for _, r := range l {
		x = append(x, d.in(r))
	}
	return x
}

// copyOf returns an equal net in memory of its own.
func copyOf(n api.Net) api.Net {
	x := api.Net{Inputs: n.Inputs}
	for _, f := range n.Tubes {
		x.Tubes = append(x.Tubes, curve.Copy(f))
	}
	for _, s := range n.Stages {
		s.Taps = append([]api.Tap(nil), s.Taps...)
		x.Stages = append(x.Stages, s)
	}
	return x
}

// floor and ceil divide by a number above 0, rounded towards one side.
func floor(a, b int) int {
	q := a / b
	for q*b > a {
		q--
	}
	return q
}

func ceil(a, b int) int { return -floor(-a, b) }

// plainGrid follows the chapter.
func plainGrid(n api.Net, stage int, nodes []api.Range) api.Range {
	s := n.Stages[stage]
	lo, hi := s.Bias.Lo, s.Bias.Hi
	for _, t := range s.Taps {
		lo += floor(t.Num*nodes[t.Node].Lo, t.Den)
		hi += ceil(t.Num*nodes[t.Node].Hi, t.Den)
	}
	return of(min(1000000, max(-1000000, lo)), min(1000000, max(-1000000, hi)))
}

// together returns what a plate at a voltage and its load have together, with a load and a current of it.
func together(v, load, current int) int { return 1000*v + load*current }

// isLow reports whether a voltage is low enough for the Lo of a plate.
func isLow(t *testing.T, n api.Net, stage, grid, v int) bool {
	t.Helper()
	s := n.Stages[stage]
	return together(v, s.Load.Hi, runs(t, n.Tubes[s.Tube], grid, v).Hi) <= 1000*s.Supply.Lo
}

// isHigh reports whether a voltage is high enough for the Hi of a plate.
func isHigh(t *testing.T, n api.Net, stage, grid, v int) bool {
	t.Helper()
	s := n.Stages[stage]
	return together(v, s.Load.Lo, runs(t, n.Tubes[s.Tube], grid, v).Lo) >= 1000*s.Supply.Hi
}

// plainPlate tries all voltages, one by one.
func plainPlate(t *testing.T, n api.Net, stage int, grid api.Range) api.Range {
	t.Helper()
	var r api.Range
	for v := range n.Stages[stage].Supply.Lo + 1 {
		if isLow(t, n, stage, grid.Hi, v) {
			r.Lo = v
		}
	}
	for !isHigh(t, n, stage, grid.Lo, r.Hi) {
		r.Hi++
	}
	return r
}

// plainSettle follows the chapter; what a plate is, plate says.
func plainSettle(n api.Net, inputs []api.Range, sweeps int, plate func(stage int, grid api.Range) api.Range) api.Settled {
	x := api.Settled{Nodes: append([]api.Range(nil), inputs...)}
	for _, s := range n.Stages {
		x.Nodes = append(x.Nodes, of(0, s.Supply.Hi))
	}
	for x.Sweeps < sweeps {
		was := slices.Clone(x.Nodes)
		for i := range n.Stages {
			r := plate(i, plainGrid(n, i, x.Nodes))
			p := &x.Nodes[n.Inputs+i]
			p.Lo, p.Hi = max(p.Lo, r.Lo), min(p.Hi, r.Hi)
		}
		x.Sweeps++
		if slices.Equal(was, x.Nodes) {
			x.Still = true
			break
		}
	}
	return x
}

// plainCorner makes each thing that has a bit one of its ends.
func plainCorner(n api.Net, inputs []api.Range, corner int) (api.Net, []api.Range) {
	n, inputs = copyOf(n), slices.Clone(inputs)
	var ends []*api.Range
	for i := range n.Stages {
		ends = append(ends, &n.Stages[i].Supply, &n.Stages[i].Load, &n.Stages[i].Bias)
	}
	for i := range inputs {
		ends = append(ends, &inputs[i])
	}
	for i, f := range n.Tubes {
		if corner%2 == 0 {
			n.Tubes[i].High = curve.Copy(f).Low
		} else {
			n.Tubes[i].Low = curve.Copy(f).High
		}
		corner /= 2
	}
	for _, r := range ends {
		*r = one([]int{r.Lo, r.Hi}[corner%2])
		corner /= 2
	}
	return n, inputs
}

// bitsOf returns how many bits the corners of a net have.
func bitsOf(n api.Net) int { return len(n.Tubes) + 3*len(n.Stages) + n.Inputs }

// plainVerdict counts the ends of a range that lie in a window, and the ends of the window that lie in the range.
func plainVerdict(r, window api.Range) int {
	in := func(n int, r api.Range) bool { return r.Lo <= n && n <= r.Hi }
	switch {
	case in(r.Lo, window) && in(r.Hi, window):
		return api.Sure
	case !in(r.Lo, window) && !in(r.Hi, window) && !in(window.Lo, r) && !in(window.Hi, r):
		return api.Never
	}
	return api.Unsure
}

// plainJudge asks each corner in each case.
func plainJudge(t *testing.T, n api.Net, cases []api.Case, sweeps int) (verdict, number, corner int) {
	t.Helper()
	for i, c := range cases {
		for k := range 1 << bitsOf(n) {
			if m, inputs := plainCorner(n, c.Inputs, k); slices.Contains(verdicts(t, m, inputs, c.Windows, sweeps), api.Never) {
				return api.Never, i, k
			}
		}
	}
	for _, c := range cases {
		for _, v := range verdicts(t, n, c.Inputs, c.Windows, sweeps) {
			if v != api.Sure {
				return api.Unsure, -1, -1
			}
		}
	}
	return api.Sure, -1, -1
}

// verdicts returns the verdicts on windows after coming to rest.
func verdicts(t *testing.T, n api.Net, inputs []api.Range, windows []api.Window, sweeps int) []int {
	t.Helper()
	x := rests(t, n, inputs, sweeps)
	var l []int
	for _, w := range windows {
		l = append(l, plainVerdict(x.Nodes[w.Node], w.Range))
	}
	return l
}

// of makes a range, one that of one number.
func of(lo, hi int) api.Range { return api.Range{Lo: lo, Hi: hi} }
func one(n int) api.Range     { return of(n, n) }

// none is the range that comes with errors.
var none api.Range

// familyF is the family of the chapter's examples: its current is the plate voltage / 100 at the grid voltage 0, and 0 at -2000.
func familyF() api.Family {
	return api.Family{Grid: []int{-2000, 0}, Plate: []int{0, 100000}, Low: [][]int{{0, 0}, {0, 1000}}, High: [][]int{{0, 0}, {0, 1000}}}
}

// netN is the net of the chapter's examples.
func netN() api.Net {
	return netOf(1, stage(tap(0, 1, 1)))
}

// stage makes a stage with a supply and a load of 100000, and taps.
func stage(taps ...api.Tap) api.Stage {
	return api.Stage{Supply: one(100000), Load: one(100000), Taps: taps}
}

// tap makes a tap.
func tap(node, num, den int) api.Tap { return api.Tap{Node: node, Num: num, Den: den} }

// netOf makes a net with the family F.
func netOf(inputs int, stages ...api.Stage) api.Net {
	return api.Net{Tubes: []api.Family{familyF()}, Inputs: inputs, Stages: stages}
}

// netX has two inputs and three stages of two families; the second stage hangs on both inputs and on the third one's plate.
func netX() api.Net {
	n := netOf(2, stage(tap(0, 1, 1)), stage(tap(0, 1, 2), tap(1, 3, 2), tap(4, 1, 50)), stage(tap(2, 1, 40)))
	n.Tubes = append(n.Tubes, api.Family{Grid: []int{-1000}, Plate: []int{0, 50000}, Low: [][]int{{0, 400}}, High: [][]int{{0, 500}}})
	n.Stages[1].Tube = 1
	n.Stages[0].Supply, n.Stages[1].Load, n.Stages[2].Bias = of(90000, 100000), of(100000, 110000), of(-3000, -2900)
	return n
}

// twins is two stages, each of which hangs on the other one's plate: a tenth of it, less 6000. One of them can draw so much that the other one draws nothing.
func twins() api.Net {
	n := netOf(0, stage(tap(1, 1, 10)), stage(tap(0, 1, 10)))
	for i := range n.Stages {
		n.Stages[i].Load, n.Stages[i].Bias = one(200000), one(-6000)
	}
	return n
}

// changed returns a thing that was changed.
func changed[T any](x T, change func(x *T)) T {
	change(&x)
	return x
}

// fault is a change that makes a thing wrong, and the error that it has then.
type fault[T any] struct {
	change func(x *T)
	want   api.Errno
}

// inOrder demands that each fault of a right thing is found, and the first one of two.
func inOrder[T any](t *testing.T, right func() T, faults []fault[T], check func(x T) api.Errno) {
	t.Helper()
	if e := check(right()); e != api.OK {
		t.Error(e)
	}
	for i, a := range faults {
		if e := check(changed(right(), a.change)); e != a.want {
			t.Error(i, e)
		}
		for k, b := range faults[i+1:] {
			if e := check(changed(changed(right(), b.change), a.change)); e != a.want {
				t.Error(i, i+1+k, e)
			}
		}
	}
}

// runs returns the result of curve.At, which must not be an error.
func runs(t *testing.T, f api.Family, grid, plate int) api.Range {
	t.Helper()
	r, e := curve.At(f, grid, plate)
	if e != api.OK {
		t.Fatal(f, grid, plate, e)
	}
	return r
}

// rests returns the result of Settle, which must not be an error, and whose ranges must not be empty.
func rests(t *testing.T, n api.Net, inputs []api.Range, sweeps int) api.Settled {
	t.Helper()
	x, e := Settle(n, inputs, sweeps)
	if e != api.OK || len(x.Nodes) != n.Inputs+len(n.Stages) || x.Sweeps > sweeps || !slices.Equal(x.Nodes[:n.Inputs], inputs) {
		t.Fatal(n, inputs, x, e)
	}
	for i, r := range x.Nodes[n.Inputs:] {
		if r.Lo > r.Hi || !within(r.Lo, 0, n.Stages[i].Supply.Hi) || !within(r.Hi, 0, n.Stages[i].Supply.Hi) {
			t.Fatal(n, inputs, i, r)
		}
	}
	return x
}

// areIn reports whether ranges lie within others.
func areIn(l, in []api.Range) bool {
	return slices.EqualFunc(l, in, func(a, b api.Range) bool { return b.Lo <= a.Lo && a.Hi <= b.Hi })
}
