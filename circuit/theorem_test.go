package circuit

import (
	"slices"
	"testing"

	"thermion/api"
	"thermion/curve"
	"thermion/gauge"
)

// P9.7 (within), P0: with families inside others, and parts and inputs within others, the voltages lie within what they were, sweep by sweep.
func TestWithin(t *testing.T) {
	for _, k := range kinds() {
		narrower := 0
		nets(t, 60, 400, k, (*dice).size, func(d *dice, n api.Net, inputs []api.Range) {
			in, l := d.netIn(n), d.rangesIn(inputs)
			for i, f := range in.Tubes {
				if !curve.Inside(n.Tubes[i], f) {
					t.Error(f)
				}
			}
			for sweeps := range 31 {
				wide, x := rests(t, n, inputs, sweeps), rests(t, in, l, sweeps)
				if !areIn(x.Nodes, wide.Nodes) {
					t.Error(in, l, sweeps, x, wide)
				}
				if wide.Still && x.Still {
					if !slices.Equal(x.Nodes[n.Inputs:], wide.Nodes[n.Inputs:]) {
						narrower++
					}
					break
				}
			}
		})
		if narrower < 100 {
			t.Error(k, narrower)
		}
	}
}

// up returns a range neither end of which is less than that of r, of numbers up to most.
func (d *dice) up(r api.Range, most int) api.Range {
	lo := d.from(r.Lo, most)
	if d.upTo(2) == 0 {
		lo = min(r.Lo+d.upTo(3), most)
	}
	hi := max(lo, r.Hi)
	return of(lo, []int{hi, min(hi+1, most), d.from(hi, most)}[d.upTo(3)])
}

// P9.8: with a greater grid neither end of a plate is greater; with a greater supply neither is less; with a greater load neither is greater.
func TestMonotone(t *testing.T) {
	plate := func(n api.Net, i int, grid api.Range) api.Range {
		r, e := Plate(n, i, grid)
		if e != api.OK {
			t.Fatal(n, i, grid, e)
		}
		return r
	}
	isUp := func(a, b api.Range) bool { return a.Lo <= b.Lo && a.Hi <= b.Hi }
	for _, k := range kinds() {
		other := 0
		nets(t, 61, 1000, k, (*dice).size, func(d *dice, n api.Net, inputs []api.Range) {
			i := d.upTo(len(n.Stages))
			s := n.Stages[i]
			grid := d.any(-k.grid, k.grid/4)
			r := plate(n, i, grid)
			a := plate(n, i, d.up(grid, k.grid))
			b := plate(changed(copyOf(n), func(x *api.Net) { x.Stages[i].Supply = d.up(s.Supply, api.MaxVolt) }), i, grid)
			c := plate(changed(copyOf(n), func(x *api.Net) { x.Stages[i].Load = d.up(s.Load, api.MaxLoad) }), i, grid)
			if !isUp(a, r) || !isUp(r, b) || !isUp(c, r) {
				t.Error(i, grid, r, a, b, c)
			}
			if a != r && b != r && c != r {
				other++
			}
		})
		if other < 100 {
			t.Error(k, other)
		}
	}
}

// P9.9: more sweeps never make a Lo less or a Hi greater; no range is empty (rests looks at that); once a sweep changed nothing, none does.
func TestMoreSweeps(t *testing.T) {
	for _, k := range kinds() {
		later := 0
		nets(t, 62, 150, k, (*dice).size, func(d *dice, n api.Net, inputs []api.Range) {
			was := rests(t, n, inputs, 0)
			for sweeps := 1; sweeps <= 30; sweeps++ {
				x := rests(t, n, inputs, sweeps)
				same := slices.Equal(x.Nodes, was.Nodes)
				if !areIn(x.Nodes, was.Nodes) || x.Still != same || was.Still && x.Sweeps != was.Sweeps || !was.Still && x.Sweeps != sweeps {
					t.Error(sweeps, was, x)
				}
				if sweeps > 1 && !same {
					later++
				}
				was = x
			}
		})
		if later < 20 {
			t.Error(k, later)
		}
	}
}

// P9.10 (rest): a box that a net keeps has numbers in common, plate by plate, with the voltages after coming to rest.
func TestKeptBoxes(t *testing.T) {
	for _, k := range kinds() {
		kept, other := 0, 0
		nets(t, 63, 1000, k, (*dice).size, func(d *dice, n api.Net, inputs []api.Range) {
			box := d.box(t, n, inputs)
			if is, e := Keeps(n, inputs, box); !is || e != api.OK {
				return
			}
			kept++
			plates := rests(t, n, inputs, d.upTo(31)).Nodes[n.Inputs:]
			for i, r := range plates {
				if max(r.Lo, box[i].Lo) > min(r.Hi, box[i].Hi) {
					t.Error(box, plates)
				}
			}
			if !areIn(plates, box) {
				other++
			}
		})
		if kept < 300 || other < 20 {
			t.Error(k, kept, other)
		}
	}
}

// P9.3, P9.9: what a net comes to, after whatever sweeps, is a box that it keeps.
func TestRestIsKept(t *testing.T) {
	for _, k := range kinds() {
		nets(t, 64, 400, k, (*dice).size, func(d *dice, n api.Net, inputs []api.Range) {
			x := rests(t, n, inputs, d.upTo(9))
			if is, e := Keeps(n, inputs, x.Nodes[n.Inputs:]); !is || e != api.OK {
				t.Error(x, is, e)
			}
		})
	}
}

// P9.11: a net whose taps lead only from inputs and from earlier stages is still after at most two sweeps.
func TestAhead(t *testing.T) {
	for _, k := range kinds() {
		ahead := func(d *dice) size { return changed(d.size(), func(s *size) { s.ahead = true }) }
		nets(t, 65, 600, k, ahead, func(d *dice, n api.Net, inputs []api.Range) {
			for _, sweeps := range []int{2, 3, 30} {
				if x := rests(t, n, inputs, sweeps); !x.Still || x.Sweeps > 2 {
					t.Error(sweeps, x)
				}
			}
		})
	}
}

// P9.12 (corners), P0: at each corner the voltages lie within those of the net; with the verdict Sure no corner fails, with Never the one that is said does.
func TestCorners(t *testing.T) {
	for _, k := range kinds() {
		count := map[int]int{}
		nets(t, 66, 100, k, (*dice).smallSize, func(d *dice, n api.Net, inputs []api.Range) {
			sweeps := d.upTo(31)
			cases := append(d.cases(t, k, n, sweeps, 3), api.Case{Inputs: inputs})
			v, number, corner, e := Judge(n, cases, sweeps)
			if count[v]++; e != api.OK {
				t.Error(cases, e)
			}
			for i, c := range cases {
				wide := rests(t, n, c.Inputs, sweeps)
				for at := range 1 << bitsOf(n) {
					if d.upTo(4) > 0 && at != corner {
						continue
					}
					m, l, _ := Corner(n, c.Inputs, at)
					if x := rests(t, m, l, sweeps); !areIn(x.Nodes, wide.Nodes) {
						t.Error(i, at, x, wide)
					}
					fails := slices.Contains(verdicts(t, m, l, c.Windows, sweeps), api.Never)
					if v != api.Never && fails || v == api.Never && i == number && at == corner && !fails {
						t.Error(cases, v, number, corner, i, at)
					}
				}
			}
		})
		if count[api.Sure] < 20 || count[api.Never] < 20 {
			t.Error(k, count)
		}
	}
}

// twins returns two stages each of which hangs on the other one's plate, with other parts than those of twins, and with tolerances.
func (d *dice) twins() api.Net {
	n := twins()
	part := []int{0, 1000, 20000}[d.upTo(3)]
	for i := range n.Stages {
		s := &n.Stages[i]
		s.Supply, s.Load, s.Bias = d.near(80000, 120000, part), d.near(100000, 300000, 2*part), d.near(-8000, -4000, part/20)
		s.Taps[0].Den = d.from(7, 13)
	}
	if d.upTo(2) == 0 {
		n.Tubes[0].High[1][1] += d.upTo(200)
	}
	return n
}

// P9.13 (memory): if a net remembers two boxes, the voltages after coming to rest have numbers of both.
func TestRemembered(t *testing.T) {
	d := dice(67)
	first, second := 0, 0
	for range 1000 {
		n := d.twins()
		a := keptAround(t, n, nil, []api.Range{none, one(n.Stages[1].Supply.Hi)})
		b := keptAround(t, n, nil, []api.Range{one(n.Stages[0].Supply.Hi), none})
		p, e := Memory(n, nil, a, b)
		if e != api.OK {
			t.Fatal(n, a, b, e)
		}
		if p == -1 {
			continue
		}
		if first++; p == 1 {
			second++
		}
		if a[p].Hi >= b[p].Lo && b[p].Hi >= a[p].Lo {
			t.Fatal(n, a, b, p)
		}
		for i, r := range rests(t, n, nil, d.upTo(31)).Nodes {
			for _, box := range [][]api.Range{a, b} {
				if max(r.Lo, box[i].Lo) > min(r.Hi, box[i].Hi) {
					t.Fatal(n, a, b, i, r)
				}
			}
		}
	}
	if first < 200 {
		t.Error(first, second)
	}
}

// gate returns a net with two inputs that may be a gate, two ranges that have no number in common, and a node.
func (d *dice) gate() (n api.Net, low, high api.Range, node int) {
	n = nor()
	part := []int{0, 1000, 40000}[d.upTo(3)]
	n.Stages[0].Supply, n.Stages[0].Load, n.Stages[0].Bias = d.near(95000, 110000, part/4), d.near(400000, 700000, part), d.near(-4800, -4000, part/100)
	n.Tubes[0].High[1][1] += d.upTo(100)
	low, high = of(0, d.from(15000, 25000)), of(d.from(75000, 95000), 110000)
	if d.upTo(4) == 0 {
		low, high = high, low
	}
	return n, low, high, []int{0, 1, 2, 2, 2, 2}[d.upTo(6)]
}

// P9.14: if both ranges of a gate have no number in common, a gate that is Sure is not Sure with another table.
func TestOneTable(t *testing.T) {
	d := dice(68)
	sure := map[int]int{}
	for range 400 {
		n, low, high, node := d.gate()
		tables := 0
		for bits := range 16 {
			table := []bool{bits&1 > 0, bits&2 > 0, bits&4 > 0, bits&8 > 0}
			v, _, _, e := Gate(n, low, high, node, table, 5)
			if e != api.OK {
				t.Fatal(n, low, high, node, e)
			}
			if v == api.Sure {
				tables++
			}
		}
		if sure[min(node, 2)] += tables; tables > 1 || node < 2 && tables != 1 {
			t.Fatal(n, low, high, node, tables)
		}
	}
	if sure[0] < 50 || sure[1] < 50 || sure[2] < 50 || sure[2] > 300 {
		t.Error(sure)
	}
}

// P9.15: with wider windows a verdict that is Sure stays so. P0: it does so, too, with a net and with inputs that lie within what they were.
func TestSureStays(t *testing.T) {
	for _, k := range kinds() {
		sure := 0
		nets(t, 69, 500, k, (*dice).smallSize, func(d *dice, n api.Net, inputs []api.Range) {
			cases := d.cases(t, k, n, 5, 3)
			v, _, _, e := Judge(n, cases, 5)
			if e != api.OK || v != api.Sure || len(cases) == 0 {
				return
			}
			sure++
			in := d.netIn(n)
			for i, c := range cases {
				cases[i].Inputs = d.rangesIn(c.Inputs)
			}
			if v, number, corner, e := Judge(in, cases, 5); v != api.Sure || e != api.OK {
				t.Error(in, cases, v, number, corner, e)
			}
			for _, c := range cases {
				for i, w := range c.Windows {
					by := []int{0, 1, 1000, 1 << 40}[d.upTo(4)]
					c.Windows[i].Range = of(w.Range.Lo-d.upTo(by+1), w.Range.Hi+d.upTo(by+1))
				}
			}
			if v, number, corner, e := Judge(n, cases, 5); v != api.Sure || e != api.OK {
				t.Error(cases, v, number, corner, e)
			}
		})
		if sure < 50 {
			t.Error(k, sure)
		}
	}
}

// P9.17: the swing from b to a is minus the swing from a to b.
func TestSwingBack(t *testing.T) {
	for _, k := range kinds() {
		nets(t, 70, 400, k, (*dice).size, func(d *dice, n api.Net, a []api.Range) {
			b := d.inputs(k, n)
			node, sweeps := d.upTo(n.Inputs+len(n.Stages)), d.upTo(31)
			r, e := Swing(n, a, b, node, sweeps)
			back, e2 := Swing(n, b, a, node, sweeps)
			if r.Lo > r.Hi || back != of(-r.Hi, -r.Lo) || e != api.OK || e2 != api.OK {
				t.Error(b, node, sweeps, r, back, e, e2)
			}
		})
	}
}

// law returns a law of a tube of the usual kind.
func (d *dice) law() api.Law {
	return api.Law{Perv: d.near(20000, 60000, 20000), Gain: d.near(5000, 30000, 9000), Shift: d.near(-900, 900, 300), Full: d.near(1000, 100000, 50000), Part: d.near(600000, 1000000, 300000)}
}

// lawIn returns a law within l.
func (d *dice) lawIn(l api.Law) api.Law {
	return api.Law{Perv: d.in(l.Perv), Gain: d.in(l.Gain), Shift: d.in(l.Shift), Full: d.in(l.Full), Part: d.in(l.Part)}
}

// alone returns the law of numbers alone within l.
func (d *dice) alone(l api.Law) api.Law {
	return api.Law{Perv: one(d.of(l.Perv)), Gain: one(d.of(l.Gain)), Shift: one(d.of(l.Shift)), Full: one(d.of(l.Full)), Part: one(d.of(l.Part))}
}

// withLaw returns a net with the family of a law, at the lines of its first family, in its place.
func withLaw(t *testing.T, n api.Net, l api.Law) api.Net {
	t.Helper()
	f, e := curve.Of(l, n.Tubes[0].Grid, n.Tubes[0].Plate)
	if e != api.OK {
		t.Fatal(l, e)
	}
	n = copyOf(n)
	n.Tubes[0] = f
	return n
}

// T5 (loads): a circuit with a narrower law comes to rest within what it does with a wider one. (TestPlateEnds has its second half.)
func TestNarrowerLaws(t *testing.T) {
	narrower := 0
	nets(t, 71, 1000, usualKind, (*dice).size, func(d *dice, n api.Net, inputs []api.Range) {
		l := d.law()
		in := d.lawIn(l)
		sweeps := d.upTo(31)
		wide, x := rests(t, withLaw(t, n, l), inputs, sweeps), rests(t, withLaw(t, n, in), inputs, sweeps)
		if !areIn(x.Nodes, wide.Nodes) {
			t.Error(l, in, sweeps, x, wide)
		}
		if !slices.Equal(x.Nodes, wide.Nodes) {
			narrower++
		}
	})
	if narrower < 300 {
		t.Error(narrower)
	}
}

// shown returns numbers that a meter with a step, which is known to be right but for a few thousandths, may show of a value.
func (d *dice) shown(x, most int) []api.Shown {
	var l []api.Shown
	for range d.upTo(most + 1) {
		seen := x + d.from(-x/1000, x/1000)
		l = append(l, api.Shown{Meter: 0, Number: floor(seen+d.upTo(10), 10) * 10})
	}
	return l
}

// T6 (tubes): a tube that was measured lies within the law that was narrowed by what meters showed, and a circuit with it comes to rest within what it does with that law.
func TestMeasuredTubes(t *testing.T) {
	bench := []api.Meter{{Gain: of(998000, 1002000), Off: of(-5, 5), Step: 10, By: -1, Due: 100}}
	narrower := 0
	nets(t, 72, 1000, usualKind, (*dice).size, func(d *dice, n api.Net, inputs []api.Range) {
		l := d.law()
		tube := d.alone(l)
		var reads []api.Reading
		for range d.upTo(6) {
			g, p := d.from(-3000, 1000), d.from(0, 300000)
			r, _ := curve.Current(tube, g, p)
			if said, e := gauge.Together(bench, d.shown(d.of(r), 3)); e == api.OK {
				reads = append(reads, api.Reading{Grid: g, Plate: p, Current: said})
			}
		}
		narrow, e := curve.Narrow(l, reads)
		if e != api.OK || !lawIsIn(tube, narrow) {
			t.Error(l, tube, reads, narrow, e)
		}
		wide, middle, x := rests(t, withLaw(t, n, l), inputs, 30), rests(t, withLaw(t, n, narrow), inputs, 30), rests(t, withLaw(t, n, tube), inputs, 30)
		if !areIn(x.Nodes, middle.Nodes) || !areIn(middle.Nodes, wide.Nodes) {
			t.Error(l, tube, reads, narrow, x, middle, wide)
		}
		if !slices.Equal(middle.Nodes, wide.Nodes) {
			narrower++
		}
	})
	if narrower < 200 {
		t.Error(narrower)
	}
}

// lawIsIn reports whether a law lies within another one.
func lawIsIn(a, b api.Law) bool {
	return areIn([]api.Range{a.Perv, a.Gain, a.Shift, a.Full, a.Part}, []api.Range{b.Perv, b.Gain, b.Shift, b.Full, b.Part})
}
