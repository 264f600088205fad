package circuit

import (
	"math"
	"slices"
	"strings"
	"testing"

	"thermion/api"
	"thermion/curve"
)

// odd are numbers that arguments may have, too.
var odd = []int{math.MinInt, math.MinInt + 15, -1000001, -1000000, -2000, -17, -1, 0, 1, 2, 3, 5, 30, 31, 50000, 100000, 1000000, 1000001, 1 << 42, math.MaxInt - 15, math.MaxInt}

// oddNets are nets that are hardly any.
func oddNets() []api.Net {
	l := []api.Net{{}, netN(), netX(), twins(), ring(), great(), {Tubes: make([]api.Family, 5000)}, {Tubes: make([]api.Family, 1)}, {Tubes: []api.Family{familyF()}, Stages: make([]api.Stage, 5000)}, netOf(1, api.Stage{Load: one(1), Taps: make([]api.Tap, 5000)})}
	for i, n := range odd {
		m := odd[(3*i+5)%len(odd)]
		for _, r := range []api.Range{one(n), of(n, m), of(m, n), of(0, n), of(n, math.MaxInt)} {
			for _, change := range []func(s *api.Stage){func(s *api.Stage) { s.Supply = r }, func(s *api.Stage) { s.Load = r }, func(s *api.Stage) { s.Bias = r }, func(s *api.Stage) { s.Supply, s.Load, s.Bias = r, r, r }} {
				l = append(l, changed(netN(), func(x *api.Net) { change(&x.Stages[0]) }))
			}
		}
		for _, change := range []func(x *api.Net){
			func(x *api.Net) { x.Inputs = n }, func(x *api.Net) { x.Stages[0].Tube = n }, func(x *api.Net) { x.Stages[0].Taps[0].Node = n }, func(x *api.Net) { x.Stages[0].Taps[0].Num = n }, func(x *api.Net) { x.Stages[0].Taps[0].Den = n },
			func(x *api.Net) { x.Tubes[0].Grid[0] = n }, func(x *api.Net) { x.Tubes[0].Plate[0], x.Tubes[0].Plate[1] = m, n }, func(x *api.Net) { x.Tubes[0].High[1][1] = n }, func(x *api.Net) { x.Tubes[0].Low[1] = []int{n, m} },
		} {
			l = append(l, changed(netN(), change), changed(netX(), change))
		}
	}
	return l
}

// is reports whether a result comes without an error, or is none.
func is[T comparable](x T, e api.Errno) bool {
	var zero T
	return e == api.OK || x == zero
}

// P1, R3, R5: with whatever nets, voltages, boxes and numbers, each function ends, does not panic, and has nothing but an error with an error.
func TestAnyNets(t *testing.T) {
	for i, n := range oddNets() {
		bad := Check(n)
		if !Same(n, n) || !Same(Copy(n), n) {
			t.Error(i, n)
		}
		s, e := Text(n)
		if e != bad || !is(s, e) {
			t.Error(i, s, e)
		}
		for k, a := range odd {
			b := odd[(i+k)%len(odd)]
			for _, l := range [][]api.Range{nil, {of(a, b)}, {one(a), of(b, a)}, slices.Repeat([]api.Range{of(min(a, b), max(a, b))}, max(0, min(n.Inputs, 9)))} {
				anyCalls(t, n, bad, l, a, b)
			}
		}
	}
}

// anyCalls calls what takes voltages and numbers; bad is the error of the net.
func anyCalls(t *testing.T, n api.Net, bad api.Errno, l []api.Range, a, b int) {
	t.Helper()
	plates := make([]api.Range, len(n.Stages))
	r1, e1 := Grid(n, a, slices.Concat(l, plates))
	r2, e2 := Plate(n, a%2, of(a, b))
	x, e3 := Settle(n, l, a)
	r4, e4 := Swing(n, l, l, b, 3)
	k5, e5 := Keeps(n, l, plates)
	k6, e6 := Memory(n, l, plates, slices.Repeat([]api.Range{of(a, b)}, len(plates)))
	m, in, e7 := Corner(n, l, b)
	if !is(r1, e1) || !is(r2, e2) || e3 != api.OK && (x.Nodes != nil || x.Still || x.Sweeps != 0) || !is(r4, e4) || !is(k5, e5) || !is(k6, e6) || e7 != api.OK && (in != nil || !Same(m, api.Net{})) {
		t.Error(n, l, a, b, r1, r2, x, r4, k5, k6, m, in)
	}
	cases := []api.Case{{Inputs: l, Windows: []api.Window{{Node: 0, Range: of(a, b)}, {Node: b, Range: of(math.MinInt, math.MaxInt)}}}}
	v8, n8, c8, e8 := Judge(n, cases, 2)
	v9, n9, c9, e9 := Gate(n, of(a, b), of(b, b), 1, []bool{true, false}, b)
	if !is([3]int{v8, n8, c8}, e8) || !is([3]int{v9, n9, c9}, e9) {
		t.Error(n, l, a, b, v8, n8, c8, v9, n9, c9)
	}
	for _, e := range []api.Errno{e1, e2, e3, e4, e5, e6, e7, e8, e9} {
		if bad != api.OK && e != bad {
			t.Error(n, l, a, b, e, bad)
		}
	}
}

// P1, R3, R5: whatever texts and families are given, Parse ends, does not panic, and has nothing but an error, and a row, with an error.
func TestAnyTexts(t *testing.T) {
	d := dice(50)
	words := []string{"inputs", "stage", "tap", " ", " ", "\n", "\n", "0", "1", "-1", "999999999", "\xff", "é", "\x00", "inputs 1\n", "stage 0 9 9 9 9 0 0\n", "tap 0 1 1\n", "stage 0 100000 100000 1 1000000 -1000 0\n"}
	read := 0
	for i := range 50000 {
		text := []string{"", "inputs 1\n", "inputs 1\nstage 0 9 9 9 9 0 0\n"}[d.upTo(3)]
		for range d.upTo(9) {
			text += words[d.upTo(len(words)-i%2*4)]
		}
		tubes := [][]api.Family{{familyF()}, netX().Tubes, nil, {{}}, make([]api.Family, 9)}[d.upTo(5)]
		n, row, e := Parse(text, tubes)
		if row != plainWrong(text) || (row != 0) != (e == api.ErrForm) || e != api.OK && !Same(n, api.Net{}) {
			t.Fatal(text, n, row, e)
		}
		if e == api.OK {
			read++
			if s, e := Text(n); s != text || e != api.OK || !slices.EqualFunc(n.Tubes, tubes, curve.Same) {
				t.Fatal(text, s, e)
			}
		}
	}
	if read < 100 {
		t.Error(read)
	}
	if n, row, e := Parse(strings.Repeat("inputs 1\n", 500000), nil); !Same(n, api.Net{}) || row != 0 || e != api.ErrLong {
		t.Error(n, row, e)
	}
}

// greatFamily is a family with as many lines as can be, which is no tube.
func greatFamily() api.Family {
	var f api.Family
	for i := range 40 {
		f.Grid, f.Plate = append(f.Grid, -10000+250*i), append(f.Plate, 25000*i)
		f.Low, f.High = append(f.Low, nil), append(f.High, nil)
		for k := range 40 {
			f.Low[i] = append(f.Low[i], i*k*4)
			f.High[i] = append(f.High[i], i*k*4+1)
		}
	}
	return f
}

// P1: the greatest work ends soon.
func TestGreatestWork(t *testing.T) {
	// Two stages, each of which hangs on its own plate: they need many sweeps, at each of 256 corners, in each of 16 cases.
	n := api.Net{Tubes: []api.Family{greatFamily()}, Inputs: 1}
	for i := range 2 {
		n.Stages = append(n.Stages, api.Stage{Supply: one(1000000), Load: one(160000), Bias: of(-10100, -10000), Taps: []api.Tap{tap(0, 1, 1), tap(1+i, 1, 100)}})
	}
	x := rests(t, n, []api.Range{one(0)}, 30)
	if x.Sweeps < 9 {
		t.Error(x)
	}
	// What is known of the voltages is never enough, but nothing fails.
	var cases []api.Case
	for range 16 {
		cases = append(cases, api.Case{Inputs: []api.Range{one(0)}, Windows: []api.Window{{Node: 1, Range: of(x.Nodes[1].Lo+1, 1000000)}}})
	}
	if v, number, corner, e := Judge(n, cases, 30); v != api.Unsure || number != -1 || corner != -1 || e != api.OK {
		t.Error(v, number, corner, e, x)
	}
	// Six stages of four families.
	n = great()
	n.Tubes = slices.Repeat([]api.Family{greatFamily()}, 4)
	for range 20 {
		rests(t, n, make([]api.Range, 4), 30)
	}
}

// spoil changes all ranges of a result, also those behind its end.
func spoil(l []api.Range) {
	l = l[:cap(l)]
	for i := range l {
		l[i] = of(-77, -77)
	}
}

// spoilNet changes all that a net has.
func spoilNet(n api.Net) {
	for _, f := range n.Tubes {
		for _, l := range slices.Concat([][]int{f.Grid, f.Plate}, f.Low, f.High) {
			l = l[:cap(l)]
			for i := range l {
				l[i] = -77
			}
		}
	}
	for i, s := range n.Stages {
		s.Taps = s.Taps[:cap(s.Taps)]
		for k := range s.Taps {
			s.Taps[k] = tap(-77, -77, -77)
		}
		n.Stages[i] = api.Stage{Tube: -77}
	}
}

// isApart reports whether no two tables of a net share memory: what is added to each number is added once.
func isApart(n api.Net) bool {
	x := copyOf(n)
	all := func(n api.Net) [][]int {
		var l [][]int
		for _, f := range n.Tubes {
			l = slices.Concat(l, [][]int{f.Grid, f.Plate}, f.Low, f.High)
		}
		return l
	}
	for _, l := range all(n) {
		for i := range l {
			l[i]++
		}
	}
	return slices.EqualFunc(all(n), all(x), func(a, b []int) bool {
		return slices.EqualFunc(a, b, func(p, q int) bool { return p == q+1 })
	})
}

// roomy returns a copy of a list with room behind its end.
func roomy(l []api.Range) []api.Range { return append(make([]api.Range, 0, 20), l...) }

// isFree reports whether nothing was written behind the end of a list.
func isFree(l []api.Range) bool {
	return !slices.ContainsFunc(l[len(l):cap(l)], func(r api.Range) bool { return r != none })
}

// P9.1 to P9.6, R4, R6: arguments are not changed; results are apart from them and from each other, and a call depends on its arguments alone.
func TestArgumentsAreKept(t *testing.T) {
	nets(t, 51, 200, usualKind, (*dice).smallSize, func(d *dice, n api.Net, inputs []api.Range) {
		was, wasInputs := copyOf(n), slices.Clone(inputs)
		inputs = roomy(inputs)
		box := roomy(rests(t, n, inputs, 30).Nodes[n.Inputs:])
		wasBox := slices.Clone(box)
		cases := d.cases(t, usualKind, n, 9, 3)
		wasCases := slices.Clone(cases)
		for i, c := range cases {
			wasCases[i] = api.Case{Inputs: slices.Clone(c.Inputs), Windows: slices.Clone(c.Windows)}
		}
		corner := d.upTo(1 << bitsOf(n))
		v, number, first, _ := Judge(n, cases, 9)
		for range 2 {
			x := rests(t, n, inputs, 30)
			m, l, _ := Corner(n, inputs, corner)
			want, in := plainCorner(n, inputs, corner)
			if !slices.Equal(x.Nodes[n.Inputs:], wasBox) || !Same(m, want) || !slices.Equal(l, in) || !isApart(m) {
				t.Error(x, m, l)
			}
			spoil(x.Nodes)
			spoil(l)
			spoilNet(m)
			spoilNet(Copy(n))
			text, _ := Text(n)
			read, _, e := Parse(text, n.Tubes)
			if e != api.OK || !isApart(read) {
				t.Error(text, e)
			}
			spoilNet(read)
			Check(n)
			Grid(n, 0, slices.Concat(inputs, box))
			Plate(n, 0, one(0))
			Swing(n, inputs, inputs, 0, 3)
			Keeps(n, inputs, box)
			Memory(n, inputs, box, box)
			Gate(n, one(0), one(5), 0, make([]bool, 1<<n.Inputs), 3)
			if v2, n2, c2, e := Judge(n, cases, 9); v2 != v || n2 != number || c2 != first || e != api.OK {
				t.Error(cases, v2, n2, c2, e)
			}
		}
		same := slices.EqualFunc(cases, wasCases, func(a, b api.Case) bool {
			return slices.Equal(a.Inputs, b.Inputs) && slices.Equal(a.Windows, b.Windows)
		})
		if !Same(n, was) || !slices.Equal(inputs, wasInputs) || !slices.Equal(box, wasBox) || !same || !isFree(inputs) || !isFree(box) {
			t.Error(n, inputs, box, cases)
		}
	})
}
