package pump

import (
	"slices"
	"testing"

	"thermion/api"
	"thermion/cathode"
)

// leastOf returns the sum of the Lo of all free and bound gas, mostOf that of the Hi.
func leastOf(g api.Gas) int {
	sum := 0
	for _, r := range slices.Concat(g.Free, g.Bound) {
		sum += r.Lo
	}
	return sum
}

func mostOf(g api.Gas) int {
	sum := 0
	for _, r := range slices.Concat(g.Free, g.Bound) {
		sum += r.Hi
	}
	return sum
}

// P6.6 (within), P0: gas within other gas, in a system within the other one, stays within it, and so do pressures; verdicts that are Sure or Never stay.
func TestWithin(t *testing.T) {
	count, cut := map[int]int{}, 0
	systems(t, 40, 8000, func(d *dice, v api.Vacuum, s kind) {
		in, wide := d.systemIn(v), d.gas(v, s)
		narrow := d.gasIn(wide)
		if d.upTo(3) == 0 {
			wide, narrow = begun(t, v), begun(t, in)
		}
		narrow.Flashed = wide.Flashed
		for range 4 {
			b := d.stage(v, api.MaxPump)
			wide, narrow = ticked(t, v, wide, b), ticked(t, in, narrow, b)
			if !isGasIn(narrow, wide) {
				t.Error(in, b, narrow, wide)
			}
			if leastOf(wide) > wide.Most || leastOf(narrow) > narrow.Most {
				t.Error(in, b, narrow, wide)
			}
			if wide.Most < mostOf(wide) {
				cut++
			}
			n := d.upTo(len(v.Vessels))
			p, q := pressed(t, in, narrow, n), pressed(t, v, wide, n)
			if !isRangeIn(p, q) {
				t.Error(in, b, n, p, q)
			}
			limit := d.of(of(max(0, p.Lo-1), p.Hi))
			x, y := sealed(t, in, narrow, n, limit), sealed(t, v, wide, n, limit)
			if count[y]++; y != api.Unsure && x != y {
				t.Error(in, b, n, limit, x, y)
			}
		}
	})
	if count[api.Sure] < 500 || count[api.Never] < 500 || count[api.Unsure] < 500 || cut < 500 {
		t.Error(count, cut)
	}
}

// P6.6 (within), at the greatest Most: more leaks in there than Most grows, so that a Lo can be cut; what lies within stays within all the same.
func TestWithinGreatestMost(t *testing.T) {
	cut := 0
	systems(t, 47, 3000, func(d *dice, v api.Vacuum, s kind) {
		v.Leaks = append(v.Leaks[:min(7, len(v.Leaks))], api.Inlet{At: 0, Gas: d.any(1000, api.MaxLeak)})
		in, wide := d.systemIn(v), d.gas(v, kind{gas: 1000})
		wide.Free[0] = of(1<<36-d.upTo(api.MaxLeak), 1<<36)
		wide.Most = d.from(min(leastOf(wide), 1<<36), 1<<36)
		narrow := d.gasIn(wide)
		for range 4 {
			b := d.stage(v, 5)
			wide, narrow = ticked(t, v, wide, b), ticked(t, in, narrow, b)
			if !isGasIn(narrow, wide) {
				t.Error(in, b, narrow, wide)
			}
			if leastOf(narrow) > narrow.Most || narrow.Free[0] == one(1<<36) {
				cut++
			}
		}
	})
	if cut < 100 {
		t.Error(cut)
	}
}

// P6.7: gas that belongs to a system belongs to it after a tick, whatever it is; no Lo is above its Hi, and none of what there is above Most.
func TestBelongsAfterTicks(t *testing.T) {
	systems(t, 41, 6000, func(d *dice, v api.Vacuum, s kind) {
		if d.upTo(4) == 0 {
			s.gas = 1 << 36
		}
		g := d.gas(v, s)
		if d.upTo(2) == 0 {
			g.Most = d.upTo(1<<36 + 1)
		}
		for range 4 {
			g = ticked(t, v, g, d.stage(v, 5))
			if e := Belongs(v, g); e != api.OK {
				t.Error(g, e)
			}
			for _, r := range slices.Concat(g.Free, g.Bound, g.Room) {
				if r.Lo < 0 || r.Lo > r.Hi {
					t.Error(g)
				}
			}
			for _, r := range slices.Concat(g.Free, g.Bound) {
				if r.Hi > g.Most {
					t.Error(g)
				}
			}
		}
	})
}

// P6.8 (nothing is lost): without pumps, leaks and getters there never is surely more gas than there may have been, nor can there be less than there surely was.
func TestNothingIsLost(t *testing.T) {
	exact := 0
	systems(t, 42, 4000, func(d *dice, v api.Vacuum, s kind) {
		v.Pumps, v.Leaks, v.Getters = nil, nil, nil
		if d.upTo(3) == 0 { // just as much as there is
			for _, r := range rangesOf(&v) {
				*r = one(r.Lo)
			}
		}
		begin := begun(t, v)
		least, most := leastOf(begin), mostOf(begin)
		g := begin
		for range 6 {
			g = ticked(t, v, g, d.stage(v, 5))
			if leastOf(g) > most || mostOf(g) < least || g.Most != most {
				t.Error(begin, g)
			}
		}
		if least == most && leastOf(g) == least && mostOf(g) == most {
			exact++
		}
	})
	if exact < 100 {
		t.Error(exact)
	}
}

// grain is the number of parts of a number of gas in which truth is counted. It can be divided by 4 twenty times.
const grain = 1 << 40

// truth is gas that there truly is, in grains.
type truth struct {
	free, bound, room []int
	flashed           bool
}

// exactPart returns a true part within a range of multiples of a quarter.
func (d *dice) exactPart(r api.Range) int {
	return d.of(of(r.Lo/250000, r.Hi/250000))
}

// truth returns true gas that lies within gas.
func (d *dice) truth(g api.Gas) truth {
	x := truth{flashed: g.Flashed}
	for n := range g.Free {
		x.free = append(x.free, grain*d.of(g.Free[n]))
		x.bound = append(x.bound, grain*d.of(g.Bound[n]))
	}
	for _, r := range g.Room {
		x.room = append(x.room, grain*d.of(r))
	}
	return x
}

// quarters returns so many quarters of an amount, which must be exact.
func quarters(t *testing.T, amount, count int) int {
	t.Helper()
	if amount*count%4 != 0 {
		t.Fatal("too fine: ", amount, count)
	}
	return amount * count / 4
}

// tick lets true gas become what it may in truth, and returns what came in by leaks.
func (d *dice) tick(t *testing.T, v api.Vacuum, x *truth, s api.Bake) (came int) {
	t.Helper()
	x.flashed = x.flashed || s.Flash
	for n, y := range v.Vessels {
		goes := quarters(t, x.bound[n], d.exactPart(plainRate(y, s.Heat)))
		x.bound[n] -= goes
		x.free[n] += goes
	}
	next := slices.Clone(x.free)
	move := func(from, to int, part api.Range) {
		goes := quarters(t, x.free[from], d.exactPart(part))
		next[from] -= goes
		if to >= 0 {
			next[to] += goes
		}
	}
	for n, p := range v.Pipes {
		if !slices.Contains(s.Shut, n) {
			move(p.A, p.B, p.Out)
			move(p.B, p.A, p.Back)
		}
	}
	for _, p := range v.Pumps {
		move(p.At, -1, p.Part)
	}
	for _, l := range v.Leaks {
		in := grain * d.of(l.Gas)
		next[l.At] += in
		came += in
	}
	x.free = next
	for n, y := range v.Getters {
		if x.flashed {
			goes := min(quarters(t, x.free[y.At], d.exactPart(y.Part)), x.room[n])
			x.free[y.At] -= goes
			x.room[n] -= goes
		}
	}
	return came
}

// isTruthIn reports whether true gas lies within gas.
func isTruthIn(x truth, g api.Gas) bool {
	in := func(n int, r api.Range) bool { return r.Lo*grain <= n && n <= r.Hi*grain }
	return slices.EqualFunc(x.free, g.Free, in) && slices.EqualFunc(x.bound, g.Bound, in) && slices.EqualFunc(x.room, g.Room, in)
}

// P6.6, P6.9, P0: what truly is, lies within what is said, whatever the true parts, leaks and amounts are; so do the true pressures. If all of it is known exactly, and nothing has to be rounded, it is what is said.
func TestGasInTruth(t *testing.T) {
	exact, seals := 0, map[int]int{}
	d := dice(43)
	for i := range 6000 {
		v := d.system(exactKind)
		known := i%2 == 0
		for _, r := range rangesOf(&v) {
			if known {
				*r = one(r.Hi)
			}
		}
		g := begun(t, v)
		x := d.truth(g)
		sum := 0 // of all gas that there is, or was
		for n := range x.free {
			sum += x.free[n] + x.bound[n]
		}
		for range 3 {
			s := d.stage(v, 5)
			g = ticked(t, v, g, s)
			sum += d.tick(t, v, &x, s)
			if !isTruthIn(x, g) || x.flashed != g.Flashed || sum > g.Most*grain {
				t.Fatal(v, s, g, x)
			}
			n := d.upTo(len(v.Vessels))
			p := pressed(t, v, g, n)
			limit := d.of(of(max(0, p.Lo-1), p.Hi))
			said := sealed(t, v, g, n, limit)
			isLess := 1000*x.free[n] <= limit*grain*v.Vessels[n].Volume
			if seals[said]++; said == api.Sure && !isLess || said == api.Never && isLess {
				t.Fatal(v, s, g, x, n, limit, said)
			}
		}
		if known && !slices.ContainsFunc(slices.Concat(g.Free, g.Bound, g.Room), func(r api.Range) bool { return r.Lo != r.Hi }) {
			exact++
		}
	}
	if exact < 300 || seals[api.Sure] < 300 || seals[api.Never] < 300 || seals[api.Unsure] < 100 {
		t.Error(exact, seals)
	}
}

// P6.9 (exact): single numbers, of which nothing has to be rounded, stay single numbers: those that there are.
func TestExact(t *testing.T) {
	v := systemV()
	v.Vessels[0].Free = one(1 << 20)
	for n := range 21 {
		if g := ran(t, v, []api.Bake{{Ticks: n}}); !sameGas(g, api.Gas{Free: ranges(one(1 << 20 >> n)), Bound: ranges(none), Most: 1 << 20}) {
			t.Error(n, g)
		}
	}
	// Half of what is bound becomes free, a quarter of what is free goes over; the getter takes half of what came.
	v = api.Vacuum{
		Vessels: []api.Vessel{{Volume: 1, Bound: one(64), Bands: []api.Release{band(500, one(500000))}}, {Volume: 1}},
		Pipes:   []api.Pipe{pipe(0, 1, one(250000), none)},
		Getters: []api.Getter{{At: 1, Part: one(500000), Room: one(7)}},
	}
	for n, want := range []api.Gas{
		{Free: ranges(none, none), Bound: ranges(one(64), none), Room: ranges(one(7))},
		{Free: ranges(one(24), one(4)), Bound: ranges(one(32), none), Room: ranges(one(3)), Flashed: true},
		{Free: ranges(one(30), one(11)), Bound: ranges(one(16), none), Room: ranges(none), Flashed: true},
	} {
		want.Most = 64
		if g := ran(t, v, []api.Bake{{Ticks: n, Heat: 500, Flash: true}}); !sameGas(g, want) {
			t.Error(n, g)
		}
	}
}

// P6.10: a run is its ticks, one after the other; a run of some stages, and then the others, is the run of all.
func TestRunsAdded(t *testing.T) {
	systems(t, 44, 3000, func(d *dice, v api.Vacuum, s kind) {
		l := d.stages(v, 5, 5)
		k := d.upTo(len(l) + 1)
		first, whole := ran(t, v, l[:k]), ran(t, v, l)
		g := first
		for _, s := range l[k:] {
			for range s.Ticks {
				g = ticked(t, v, g, s)
			}
		}
		if !sameGas(g, whole) {
			t.Error(l, k, first, g, whole)
		}
		// A stage can be split.
		var split []api.Bake
		for _, s := range l {
			a := s
			a.Ticks = d.upTo(s.Ticks + 1)
			s.Ticks -= a.Ticks
			split = append(split, a, s)
		}
		if g := ran(t, v, split); !sameGas(g, whole) {
			t.Error(l, split, g, whole)
		}
		// The rest is a run of the system that has what there is by then, but for Most and what was flashed.
		at := copyOf(v)
		for n := range at.Vessels {
			at.Vessels[n].Free, at.Vessels[n].Bound = first.Free[n], first.Bound[n]
		}
		for n := range at.Getters {
			at.Getters[n].Room = first.Room[n]
		}
		if Check(at) != api.OK || mostOf(first) != first.Most || first.Flashed {
			return
		}
		if g := ran(t, at, l[k:]); !sameGas(g, whole) {
			t.Error(l, k, at, g, whole)
		}
	})
}

// P6.11 (seals): after Hold's ticks a vessel is sealed for sure, and with fewer it is not; a run whose peak is at most the limit can be sealed at any time.
func TestSeals(t *testing.T) {
	held, never := 0, 0
	systems(t, 45, 4000, func(d *dice, v api.Vacuum, s kind) {
		l := append(d.stages(v, 2, 5), d.stage(v, 12))
		n, last := d.upTo(len(v.Vessels)), len(l)-1
		after := func(ticks int) api.Range {
			k := slices.Clone(l)
			k[last].Ticks = ticks
			return pressed(t, v, ran(t, v, k), n)
		}
		limit := max(0, after(d.upTo(l[last].Ticks+1)).Hi-d.upTo(2))
		m, e := Hold(v, l, n, limit)
		if e == api.ErrUnsure {
			m = l[last].Ticks + 1
			never++
		} else if held++; e != api.OK || after(m).Hi > limit {
			t.Error(l, n, limit, m, e)
		}
		for k := range m {
			if after(k).Hi <= limit {
				t.Error(l, n, limit, m, k)
			}
		}
		peak, e := Peak(v, l, n)
		reached := false
		for i := range l {
			for k := range l[i].Ticks + 1 {
				cut := slices.Clone(l[:i+1])
				cut[i].Ticks = k
				g := ran(t, v, cut)
				if reached = reached || pressed(t, v, g, n).Hi == peak; sealed(t, v, g, n, peak) != api.Sure {
					t.Error(cut, n, peak)
				}
			}
		}
		if !reached || e != api.OK {
			t.Error(l, n, peak, e)
		}
		for _, limit := range []int{peak, peak + 5} {
			if m, e := Hold(v, l[:1], n, limit); m != 0 || e != api.OK {
				t.Error(l, n, peak, m, e)
			}
		}
	})
	if held < 1000 || never < 300 {
		t.Error(held, never)
	}
}

// isNowhereLess reports whether no Hi of gas (free or bound), nor Most, is less than that of other gas.
func isNowhereLess(a, b api.Gas) bool {
	notLess := func(x, y api.Range) bool { return x.Hi >= y.Hi }
	return slices.EqualFunc(a.Free, b.Free, notLess) && slices.EqualFunc(a.Bound, b.Bound, notLess) && a.Most >= b.Most
}

// more makes a range greater, on one side or on both.
func (d *dice) more(r api.Range, most int) api.Range {
	r.Hi = min(most, r.Hi+d.upTo(r.Hi+5))
	return of(d.of(of(r.Lo, r.Hi)), r.Hi)
}

// P6.12: more gas at the beginning, or a greater leak, never makes a Hi of gas less; a stronger pump never makes that of its vessel's own gas greater in the same tick, and changes no other vessel's gas in it.
func TestMoreGasAndStrongerPumps(t *testing.T) {
	less := 0
	systems(t, 46, 4000, func(d *dice, v api.Vacuum, s kind) {
		l := d.stages(v, 3, 5)
		more := copyOf(v)
		for n := range more.Vessels {
			x := &more.Vessels[n]
			x.Free, x.Bound = d.more(x.Free, api.MaxGas), d.more(x.Bound, api.MaxGas)
		}
		a, b := ran(t, v, l), ran(t, more, l)
		if !isNowhereLess(b, a) {
			t.Error(l, more, a, b)
		}
		leaky := copyOf(v)
		for n := range leaky.Leaks {
			leaky.Leaks[n].Gas = d.more(leaky.Leaks[n].Gas, api.MaxLeak)
		}
		if b := ran(t, leaky, l); !isNowhereLess(b, a) {
			t.Error(l, leaky, a, b)
		}
		if len(v.Pumps) == 0 {
			return
		}
		strong, k := copyOf(v), d.upTo(len(v.Pumps))
		strong.Pumps[k].Part = d.more(v.Pumps[k].Part, api.Million)
		if Check(strong) != api.OK {
			strong.Pumps[k].Part = d.more(v.Pumps[k].Part, v.Pumps[k].Part.Hi)
		}
		g, stage := d.gas(v, s), d.stage(v, 5)
		x, y := ticked(t, v, g, stage), ticked(t, strong, g, stage)
		own := v.Pumps[k].At
		if y.Free[own].Hi > x.Free[own].Hi || y.Free[own].Lo > x.Free[own].Lo || !slices.Equal(y.Bound, x.Bound) {
			t.Error(g, stage, strong, x, y)
		}
		if y.Free[own].Hi < x.Free[own].Hi {
			less++
		}
		x.Free[own], y.Free[own] = none, none
		if !slices.Equal(x.Free, y.Free) {
			t.Error(g, stage, strong, x, y)
		}
	})
	if less < 200 {
		t.Error(less)
	}
}

// P6.13 (hunts): just the leaking suspect fits all tests of Find; their cost is at most Worst, and for some leak it is Worst.
func TestLeaksAreFound(t *testing.T) {
	found := 0
	hunts(t, 50, 4000, 12, 12, func(d *dice, h api.Hunt) {
		worst, _, e := Worst(h, everyone(h))
		if e != api.OK {
			return
		}
		found++
		most := 0
		for leak := range h.Suspects {
			l, cost, e := Find(h, leak)
			sum := 0
			for _, try := range l {
				sum += h.Trials[try.Trial].Cost
			}
			if e != api.OK || cost != sum || cost > worst {
				t.Error(leak, l, cost, e, sum, worst)
			}
			most = max(most, cost)
			for n := range h.Suspects {
				fits := !slices.ContainsFunc(l, func(try api.Try) bool { return slices.Contains(h.Trials[try.Trial].Of, n) != try.In })
				if fits != (n == leak) {
					t.Error(leak, l, n, fits)
				}
			}
		}
		if most != worst {
			t.Error(most, worst)
		}
	})
	if found < 500 {
		t.Error(found)
	}
}

// strategy is a test, and how one goes on if the leak is in it, and if it is not; nil is the end.
type strategy struct {
	trial   int
	in, out *strategy
}

// strategies returns all strategies that make none of the tests twice in a row of tests.
func strategies(trials []int) []*strategy {
	all := []*strategy{nil}
	for i, n := range trials {
		further := strategies(slices.Delete(slices.Clone(trials), i, i+1))
		for _, a := range further {
			for _, b := range further {
				all = append(all, &strategy{n, a, b})
			}
		}
	}
	return all
}

// play follows a strategy with a leak, and returns its cost, and who is left.
func (s *strategy) play(h api.Hunt, suspects []int, leak int) (cost int, left []int) {
	left = suspects
	for s != nil {
		x := h.Trials[s.trial]
		in, out := parted(left, x)
		cost += x.Cost
		if slices.Contains(x.Of, leak) {
			left, s = in, s.in
		} else {
			left, s = out, s.out
		}
	}
	return cost, left
}

// P6.14 (the least): of all strategies of small hunts none has a lower cost in the worst case, and some has that cost; if suspects can't be told apart none finds the leak.
func TestNoStrategyIsBetter(t *testing.T) {
	all := [][]*strategy{strategies(nil), strategies([]int{0}), strategies([]int{0, 1}), strategies([]int{0, 1, 2})}
	told, not := 0, 0
	hunts(t, 51, 1500, 5, 3, func(d *dice, h api.Hunt) {
		suspects := d.some(h)
		least := never
	strategies:
		for _, s := range all[len(h.Trials)] {
			worst := 0
			for _, leak := range suspects {
				cost, left := s.play(h, suspects, leak)
				if len(left) != 1 {
					continue strategies
				}
				worst = max(worst, cost)
			}
			least = min(least, worst)
		}
		cost, _, e := Worst(h, suspects)
		if least == never {
			if not++; e != api.ErrUnsure {
				t.Error(suspects, cost, e)
			}
		} else if told++; cost != least || e != api.OK {
			t.Error(suspects, cost, e, least)
		}
	})
	if told < 300 || not < 300 {
		t.Error(told, not)
	}
}

// P6.15: in a row of n suspects, each beginning of which can be tested at the cost 1, the worst case is the least k with 2^k at least n.
func TestRows(t *testing.T) {
	for n, want := range []int{1: 0, 2: 1, 3: 2, 4: 2, 5: 3, 6: 3, 7: 3, 8: 3, 9: 4, 10: 4, 11: 4, 12: 4} {
		if n == 0 {
			continue
		}
		h := huntOf(n)
		for k := range n { // also the beginning that is the whole row
			h.Trials = append(h.Trials, test(1, everyone(huntOf(k+1))...))
		}
		if cost, _, e := Worst(h, everyone(h)); cost != want || e != api.OK {
			t.Error(n, cost, e)
		}
		h.Trials = h.Trials[:n-1]
		if cost, _, e := Worst(h, everyone(h)); cost != want || e != api.OK {
			t.Error(n, cost, e)
		}
	}
}

// P6.16: a test more, or a cheaper one, never makes the worst case greater; fewer suspects never do.
func TestHuntsMadeEasier(t *testing.T) {
	told, easier := 0, 0
	hunts(t, 52, 4000, 12, 11, func(d *dice, h api.Hunt) {
		l := d.some(h)
		worst, _, e := Worst(h, l)
		if e != api.OK {
			return
		}
		told++
		hold := func(h api.Hunt, l []int) {
			cost, _, e := Worst(h, l)
			if e != api.OK || cost > worst {
				t.Error(h, l, cost, e, worst)
			}
			if cost < worst {
				easier++
			}
		}
		more := copyOfHunt(h)
		x := test(d.upTo(worst+2)%1001, d.some(h)...)
		more.Trials = slices.Insert(more.Trials, d.upTo(len(h.Trials)+1), x)
		hold(more, l)
		if len(h.Trials) > 0 {
			cheap := copyOfHunt(h)
			n := d.upTo(len(h.Trials))
			cheap.Trials[n].Cost = d.upTo(cheap.Trials[n].Cost + 1)
			hold(cheap, l)
		}
		if len(l) > 1 {
			hold(h, slices.Delete(slices.Clone(l), 0, d.from(1, len(l)-1)))
		}
	})
	if told < 500 || easier < 500 {
		t.Error(told, easier)
	}
}

// T3 (bakes): the gas of a system into which a cathode lets its gas lies within that of the system with a leak of all that the cathode may let out.
func TestBakesWithCathodes(t *testing.T) {
	d := dice(60)
	came := 0
	for i := range 300 {
		v := d.system(kind{3, 4, 2000, 1})
		at := d.upTo(len(v.Vessels))
		c := api.Coat{Amount: d.from(1, 5000), Slew: 400, Bands: []api.Band{{}, {From: 900, Convert: d.any(0, 300000)}}}
		l := slices.Repeat([]api.Heating{{Ticks: 1, Heat: 1200}}, 10)
		coatings, e := cathode.Follow(c, l)
		if e != api.OK {
			t.Fatal(i, e)
		}
		most := 0 // what the cathode may let out in a tick
		for _, x := range coatings {
			most = max(most, x.Gas.Hi)
		}
		with := func(gas api.Range) api.Vacuum {
			w := copyOf(v)
			w.Leaks = append(w.Leaks, api.Inlet{At: at, Gas: gas})
			return w
		}
		wide := with(of(0, most))
		whole, bounds, truth := begun(t, wide), begun(t, wide), begun(t, wide)
		carbonate := c.Amount
		for _, x := range coatings {
			rate := c.Bands[1].Convert
			if x.Heat < 900 {
				rate = none
			}
			gas := d.of(of(floor(carbonate*rate.Lo, 1000000), ceil(carbonate*rate.Hi, 1000000))) // in truth
			carbonate -= gas
			came += gas
			b := d.stage(v, 5)
			whole, bounds, truth = ticked(t, wide, whole, b), ticked(t, with(x.Gas), bounds, b), ticked(t, with(one(gas)), truth, b)
			if !isRangeIn(one(gas), x.Gas) || !isGasIn(truth, bounds) || !isGasIn(bounds, whole) {
				t.Fatal(i, v, c, x, b, gas, truth, bounds, whole)
			}
		}
	}
	if came < 1000 {
		t.Error(came)
	}
}
