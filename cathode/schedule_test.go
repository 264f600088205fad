package cathode

import (
	"math"
	"slices"
	"testing"

	"thermion/api"
)

// times returns a list of so many equal heatings.
func times(n int, h api.Heating) []api.Heating { return slices.Repeat([]api.Heating{h}, n) }

// wrongHeating is one with an error, long ones are together too long.
var wrongHeating = api.Heating{Ticks: 0}

func longOnes() []api.Heating {
	return append(times(10, api.Heating{Ticks: 2000}), api.Heating{Ticks: 1})
}

// P3.1: CheckSchedule finds each error, and the first one if there are several; Possible, Follow, Judge and Shortest look at it.
func TestCheckSchedule(t *testing.T) {
	for i, c := range []struct {
		l    []api.Heating
		want api.Errno
	}{
		{nil, api.OK}, {[]api.Heating{}, api.OK}, {[]api.Heating{{Ticks: 1}}, api.OK}, {[]api.Heating{step(2000, 2000, 1000)}, api.OK}, {times(40, hot), api.OK}, {times(41, hot), api.ErrFull},
		{times(41, wrongHeating), api.ErrFull}, {times(41, api.Heating{Ticks: 2000}), api.ErrFull},
		{[]api.Heating{step(0, 5, 5)}, api.ErrRange}, {[]api.Heating{step(-1, 5, 5)}, api.ErrRange}, {[]api.Heating{step(2001, 5, 5)}, api.ErrRange},
		{[]api.Heating{step(1, -1, 5)}, api.ErrRange}, {[]api.Heating{step(1, 2001, 5)}, api.ErrRange}, {[]api.Heating{step(1, 5, -1)}, api.ErrRange}, {[]api.Heating{step(1, 5, 1001)}, api.ErrRange},
		{[]api.Heating{hot, hot, wrongHeating}, api.ErrRange}, {[]api.Heating{hot, step(1, 2001, 0), hot}, api.ErrRange},
		{times(10, api.Heating{Ticks: 2000}), api.OK}, {longOnes(), api.ErrLong}, {times(40, api.Heating{Ticks: 500}), api.OK}, {times(40, api.Heating{Ticks: 501}), api.ErrLong},
		{append(longOnes(), wrongHeating), api.ErrRange}, {append([]api.Heating{wrongHeating}, longOnes()...), api.ErrRange}, {times(40, api.Heating{Ticks: math.MaxInt}), api.ErrRange},
	} {
		if e := CheckSchedule(c.l); e != c.want {
			t.Error(i, e)
		}
		if _, e := Follow(coatK(), c.l); e != c.want {
			t.Error(i, e)
		}
		if _, _, e := Judge(coatK(), api.Demand{}, c.l); e != c.want {
			t.Error(i, e)
		}
		if c.want == api.OK {
			continue
		}
		if Possible(coatK(), c.l, slices.Repeat([]api.Mix{{Carbonate: 1000}}, 20002)) {
			t.Error(i, "possible")
		}
	}
}

// P3.2: Follow returns what the coating is after each heating, which goes on with the heat of the one before.
func TestFollow(t *testing.T) {
	first := api.Coating{Carbonate: of(800, 900), Oxide: of(100, 200), Gas: of(100, 200), Wear: of(1, 2), Heat: 1100}
	cool := changed(secondK(), func(x *api.Coating) { x.Gas, x.Heat = none, 699 })
	for i, c := range []struct {
		l    []api.Heating
		want []api.Coating
	}{
		{nil, nil}, {[]api.Heating{hot}, []api.Coating{first}}, {[]api.Heating{hot, hot}, []api.Coating{first, secondK()}}, {[]api.Heating{step(4, 1100, 0)}, []api.Coating{secondK()}},
		{[]api.Heating{step(1, 700, 9), step(1, 1100, 0)}, []api.Coating{{Carbonate: one(1000), Heat: 700}, first}},
		{[]api.Heating{hot, hot, step(1, 100, 0), step(2, 699, 0)}, []api.Coating{first, secondK(), changed(cool, func(x *api.Coating) { x.Heat = 700 }), cool}},
	} {
		if l := followed(t, coatK(), c.l); !slices.Equal(l, c.want) {
			t.Error(i, l)
		}
	}
	long := followed(t, coatK(), times(10, api.Heating{Ticks: 2000, Heat: 2000, Current: 1000}))
	if x := long[9]; len(long) != 10 || x.Wear != of(19999, 39998) || x.Carbonate != of(0, 9) || x.Lost.Hi != 1000 {
		t.Error(x)
	}
}

// P3.2: Follow begins with the fresh coating, and goes tick by tick.
func TestFollowGoesTickByTick(t *testing.T) {
	cases(t, 2, 3000, func(d *dice, c api.Coat, l []api.Heating) {
		all, plain := followed(t, c, l), plainRun(c, l)
		if len(all) != len(l) {
			t.Fatal(all)
		}
		n := 0
		for i, h := range l {
			n += h.Ticks
			if all[i] != plain[n] {
				t.Error(i, all[i], plain[n])
			}
		}
	})
}

// mix makes a mix.
func mix(carbonate, oxide, barium, lost int) api.Mix {
	return api.Mix{Carbonate: carbonate, Oxide: oxide, Barium: barium, Lost: lost}
}

// P3.3: courses that are possible, and such that are not.
func TestPossible(t *testing.T) {
	start := mix(1000, 0, 0, 0)
	two, three, four := []api.Heating{hot}, []api.Heating{hot, step(1, 1100, 0)}, []api.Heating{hot, hot}
	for i, c := range []struct {
		l      []api.Heating
		course []api.Mix
		want   bool
	}{
		{nil, []api.Mix{start}, true}, {nil, nil, false}, {nil, []api.Mix{start, start}, false},
		{nil, []api.Mix{mix(999, 1, 0, 0)}, false}, {nil, []api.Mix{mix(1000, 1, 0, 0)}, false}, {nil, []api.Mix{mix(1000, 0, 0, 1)}, false}, {nil, []api.Mix{mix(1000, 0, 1, 0)}, false},
		{two, []api.Mix{start, start, mix(850, 150, 0, 0)}, true}, {two, []api.Mix{start, start, mix(701, 299, 0, 0)}, false},
		{two, []api.Mix{start, start, mix(900, 100, 0, 0)}, true}, {two, []api.Mix{start, start, mix(901, 99, 0, 0)}, false},
		{two, []api.Mix{start, start, mix(800, 200, 0, 0)}, true}, {two, []api.Mix{start, start, mix(799, 201, 0, 0)}, false},
		{two, []api.Mix{start, start}, false}, {two, []api.Mix{start, start, mix(850, 150, 0, 0), mix(850, 150, 0, 0)}, false},
		{two, []api.Mix{start, start, mix(850, 149, 0, 0)}, false}, {two, []api.Mix{start, start, mix(850, 151, 0, 0)}, false}, {two, []api.Mix{start, start, mix(850, 149, 1, 0)}, false}, {two, []api.Mix{start, start, mix(850, 150, 0, 1)}, false},
		{two, []api.Mix{start, start, mix(850, 150, -1, 1)}, false}, {two, []api.Mix{start, start, mix(850, 149, 0, 1)}, false}, {two, []api.Mix{start, mix(850, 150, 0, 0), mix(850, 150, 0, 0)}, false},
		// Of 155 oxide 15 to 16 become barium; of 850 carbonate 85 to 170 become oxide.
		{three, []api.Mix{start, start, mix(845, 155, 0, 0), mix(700, 285, 15, 0)}, true}, {three, []api.Mix{start, start, mix(845, 155, 0, 0), mix(700, 284, 16, 0)}, true},
		{three, []api.Mix{start, start, mix(845, 155, 0, 0), mix(700, 286, 14, 0)}, false}, {three, []api.Mix{start, start, mix(845, 155, 0, 0), mix(700, 283, 17, 0)}, false},
		{three, []api.Mix{start, start, mix(845, 155, 0, 0), mix(700, 285, 14, 1)}, false}, {three, []api.Mix{start, start, mix(845, 155, 0, 0), mix(761, 224, 15, 0)}, true},
		{three, []api.Mix{start, start, mix(845, 155, 0, 0), mix(762, 223, 15, 0)}, false}, {three, []api.Mix{start, start, mix(845, 155, 0, 0), mix(676, 309, 15, 0)}, true}, {three, []api.Mix{start, start, mix(845, 155, 0, 0), mix(675, 310, 15, 0)}, false},
		// Of 15 barium 0 to 1 are lost.
		{four, []api.Mix{start, start, mix(850, 150, 0, 0), mix(700, 285, 15, 0), mix(600, 356, 43, 1)}, true}, {four, []api.Mix{start, start, mix(850, 150, 0, 0), mix(700, 285, 15, 0), mix(600, 356, 44, 0)}, true},
		{four, []api.Mix{start, start, mix(850, 150, 0, 0), mix(700, 285, 15, 0), mix(600, 356, 42, 2)}, false}, {four, []api.Mix{start, start, mix(850, 150, 0, 0), mix(700, 285, 15, 0), mix(600, 356, 45, -1)}, false},
		{four, []api.Mix{start, start, mix(850, 150, 0, 0), mix(700, 285, 15, 0), mix(600, 356, 43, 0)}, false}, {four, []api.Mix{start, start, mix(850, 150, 0, 0), mix(700, 285, 15, 0), mix(600, 356, 43, 2)}, false},
	} {
		if is := Possible(coatK(), c.l, c.course); is != c.want {
			t.Error(i, is)
		}
	}
	if Possible(api.Coat{}, nil, []api.Mix{{}}) {
		t.Error("no coat")
	}
}

// P3.3: the rates are those of the heat after it has moved, with the help of the current; the schedule begins with the heat Room.
func TestPossibleHeats(t *testing.T) {
	k := coatK()
	k.Amount, k.Slew, k.Aid = 100, 100, of(100000, 200000)
	k.Bands = []api.Band{{}, {From: 301, Convert: one(1000000)}, {From: 401, Reduce: one(100000)}, {From: 500, Evaporate: one(1000000)}}
	for i, c := range []struct {
		l    []api.Heating
		last api.Mix
		want bool
	}{
		{[]api.Heating{step(1, 300, 0)}, mix(100, 0, 0, 0), true}, {[]api.Heating{step(1, 300, 0)}, mix(0, 100, 0, 0), false}, {[]api.Heating{step(1, 301, 0)}, mix(0, 100, 0, 0), true},
		{[]api.Heating{step(1, 2000, 0)}, mix(0, 100, 0, 0), true}, {[]api.Heating{step(1, 301, 0), step(1, 401, 0)}, mix(0, 90, 10, 0), true}, {[]api.Heating{step(1, 301, 0), step(1, 400, 0)}, mix(0, 100, 0, 0), true},
		{[]api.Heating{step(1, 301, 0), step(1, 401, 1)}, mix(0, 80, 20, 0), true}, {[]api.Heating{step(1, 301, 0), step(1, 401, 1)}, mix(0, 70, 30, 0), true}, {[]api.Heating{step(1, 301, 0), step(1, 401, 1)}, mix(0, 81, 19, 0), false}, {[]api.Heating{step(1, 301, 0), step(1, 401, 1)}, mix(0, 69, 31, 0), false},
		{[]api.Heating{step(1, 301, 0), step(1, 401, 5)}, mix(0, 0, 100, 0), true}, {[]api.Heating{step(1, 301, 0), step(1, 401, 5)}, mix(0, 40, 60, 0), true}, {[]api.Heating{step(1, 301, 0), step(1, 401, 5)}, mix(0, 41, 59, 0), false},
		{[]api.Heating{step(1, 301, 0), step(1, 401, 1000)}, mix(0, 0, 100, 0), true}, {[]api.Heating{step(1, 301, 0), step(1, 401, 1000)}, mix(0, 1, 99, 0), false},
		{[]api.Heating{step(2, 2000, 0)}, mix(0, 100, 0, 0), true}, {[]api.Heating{step(2, 2000, 0)}, mix(0, 90, 10, 0), false}, {[]api.Heating{step(2, 2000, 1)}, mix(0, 80, 20, 0), true}, {[]api.Heating{step(2, 2000, 1)}, mix(0, 79, 21, 0), false},
	} {
		course := []api.Mix{mix(100, 0, 0, 0)}
		for n := 1; n < length(c.l); n++ {
			course = append(course, mix(0, 100, 0, 0))
		}
		if is := Possible(k, c.l, append(course, c.last)); is != c.want {
			t.Error(i, is)
		}
	}
}

// P3.3, R5: courses with any numbers; sums of such numbers may be greater than a type can hold.
func TestPossibleNumbers(t *testing.T) {
	k := changed(coatK(), func(c *api.Coat) {
		c.Bands = []api.Band{{Convert: of(0, 1000000), Reduce: of(0, 1000000), Evaporate: of(0, 1000000)}}
	})
	l := []api.Heating{step(3, 300, 0)}
	good := []api.Mix{mix(1000, 0, 0, 0), mix(500, 500, 0, 0), mix(250, 500, 250, 0), mix(250, 250, 250, 250)}
	if !Possible(k, l, good) {
		t.Error("not possible")
	}
	for n := range good {
		for _, by := range append(odd, math.MinInt+250, math.MinInt+500, math.MaxInt-250, math.MaxInt-249, math.MaxInt-500) {
			if by == 0 {
				continue
			}
			for i, change := range []func(m *api.Mix){
				func(m *api.Mix) { m.Carbonate += by }, func(m *api.Mix) { m.Oxide += by }, func(m *api.Mix) { m.Barium += by }, func(m *api.Mix) { m.Lost += by },
			} {
				course := slices.Clone(good)
				change(&course[n])
				if Possible(k, l, course) {
					t.Error(i, n, by)
				}
			}
		}
	}
	// Numbers that are together the amount only with wraparound.
	for _, m := range []api.Mix{mix(250, 250, math.MinInt, math.MinInt+500), mix(math.MinInt, math.MinInt, 500, 500), mix(250, math.MaxInt, 250, math.MinInt+501), mix(math.MaxInt, 250, math.MinInt+501, 250)} {
		if m.Carbonate+m.Oxide+m.Barium+m.Lost != 1000 || Possible(k, l, append(slices.Clone(good[:3]), m)) {
			t.Error(m)
		}
	}
}

// P3.3: a course is possible if, and only if, it is so for the plain rules.
func TestPossibleIsThatOfTheRules(t *testing.T) {
	good, bad := 0, 0
	cases(t, 3, 6000, func(d *dice, c api.Coat, l []api.Heating) {
		course := d.course(c, l)
		if !Possible(c, l, course) {
			t.Error(course)
		}
		n := d.upTo(len(course))
		for range 2 { // two numbers of a mix are moved apart, so that it often remains what the amount is
			m := &course[n]
			p := []*int{&m.Carbonate, &m.Oxide, &m.Barium, &m.Lost}
			i, by := d.upTo(4), d.from(1, 3)
			*p[i] += by
			*p[(i+1+d.upTo(3))%4] -= by
		}
		want := plainPossible(c, l, course)
		if Possible(c, l, course) != want {
			t.Error(course, want)
		}
		if want {
			good++
		} else {
			bad++
		}
	})
	if good < 100 || bad < 100 {
		t.Error(good, bad)
	}
}

// plainPossible looks at what must have become of each part in a tick.
func plainPossible(c api.Coat, l []api.Heating, course []api.Mix) bool {
	rates := plainRates(c, l)
	if len(course) != 1+len(rates) || course[0] != mix(c.Amount, 0, 0, 0) {
		return false
	}
	for i, b := range rates {
		m, next := course[i], course[i+1]
		converted := m.Carbonate - next.Carbonate
		evaporated := next.Lost - m.Lost
		reduced := next.Barium - m.Barium + evaporated
		if m.Oxide+converted-reduced != next.Oxide {
			return false
		}
		if !isPart(converted, m.Carbonate, b.Convert) || !isPart(reduced, m.Oxide, b.Reduce) || !isPart(evaporated, m.Barium, b.Evaporate) {
			return false
		}
	}
	return true
}

// isPart reports whether a number may be a part.
func isPart(n, amount int, rate api.Range) bool {
	return down(amount*rate.Lo) <= n && n <= up(amount*rate.Hi)
}
