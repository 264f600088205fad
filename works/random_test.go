package works

import (
	"fmt"
	"slices"
	"testing"

	"thermion/api"
	"thermion/gauge"
)

// plant returns a valid plant.
func (d *dice) plant() api.Plant {
	p := api.Plant{Week: oneOf(d, 1, 7, 100), Bench: d.bench()}
	for _, name := range []string{"EL", "PL", "ABCD"}[:d.from(1, 3)] {
		m := api.Model{Name: name, Line: d.from(1, 26), Coat: coatK(), Demand: api.Demand{Gas: oneOf(d, 200, 200, 200, 150, 99), Wear: 9, Lost: 9, Rest: 1000}, Nickel: d.upTo(6), Mica: d.upTo(6), Barium: d.upTo(6), Glass: d.upTo(20)}
		for range d.from(1, oneOf(d, 1, 1, 4)) {
			lo := d.from(-100, 100)
			m.Limits = append(m.Limits, of(lo, lo+d.from(20, 400)))
			m.Tol = append(m.Tol, oneOf(d, 30, 100, 300))
		}
		p.Models = append(p.Models, m)
	}
	p.Schedules = [][]api.Heating{{heatingH()}, {{Ticks: 1, Heat: 1100}, {Ticks: 1, Heat: 1200}}, nil, {heatingH(), {Ticks: 9, Heat: 1300}}}[:d.from(1, 4)]
	for range d.from(1, 3) {
		p.Programs = append(p.Programs, d.program())
	}
	names := []string{"screen", "hood", "flame"}
	for range oneOf(d, 0, 0, 1, 2, 4) {
		r := api.Rule{Verb: oneOf(d, "tick", "buy", "lot", "mount", "pump", "pump", "show", "judge", "sell", "scrap", "pairs", "trace", "stock", "guard", "free")}
		for range d.upTo(3) {
			r.Needs = append(r.Needs, oneOf(d, names...))
		}
		if d.upTo(6) == 0 {
			r.Bars = append(r.Bars, oneOf(d, names...))
		}
		p.Rules = append(p.Rules, r)
	}
	return p
}

// bench returns a valid bench of at least one meter.
func (d *dice) bench() []api.Meter {
	var l []api.Meter
	for n := range d.from(1, 4) {
		m := api.Meter{Gain: one(1000000), Step: oneOf(d, 1, 5, 10), By: d.from(-1, n-1), Due: oneOf(d, 20, 60, 200, 1000000000)}
		switch d.upTo(3) {
		case 0:
			m.Gain, m.Off = of(990000, 1010000), of(-5, 5)
		case 1:
			m.Gain, m.Step = one(2000000), 1
		}
		l = append(l, m)
	}
	return l
}

// program returns a valid program, in which most vessels can be sealed.
func (d *dice) program() api.Program {
	x := api.Program{Bakes: []api.Bake{{Ticks: d.from(6, 9)}}, Limit: oneOf(d, 200, 300, 1000)}
	for n := range d.from(1, 5) {
		x.Vacuum.Vessels = append(x.Vacuum.Vessels, api.Vessel{Volume: 10, Free: oneOf(d, one(1000), one(1000), of(1, 4))})
		if d.upTo(5) > 0 {
			x.Vacuum.Pumps = append(x.Vacuum.Pumps, api.Pump{At: n, Part: one(500000)})
		}
	}
	x.Slots = d.from(1, len(x.Vacuum.Vessels))
	return x
}

// line returns a line for a works: one that helps, or any one.
func (d *dice) line(x *plain) string {
	for n, b := range x.lots { // mostly there is something left of one of the last lots
		if b.Left > 0 && d.upTo(9) == 0 {
			return fmt.Sprint("mount ", n+1)
		}
	}
	switch d.upTo(16) {
	case 0, 1:
		m := x.p.Models[d.upTo(len(x.p.Models))]
		return fmt.Sprintf("lot %s %d %d", m.Name, d.from(1, 9), d.upTo(len(x.p.Schedules)))
	case 2:
		return d.pumping(x)
	case 3, 4, 5, 6, 7:
		return d.showing(x, d.tube(x))
	case 8:
		return oneOf(d, "judge ", "judge ", "sell ") + fmt.Sprint(d.tube(x))
	}
	return d.anyLine(x)
}

// anyLine returns a line for a works, which often cannot be done.
func (d *dice) anyLine(x *plain) string {
	tube, model := d.tube(x), x.p.Models[d.upTo(len(x.p.Models))]
	name := oneOf(d, "screen", "hood", "flame", "a", "b", "c", "d", "e")
	material := oneOf(d, "nickel", "mica", "barium", "glass")
	switch d.upTo(24) {
	case 0:
		return fmt.Sprint("tick ", oneOf(d, 0, 1, 2, 3, 10, oneOf(d, 0, 60, 999999999)))
	case 1, 2, 3:
		return "guard " + name
	case 4:
		return oneOf(d, "free ", "free ", "guard ") + name
	case 5:
		return fmt.Sprintf("buy %s %d", material, oneOf(d, 0, 5, 20, 60, 999990))
	case 6, 7:
		return fmt.Sprintf("lot %s %d %d", oneOf(d, model.Name, model.Name, model.Name, "XX"), oneOf(d, 0, 1, 2, 3, 5, 9, 61), d.upTo(len(x.p.Schedules)+oneOf(d, 0, 0, 1)))
	case 8, 9, 10:
		return fmt.Sprint("mount ", oneOf(d, len(x.lots), d.upTo(len(x.lots)+2)))
	case 11, 12, 13:
		return d.pumping(x)
	case 14, 15, 16, 17:
		return d.showing(x, tube)
	case 18:
		return fmt.Sprint("judge ", tube)
	case 19:
		return fmt.Sprint("sell ", tube)
	case 20:
		return fmt.Sprint("scrap ", oneOf(d, tube, 0, len(x.tubes)))
	case 21:
		return "pairs " + oneOf(d, model.Name, model.Name, model.Name, "XX")
	case 22:
		return fmt.Sprint("trace ", tube)
	}
	return "stock " + oneOf(d, material, material, material, "x")
}

// tube returns the number of a tube, often that of one that is sealed, or one that is none.
func (d *dice) tube(x *plain) int {
	n := d.upTo(len(x.tubes) + 2)
	sealed := func(v plainTube) bool { return v.state == "sealed" }
	switch first := slices.IndexFunc(x.tubes, sealed); {
	case first < 0 || d.upTo(4) == 0:
		return n
	case n >= 1 && n <= len(x.tubes) && sealed(*x.tube(n)):
		return n
	default:
		return first + 1
	}
}

// showing returns a line that shows a number of a tube, most of which fit to a value that the tube has.
func (d *dice) showing(x *plain, tube int) string {
	if tube < 1 || tube > len(x.tubes) || d.upTo(8) == 0 {
		return fmt.Sprintf("show %d %d %d %d", tube, d.upTo(5), d.upTo(len(x.p.Bench)+1), oneOf(d, 10*d.from(-10, 40), d.from(-100, 400)))
	}
	test, meter := d.upTo(len(x.tube(tube).tests)), d.upTo(len(x.p.Bench))
	if d.upTo(2) == 0 { // the same ones again and again, up to ten
		test, meter = 0, len(x.p.Bench)-1
	}
	r := x.modelOf(tube).Limits[test]
	value := r.Lo + (37*tube+11*test)%(r.Hi-r.Lo+60)
	shown := d.shownBy(x.p.Bench, meter, value)
	return fmt.Sprintf("show %d %d %d %d", tube, test, meter, oneOf(d, shown, shown, shown, shown, shown+3))
}

// shownBy returns a number that a meter may show of a value.
func (d *dice) shownBy(bench []api.Meter, meter, value int) int {
	seen, step := d.seenBy(bench, meter, value), bench[meter].Step
	for n := seen - step; ; n++ { // the first multiple of the step that is near enough
		if n%step == 0 && 2*(seen-n) <= step {
			return n
		}
	}
}

// seenBy returns what a value may be seen as at a meter: along its chain each meter makes a whole number of what the one behind it made.
func (d *dice) seenBy(bench []api.Meter, meter, value int) int {
	if by := bench[meter].By; by >= 0 {
		value = d.seenBy(bench, by, value)
	}
	r := gauge.Makes(bench[meter], value)
	return d.from(r.Lo, r.Hi)
}

// pumping returns a line that pumps tubes, most of which are open.
func (d *dice) pumping(x *plain) string {
	n := d.upTo(len(x.p.Programs) + oneOf(d, 0, 0, 1))
	s := fmt.Sprint("pump ", n)
	tubes := d.from(1, x.p.Programs[min(n, len(x.p.Programs)-1)].Slots+oneOf(d, 0, 0, 1))
	for range tubes {
		tube := d.from(len(x.tubes)-3, len(x.tubes)+oneOf(d, 0, 1))
		if open := slices.IndexFunc(x.tubes, func(v plainTube) bool { return v.state == "open" }); open >= 0 && d.upTo(4) > 0 {
			tube = open + 1
		}
		s += fmt.Sprint(" ", max(0, tube))
		if d.upTo(2) == 0 {
			break
		}
	}
	return s
}

// lines returns lines for a plant: the first ones buy, make and mount a little, most others can be done.
func (d *dice) lines(p api.Plant, count int) []string {
	x := plainWorks(p)
	var l []string
	add := func(line string) {
		l = append(l, line)
		x.reply(line)
	}
	for _, m := range []string{"nickel", "mica", "barium", "glass"} {
		add(fmt.Sprintf("buy %s %d", m, oneOf(d, 20, 100, 900)))
	}
	for _, r := range p.Rules {
		for _, name := range r.Needs {
			if d.upTo(5) > 0 {
				add("guard " + name)
			}
		}
	}
	for len(l) < count {
		add(d.line(x))
	}
	return l
}

// works calls f with valid plants, and with lines for them.
func works(t *testing.T, seed dice, count int, f func(d *dice, p api.Plant, lines []string)) {
	t.Helper()
	d := &seed
	for i := range count {
		p := d.plant()
		if e := Check(p); e != api.OK {
			t.Fatal(p, e)
		}
		lines := d.lines(p, d.from(1, 200))
		f(d, p, lines)
		if t.Failed() {
			t.Fatal("case ", i, ": ", p, lines)
		}
	}
}
