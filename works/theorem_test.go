package works

import (
	"fmt"
	"slices"
	"strings"
	"testing"

	"thermion/api"
	"thermion/cathode"
	"thermion/gauge"
	"thermion/match"
	"thermion/pump"
)

// words returns the words of a row.
func words(line string) []string { return strings.Split(line, " ") }

// P10.3: of each material all accounts together are what was bought, and none is below 0, after each line.
func TestAccounts(t *testing.T) {
	moved := 0
	works(t, 2, 60, func(d *dice, p api.Plant, lines []string) {
		replies := repliesTo(t, p, lines...)
		bought := map[string]int{}
		for i, line := range lines {
			if w := words(line); w[0] == "buy" && replies[i] == "ok" {
				bought[w[1]] += numbersIn(w[2])[0]
			}
			b := kept(t, p, lines[:i+1]...)
			for n, name := range []string{"nickel", "mica", "barium", "glass"} {
				a := b.Accounts[n]
				if min(a.Store, a.Used, a.Scrap, a.Sold) < 0 || a.Store+a.Used+a.Scrap+a.Sold != bought[name] || len(b.Accounts) != 4 {
					t.Fatal(i, line, b.Accounts)
				}
				if a.Used > 0 && a.Scrap > 0 && a.Sold > 0 {
					moved++
				}
			}
		}
	})
	if moved < 100 {
		t.Error(moved)
	}
}

// P10.4: what is sold is of a sure lot, from a vessel that may be sealed for sure, and has a sheet that is Sure; its mark is read, with its number, and only its own.
func TestSold(t *testing.T) {
	sold := 0
	works(t, 3, 300, func(d *dice, p api.Plant, lines []string) {
		replies := repliesTo(t, p, lines...)
		marks := map[string]bool{}
		for i, line := range lines {
			if verbOf(line) != "sell" || isError(replies[i]) {
				continue
			}
			sold++
			b, n := kept(t, p, lines[:i]...), numbersIn(line)[0]
			v := b.Valves[n-1]
			lot, program := b.Batches[v.Batch-1], p.Programs[b.Runs[v.Run-1]]
			m := p.Models[lot.Model]
			verdict, _, e := cathode.Judge(m.Coat, m.Demand, p.Schedules[lot.Schedule])
			gas, e2 := pump.Run(program.Vacuum, program.Bakes)
			may, e3 := pump.Seal(program.Vacuum, gas, v.Vessel, program.Limit)
			good, _, e4 := gauge.Sheet(p.Bench, b.Tick, m.Limits, v.Tests)
			if verdict != api.Sure || may != api.Sure || good != api.Sure || e != api.OK || e2 != api.OK || e3 != api.OK || e4 != api.OK {
				t.Error(line, v, verdict, may, good)
			}
			mark, e := match.Parse(replies[i])
			if e != api.OK || mark.Number != n || mark.Type != m.Name || mark.Line != m.Line || marks[replies[i]] {
				t.Error(line, replies[i], mark, e)
			}
			marks[replies[i]] = true
		}
		for n, v := range kept(t, p, lines...).Valves {
			if (v.Mark != "") != (v.State == api.ValveSold) || v.Mark != "" && !marks[v.Mark] {
				t.Error(n+1, v)
			}
		}
	})
	if sold < 30 {
		t.Error(sold)
	}
}

// P10.5: tubes are sealed by runs alone, none is in two of them, and no more are mounted than were made.
func TestSealed(t *testing.T) {
	count := 0
	works(t, 4, 300, func(d *dice, p api.Plant, lines []string) {
		replies := repliesTo(t, p, lines...)
		runs, signs := map[int]int{}, map[int]string{} // by tube
		for i, line := range lines {
			if verbOf(line) != "pump" || isError(replies[i]) {
				continue
			}
			l := numbersIn(replies[i])
			for k, n := range l[1:] {
				if runs[n] != 0 {
					t.Error(line, n)
				}
				w := words(replies[i])[k+2]
				runs[n], signs[n] = l[0], w[len(w)-1:]
			}
		}
		b := kept(t, p, lines...)
		mounted, places := map[int]int{}, map[[2]int]bool{}
		for i, v := range b.Valves {
			mounted[v.Batch]++
			if v.Run != runs[i+1] || v.State == api.ValveSealed != (signs[i+1] == "+" && v.State != api.ValveLost && v.State != api.ValveSold) || v.State == api.ValveOpen != (v.Run == 0 && v.State != api.ValveLost) || v.Run > len(b.Runs) {
				t.Error(i+1, v)
			}
			if place := [2]int{v.Run, v.Vessel}; v.Run != 0 {
				if places[place] || v.Vessel < 0 || v.Vessel >= p.Programs[b.Runs[v.Run-1]].Slots {
					t.Error(i+1, v)
				}
				places[place] = true
				count++
			}
		}
		for i, lot := range b.Batches {
			if mounted[i+1] > lot.Made || lot.Verdict == api.Sure && mounted[i+1]+lot.Left != lot.Made || lot.Verdict != api.Sure && mounted[i+1]+lot.Left > 0 {
				t.Error(i+1, lot, mounted[i+1])
			}
		}
	})
	if count < 200 {
		t.Error(count)
	}
}

// P10.6: replies do not depend on the lines behind, nor on lines with errors.
func TestTogether(t *testing.T) {
	errors := 0
	works(t, 5, 200, func(d *dice, p api.Plant, lines []string) {
		replies := repliesTo(t, p, lines...)
		k := d.upTo(len(lines) + 1)
		if l := repliesTo(t, p, lines[:k]...); !slices.Equal(l, replies[:k]) {
			t.Error(k, l, replies[:k])
		}
		var good, want []string
		for i, line := range lines {
			if isError(replies[i]) && d.upTo(3) > 0 { // any of them
				errors++
				continue
			}
			good, want = append(good, line), append(want, replies[i])
		}
		if l := repliesTo(t, p, good...); !slices.Equal(l, want) {
			t.Error(good, l, want)
		}
		if a, b := kept(t, p, lines...), kept(t, p, good...); !same(a, b) {
			t.Error(good, a, b)
		}
		if a, b := logged(t, p, lines...), logged(t, p, good...); a != b {
			t.Error(good, a, b)
		}
	})
	if errors < 1000 {
		t.Error(errors)
	}
}

// P10.7: without rules there are no errors of rules; with one that needs a guard, lines of its verb are done only behind one that puts it up (and with one that a guard bars, only while it is down).
func TestGuardsOfRules(t *testing.T) {
	free, held := 0, 0
	works(t, 6, 300, func(d *dice, p api.Plant, lines []string) {
		for i, r := range repliesTo(t, bare(p), lines...) {
			if slices.Contains([]string{"tick", "guard", "free", "buy", "lot", "mount", "pairs", "trace", "stock"}, verbOf(lines[i])) {
				free++
				if r == "error 10" {
					t.Error(i, lines[i])
				}
			}
		}
		up := map[string]bool{}
		for i, r := range repliesTo(t, p, lines...) {
			if isError(r) {
				continue
			}
			for _, rule := range p.Rules {
				for _, name := range rule.Needs {
					if rule.Verb == verbOf(lines[i]) && !up[name] {
						t.Error(i, lines[i], name)
					}
				}
				for _, name := range rule.Bars {
					if rule.Verb == verbOf(lines[i]) && up[name] {
						t.Error(i, lines[i], name)
					}
				}
				if rule.Verb == verbOf(lines[i]) && len(rule.Needs) > 0 {
					held++
				}
			}
			if w := words(lines[i]); w[0] == "guard" || w[0] == "free" {
				up[w[1]] = w[0] == "guard"
			}
		}
	})
	if free < 5000 || held < 200 {
		t.Error(free, held)
	}
}

// P10.8: the log of a sheet is read as the entries that were shown.
func TestLogsOfSheets(t *testing.T) {
	shown := 0
	works(t, 7, 200, func(d *dice, p api.Plant, lines []string) {
		var want []api.Entry
		tick := 0
		for i, r := range repliesTo(t, p, lines...) {
			switch w := words(lines[i]); {
			case r != "ok":
			case w[0] == "tick":
				tick += numbersIn(w[1])[0]
			case w[0] == "show":
				n := numbersIn(lines[i])
				if w[4][0] == '-' {
					n[3] = -n[3]
				}
				want = append(want, api.Entry{Tick: tick, Valve: n[0], Test: n[1], Meter: n[2], Number: n[3]})
			}
		}
		log := logged(t, p, lines...)
		l, line, e := Read(log)
		if e != api.OK || line != 0 || !slices.Equal(l, want) {
			t.Error(log, l, want, e)
		}
		if s, e := Write(l); s != log || e != api.OK {
			t.Error(s, log, e)
		}
		for _, x := range want { // and each number stands in the books
			if !slices.Contains(kept(t, p, lines...).Valves[x.Valve-1].Tests[x.Test], api.Shown{Meter: x.Meter, Number: x.Number}) {
				t.Error(x)
			}
		}
		shown += len(l)
	})
	if shown < 300 {
		t.Error(shown)
	}
}

// P10.9: pairs are of sealed tubes of the model, none of which is in two.
func TestTubesOfPairs(t *testing.T) {
	pairs := 0
	works(t, 8, 500, func(d *dice, p api.Plant, lines []string) {
		for i := range p.Models {
			for k := range p.Models[i].Tol {
				p.Models[i].Tol[k] = oneOf(d, 100, 1000)
			}
		}
		for i := range lines {
			if d.upTo(5) == 0 || verbOf(lines[i]) == "sell" || verbOf(lines[i]) == "scrap" {
				lines[i] = "pairs " + p.Models[d.upTo(len(p.Models))].Name
			}
		}
		for i, r := range repliesTo(t, p, lines...) {
			if verbOf(r) != "pairs" || r == "pairs" {
				continue
			}
			b, last := kept(t, p, lines[:i]...), 0
			l := numbersIn(r)
			for k, n := range l {
				if v := b.Valves[n-1]; v.State != api.ValveSealed || "pairs "+p.Models[b.Batches[v.Batch-1].Model].Name != lines[i] || slices.Contains(l[:k], n) {
					t.Error(lines[i], r, n)
				}
			}
			for k := 0; k < len(l); k += 2 { // the lesser one first, ascending
				if l[k] <= last || l[k+1] <= l[k] {
					t.Error(r)
				}
				last = l[k]
				pairs++
			}
		}
	})
	if pairs < 50 {
		t.Error(pairs)
	}
}

// P10.10: lines that ask change nothing.
func TestAsking(t *testing.T) {
	asked := 0
	works(t, 9, 200, func(d *dice, p api.Plant, lines []string) {
		var all []string
		var added []int
		for _, line := range lines {
			for d.upTo(3) == 0 && len(added) < 100 {
				added = append(added, len(all))
				all = append(all, oneOf(d, "judge "+fmt.Sprint(d.from(1, 4)), "pairs "+p.Models[0].Name, "trace "+fmt.Sprint(d.from(1, 4)), "stock "+oneOf(d, "nickel", "mica", "barium", "glass")))
			}
			all = append(all, line)
		}
		replies := repliesTo(t, p, all...)
		for _, i := range slices.Backward(added) {
			if !isError(replies[i]) {
				asked++
			}
			replies = slices.Delete(replies, i, i+1)
		}
		if l := repliesTo(t, p, lines...); !slices.Equal(l, replies) {
			t.Error(lines, l, replies)
		}
		if a, b := kept(t, p, lines...), kept(t, p, all...); !same(a, b) {
			t.Error(lines, a, b)
		}
		if a, b := logged(t, p, lines...), logged(t, p, all...); a != b {
			t.Error(lines, a, b)
		}
	})
	if asked < 1000 {
		t.Error(asked)
	}
}

// T7: what is sold truly lies in the limits, and tubes that are paired truly differ by no more than the tolerances.
func TestTrueValues(t *testing.T) {
	sold, pairs := 0, 0
	d := dice(10)
	for range 200 {
		p := bare(plantP())
		p.Bench = d.bench()
		m := &p.Models[0]
		m.Limits, m.Tol = nil, nil
		for range d.from(1, 2) {
			lo := d.from(-100, 100)
			m.Limits, m.Tol = append(m.Limits, of(lo, lo+d.from(20, 100))), append(m.Tol, d.from(10, 50))
		}
		l, values := sealed(d.from(2, 14)), [][]int{nil}
		var lines []string
		for i := 0; i < len(l); i += 2 {
			lines = append(lines, l[i])
		}
		tubes := len(kept(t, p, lines...).Valves)
		for n := range tubes {
			var v []int
			for k, r := range m.Limits {
				v = append(v, d.from(r.Lo-5, r.Hi+5))
				for range d.from(1, 4) {
					meter := d.upTo(len(p.Bench))
					lines = append(lines, fmt.Sprintf("show %d %d %d %d", n+1, k, meter, d.shownBy(p.Bench, meter, v[k])))
				}
			}
			values = append(values, v)
		}
		lines = append(lines, "pairs EL")
		replies := repliesTo(t, p, lines...)
		paired := numbersIn(replies[len(replies)-1])
		for i := 0; i < len(paired); i += 2 {
			for k, tol := range m.Tol {
				if a, b := values[paired[i]][k], values[paired[i+1]][k]; a-b > tol || b-a > tol {
					t.Error(p, paired[i:i+2], a, b)
				}
			}
			pairs++
		}
		for n := range tubes {
			lines = append(lines, fmt.Sprint("sell ", n+1))
		}
		for i, r := range repliesTo(t, p, lines...)[len(replies):] {
			if isError(r) {
				continue
			}
			sold++
			for k, limits := range m.Limits {
				if x := values[i+1][k]; x < limits.Lo || limits.Hi < x {
					t.Error(p, i+1, x)
				}
			}
		}
	}
	if sold < 200 || pairs < 50 {
		t.Error(sold, pairs)
	}
}

// part returns a whole number that may truly be a part of an amount, by a rate per million.
func (d *dice) part(amount int, rate api.Range) int {
	return d.from(amount*rate.Lo/1000000, (amount*rate.Hi+999999)/1000000)
}

// course returns a course of a coat whose bands have no use for currents, in a schedule.
func (d *dice) course(c api.Coat, schedule []api.Heating) []api.Mix {
	x, heat := api.Mix{Carbonate: c.Amount}, 300
	l := []api.Mix{x}
	for _, h := range schedule {
		for range h.Ticks {
			heat += max(-c.Slew, min(c.Slew, h.Heat-heat))
			var b api.Band
			for _, band := range c.Bands {
				if band.From <= heat {
					b = band
				}
			}
			became, reduced, lost := d.part(x.Carbonate, b.Convert), d.part(x.Oxide, b.Reduce), d.part(x.Barium, b.Evaporate)
			x = api.Mix{Carbonate: x.Carbonate - became, Oxide: x.Oxide + became - reduced, Barium: x.Barium + reduced - lost, Lost: x.Lost + lost}
			l = append(l, x)
		}
	}
	return l
}

// T8: each possible course of a cathode of a lot that is sure keeps the demand; of one that is never right none does.
func TestCourses(t *testing.T) {
	d := dice(11)
	count := map[string]int{}
	for range 400 {
		p := bare(plantP())
		schedule := []api.Heating{{Ticks: d.from(1, 6), Heat: d.from(900, 1300)}, {Ticks: d.from(1, 20), Heat: d.from(900, 1300)}}
		p.Schedules = [][]api.Heating{schedule}
		p.Models[0].Demand = api.Demand{Gas: d.from(150, 400), Wear: 1 << 40, Lost: oneOf(&d, 0, 60, 100), Rest: d.from(300, 1000), Barium: oneOf(&d, 0, 0, 100)}
		c, demand := p.Models[0].Coat, p.Models[0].Demand
		verdict := repliesTo(t, p, "buy nickel 5", "buy barium 1", "lot EL 1 0")[2]
		count[verdict]++
		for range 20 {
			l := d.course(c, schedule)
			if !cathode.Possible(c, schedule, l) {
				t.Fatal(p, l)
			}
			last := l[len(l)-1]
			keeps := last.Carbonate <= demand.Rest && last.Barium >= demand.Barium
			for i, x := range l[1:] {
				keeps = keeps && l[i].Carbonate-x.Carbonate <= demand.Gas && x.Lost <= demand.Lost
			}
			if verdict == "lot 1 sure" && !keeps || verdict == "lot 1 never" && keeps {
				t.Error(verdict, schedule, demand, l)
			}
		}
	}
	if count["lot 1 sure"] < 50 || count["lot 1 never"] < 50 || count["lot 1 unsure"] < 50 {
		t.Error(count)
	}
}
