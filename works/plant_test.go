package works

import (
	"math"
	"slices"
	"strings"
	"testing"

	"thermion/api"
)

// modelFaults are the faults of a model of plantX, in the order in which they are found.
func modelFaults(n int) []fault[api.Plant] {
	m := func(change func(m *api.Model)) func(p *api.Plant) {
		return func(p *api.Plant) { change(&p.Models[n]) }
	}
	l := []fault[api.Plant]{{m(func(m *api.Model) { m.Name = "" }), api.ErrForm}, {m(func(m *api.Model) { m.Name = "ABCDE" }), api.ErrForm}, {m(func(m *api.Model) { m.Name = "El" }), api.ErrForm}, {m(func(m *api.Model) { m.Name = "E[" }), api.ErrForm}, {m(func(m *api.Model) { m.Name = "@" }), api.ErrForm}, {m(func(m *api.Model) { m.Name = "É" }), api.ErrForm}, {m(func(m *api.Model) { m.Name = "E " }), api.ErrForm}}
	if n > 0 {
		l = append(l, fault[api.Plant]{m(func(m *api.Model) { m.Name = "EL" }), api.ErrExists})
	}
	last := n // each model has as many tests as its number, and one more
	return append(l, []fault[api.Plant]{
		{m(func(m *api.Model) { m.Line = 0 }), api.ErrRange}, {m(func(m *api.Model) { m.Line = 27 }), api.ErrRange},
		{m(func(m *api.Model) { m.Nickel = -1 }), api.ErrRange}, {m(func(m *api.Model) { m.Nickel = 1001 }), api.ErrRange}, {m(func(m *api.Model) { m.Mica = -1 }), api.ErrRange}, {m(func(m *api.Model) { m.Mica = 1001 }), api.ErrRange}, {m(func(m *api.Model) { m.Barium = -1 }), api.ErrRange}, {m(func(m *api.Model) { m.Barium = 1001 }), api.ErrRange}, {m(func(m *api.Model) { m.Glass = -1 }), api.ErrRange}, {m(func(m *api.Model) { m.Glass = 1001 }), api.ErrRange},
		{m(func(m *api.Model) { m.Limits = nil }), api.ErrShort}, {m(func(m *api.Model) { m.Limits = make([]api.Range, 5) }), api.ErrFull}, {m(func(m *api.Model) { m.Tol = nil }), api.ErrForm}, {m(func(m *api.Model) { m.Tol = make([]int, last+2) }), api.ErrForm}, {m(func(m *api.Model) { m.Limits, m.Tol = make([]api.Range, 4), make([]int, 5) }), api.ErrForm},
		{m(func(m *api.Model) { m.Limits[0] = of(2, 1) }), api.ErrOrder}, {m(func(m *api.Model) { m.Limits[last] = of(math.MaxInt, math.MinInt) }), api.ErrOrder},
		{m(func(m *api.Model) { m.Tol[0] = -1 }), api.ErrRange}, {m(func(m *api.Model) { m.Tol[last] = 1000001 }), api.ErrRange},
		{m(func(m *api.Model) { m.Coat.Amount = 0 }), api.ErrRange}, {m(func(m *api.Model) { m.Coat.Bands = nil }), api.ErrShort}, {m(func(m *api.Model) { m.Coat.Bands[0].From = 1 }), api.ErrOrder}, {m(func(m *api.Model) { m.Demand.Barium = -1 }), api.ErrRange},
	}...)
}

// programFaults are the faults of a program of plantX, in the order in which they are found.
func programFaults(n int) []fault[api.Plant] {
	x := func(change func(x *api.Program)) fault[api.Plant] {
		return fault[api.Plant]{func(p *api.Plant) { change(&p.Programs[n]) }, api.ErrRange}
	}
	with := func(e api.Errno, f fault[api.Plant]) fault[api.Plant] { return fault[api.Plant]{f.change, e} }
	return []fault[api.Plant]{
		with(api.ErrShort, x(func(x *api.Program) { x.Vacuum.Vessels = nil })), with(api.ErrMissing, x(func(x *api.Program) { x.Vacuum.Pumps[0].At = 4 })), with(api.ErrFull, x(func(x *api.Program) { x.Bakes = make([]api.Bake, 21) })), x(func(x *api.Program) { x.Bakes[0].Ticks = 2001 }), with(api.ErrOver, x(func(x *api.Program) { x.Bakes = []api.Bake{{Ticks: 2000}, {Ticks: 1}} })),
		x(func(x *api.Program) { x.Slots = 0 }), x(func(x *api.Program) { x.Slots = -1 }), x(func(x *api.Program) { x.Slots = 5 }), x(func(x *api.Program) { x.Limit = -1 }),
	}
}

// ruleFaults are the faults of the second rule of plantX, in the order in which they are found.
func ruleFaults() []fault[api.Plant] {
	x := func(e api.Errno, change func(x *api.Rule)) fault[api.Plant] {
		return fault[api.Plant]{func(p *api.Plant) { change(&p.Rules[1]) }, e}
	}
	l := []fault[api.Plant]{x(api.ErrKind, func(x *api.Rule) { x.Verb = "" }), x(api.ErrKind, func(x *api.Rule) { x.Verb = "Sell" }), x(api.ErrKind, func(x *api.Rule) { x.Verb = "sell " }), x(api.ErrKind, func(x *api.Rule) { x.Verb = "error" })}
	wrong := []string{"", "Hood", "hood1", "abcdefghijklm", "a b", "`", "{", "é", "\xff"}
	l = append(l, x(api.ErrFull, func(x *api.Rule) { x.Needs = slices.Repeat([]string{"a"}, 7) }))
	for _, name := range wrong {
		l = append(l, x(api.ErrForm, func(x *api.Rule) { x.Needs[1] = name }))
	}
	l = append(l, x(api.ErrFull, func(x *api.Rule) { x.Bars = make([]string, 7) }))
	for _, name := range wrong {
		l = append(l, x(api.ErrForm, func(x *api.Rule) { x.Bars[1] = name }))
	}
	return l
}

// plantFaults are the faults of plantX, in the order in which they are found.
func plantFaults() []fault[api.Plant] {
	return slices.Concat([]fault[api.Plant]{{func(p *api.Plant) { p.Models = nil }, api.ErrShort}, {func(p *api.Plant) { p.Models = make([]api.Model, 7) }, api.ErrFull}},
		modelFaults(0), modelFaults(1),
		[]fault[api.Plant]{
			{func(p *api.Plant) { p.Schedules = make([][]api.Heating, 9) }, api.ErrFull}, {func(p *api.Plant) { p.Schedules[0][0].Ticks = 0 }, api.ErrRange}, {func(p *api.Plant) { p.Schedules[1] = slices.Repeat([]api.Heating{heatingH()}, 41) }, api.ErrFull}, {func(p *api.Plant) { p.Schedules[1] = slices.Repeat([]api.Heating{{Ticks: 2000}}, 11) }, api.ErrLong},
			{func(p *api.Plant) { p.Bench = slices.Repeat(benchB()[:1], 13) }, api.ErrFull}, {func(p *api.Plant) { p.Bench[1].Step = 0 }, api.ErrRange}, {func(p *api.Plant) { p.Bench[0].By = 1 }, api.ErrLoose},
			{func(p *api.Plant) { p.Programs = make([]api.Program, 7) }, api.ErrFull},
		},
		programFaults(0), programFaults(1),
		[]fault[api.Plant]{{func(p *api.Plant) { p.Rules = slices.Repeat(p.Rules, 11)[:21] }, api.ErrFull}, {func(p *api.Plant) { p.Rules[0].Verb = "run" }, api.ErrKind}, {func(p *api.Plant) { p.Rules[0].Needs[0] = "-" }, api.ErrForm}},
		ruleFaults(),
		[]fault[api.Plant]{{func(p *api.Plant) { p.Week = 0 }, api.ErrRange}, {func(p *api.Plant) { p.Week = 1000001 }, api.ErrRange}},
	)
}

// P10.1: Check finds each error of a plant, and the first one if there are several.
func TestCheck(t *testing.T) {
	inOrder(t, plantX, plantFaults(), Check)
	for i, change := range []func(p *api.Plant){
		func(p *api.Plant) { *p = plantP() },
		func(p *api.Plant) { p.Schedules, p.Bench, p.Programs, p.Rules = nil, nil, nil, nil },
		func(p *api.Plant) {
			p.Schedules, p.Bench, p.Programs, p.Rules = [][]api.Heating{}, []api.Meter{}, []api.Program{}, []api.Rule{}
		},
		func(p *api.Plant) {
			for _, name := range []string{"A", "Z", "ABCD", "AZAZ"} {
				p.Models = append(p.Models, changed(p.Models[0], func(m *api.Model) { m.Name = name }))
			}
		},
		func(p *api.Plant) { p.Models[0].Line, p.Models[1].Line = 1, 26 },
		func(p *api.Plant) {
			p.Models[0].Nickel, p.Models[0].Mica, p.Models[0].Barium, p.Models[0].Glass = 0, 0, 0, 0
		},
		func(p *api.Plant) {
			p.Models[0].Nickel, p.Models[0].Mica, p.Models[0].Barium, p.Models[0].Glass = 1000, 1000, 1000, 1000
		},
		func(p *api.Plant) { p.Models[1].Limits, p.Models[1].Tol = make([]api.Range, 4), make([]int, 4) },
		func(p *api.Plant) {
			p.Models[1].Limits[0], p.Models[1].Limits[1] = of(math.MinInt, math.MaxInt), one(1<<50)
		},
		func(p *api.Plant) { p.Models[1].Tol[0], p.Models[1].Tol[1] = 0, 1000000 },
		func(p *api.Plant) { p.Models[0].Demand = api.Demand{} }, // nobody need be able to keep it
		func(p *api.Plant) { p.Schedules = make([][]api.Heating, 8) },
		func(p *api.Plant) { p.Schedules[0] = slices.Repeat([]api.Heating{{Ticks: 500}}, 40) },
		func(p *api.Plant) { p.Bench = slices.Repeat(benchB()[:1], 12) },
		func(p *api.Plant) { p.Programs = slices.Repeat(p.Programs, 3) },
		func(p *api.Plant) { p.Programs[1].Slots = 4 },
		func(p *api.Plant) { p.Programs[0].Limit, p.Programs[1].Limit = 0, math.MaxInt },
		func(p *api.Plant) { p.Programs[0].Bakes = nil },
		func(p *api.Plant) { p.Programs[0].Bakes = slices.Repeat([]api.Bake{{Ticks: 100}}, 20) },
		func(p *api.Plant) { p.Rules = slices.Repeat(p.Rules, 10) },
		func(p *api.Plant) {
			p.Rules[0].Needs, p.Rules[1].Bars = slices.Repeat([]string{"a"}, 6), slices.Repeat([]string{"zzzzzzzzzzzz"}, 6)
		},
		func(p *api.Plant) { p.Rules[0] = api.Rule{Verb: "stock", Needs: []string{"a"}, Bars: []string{"a"}} },
		func(p *api.Plant) { p.Week = 1 }, func(p *api.Plant) { p.Week = 1000000 },
	} {
		if e := Check(changed(plantX(), change)); e != api.OK {
			t.Error(i, e)
		}
	}
	for _, verb := range []string{"tick", "guard", "free", "buy", "lot", "mount", "pump", "show", "judge", "sell", "scrap", "pairs", "trace", "stock"} {
		if e := Check(changed(plantX(), func(p *api.Plant) { p.Rules[1].Verb = verb })); e != api.OK {
			t.Error(verb, e)
		}
	}
}

// sheetFaults are sheets that have errors, in the order in which these are found.
func sheetFaults() []fault[string] {
	return []fault[string]{
		{func(s *string) { *s = strings.Repeat("\n", 20001) }, api.ErrLong}, {func(s *string) { *s = strings.Repeat("x", 20001) }, api.ErrLong},
		{func(s *string) { *s += "tick 1" }, api.ErrForm}, {func(s *string) { *s += "x" }, api.ErrForm}, {func(s *string) { *s += "\n " }, api.ErrForm},
		{func(s *string) { *s = strings.Repeat("\n", 301) }, api.ErrFull}, {func(s *string) { *s = strings.Repeat("tick 1\n", 301) }, api.ErrFull}, {func(s *string) { *s = strings.Repeat("\n", 19990) }, api.ErrFull},
	}
}

// P10.1, R1, R3: Run, Keep and Log return the error of the plant, then that of the sheet, and nothing else with it.
func TestErrorsOfSheets(t *testing.T) {
	all := func(p api.Plant, s string) api.Errno {
		text, e := Run(p, s)
		b, e2 := Keep(p, s)
		log, e3 := Log(p, s)
		if e2 != e || e3 != e || e != api.OK && (text != "" || !same(b, api.Books{}) || b.Accounts != nil || log != "") {
			t.Error(text, b, log, e, e2, e3)
		}
		return e
	}
	inOrder(t, func() string { return "tick 1\n" }, sheetFaults(), func(s string) api.Errno { return all(plantX(), s) })
	for i, f := range plantFaults() {
		p := changed(plantX(), f.change)
		for _, s := range []string{"", "tick 1\n", "x", strings.Repeat("\n", 301), strings.Repeat("x", 20001)} {
			if e := all(p, s); e != f.want {
				t.Error(i, e)
			}
		}
	}
	for i, s := range []string{"", "\n", strings.Repeat("\n", 300), strings.Repeat(" ", 19999) + "\n", strings.Repeat("tick 1\n", 300), "pump 0" + strings.Repeat(" 1", 9996) + "\n"} {
		if e := all(plantX(), s); e != api.OK {
			t.Error(i, e)
		}
	}
}
