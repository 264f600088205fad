package works

import (
	"fmt"
	"slices"
	"testing"

	"thermion/api"
)

// P10.1: what meters show is noted, test by test.
func TestShow(t *testing.T) {
	p := bare(plantX())
	p.Models[1].Demand.Gas = 200
	l := after(store(1000), "lot PL 2 0", "lot 1 sure", "mount 1", "tube 1", "mount 1", "tube 2", "pump 0 2", "run 1 2+", "show 2 1 0 10", "ok", "show 2 0 1 500", "ok", "tick 3", "ok", "show 2 1 0 10", "ok", "show 2 1 1 -12", "ok", "trace 2", "tube 2 lot 1 schedule 0 run 1 tests 4 sealed")
	try(t, p, l...)
	var lines []string
	for i := 0; i < len(l); i += 2 {
		lines = append(lines, l[i])
	}
	want := [][]api.Shown{{{Meter: 1, Number: 500}}, {{Meter: 0, Number: 10}, {Meter: 0, Number: 10}, {Meter: 1, Number: -12}}}
	if b := kept(t, p, lines...); !slices.EqualFunc(b.Valves[1].Tests, want, slices.Equal[[]api.Shown]) || b.Tick != 3 {
		t.Error(b)
	}
	if text := logged(t, p, lines...); text != "0 2 1 0 10\n0 2 0 1 500\n3 2 1 0 10\n3 2 1 1 -12\n" {
		t.Error(text)
	}
}

// P10.1: the errors of what is shown, in their order.
func TestErrorsOfShowing(t *testing.T) {
	p := bare(plantX())
	l := after(mounted(2), "pump 0 1", "run 1 1+") // the tube 2 is open
	try(t, p, after(l, "show 0 0 0 110", "error 7", "show 3 0 0 110", "error 7", "show 2 1 0 110", "error 7", "show 2 0 9 110", "error 10", "show 2 0 0 110", "error 10", "show 1 1 0 110", "error 7", "show 1 0 3 110", "error 7", "show 1 0 0 105", "error 3", "show 1 0 2 1", "error 12", "show 1 0 2 -3", "error 12", "show 1 0 0 999999999", "error 3", "show 1 0 0 999999990", "ok")...)
	// Due is the last tick at which a meter may be used.
	try(t, p, after(l, "tick 50", "ok", "show 1 0 1 110", "ok", "tick 1", "ok", "show 1 0 1 110", "error 10", "show 1 0 0 105", "error 3", "show 1 0 0 110", "ok", "tick 49", "ok", "show 1 0 0 110", "ok", "tick 1", "ok", "show 1 0 0 110", "error 10", "show 1 0 0 105", "error 10", "show 1 0 3 105", "error 7", "tick 999999898", "ok", "tick 1", "ok", "show 1 0 2 220", "ok")...)
	// Ten numbers in a test.
	for range 10 {
		l = append(l, "show 1 0 0 110", "ok")
	}
	try(t, p, after(l, "show 1 0 0 110", "error 8", "show 1 0 0 105", "error 3", "show 1 0 2 1", "error 12", "show 1 0 2 110", "error 8", "show 1 0 3 110", "error 7", "judge 1", "sure", "tick 101", "ok", "show 1 0 0 110", "error 10")...)
	// Tubes that are lost or sold.
	try(t, p, after(sealed(2), "scrap 1", "ok", "show 1 0 0 110", "error 10", "show 2 0 0 110", "ok", "sell 2", "EL0001B00002M", "show 2 0 0 110", "error 10", "show 2 1 0 110", "error 7")...)
	// No meters.
	p.Bench = nil
	try(t, p, after(sealed(1), "show 1 0 0 110", "error 7", "judge 1", "unsure 0")...)
}

// P10.1: sheets are judged with the limits of the model.
func TestJudge(t *testing.T) {
	p := bare(plantX())
	try(t, p, "judge 0", "error 7", "judge 1", "error 7")
	try(t, p, after(mounted(1), "judge 1", "error 10", "judge 2", "error 7", "pump 0 1", "run 1 1+", "judge 1", "unsure 0", "show 1 0 0 130", "ok", "judge 1", "unsure 0", "show 1 0 1 120", "ok", "judge 1", "sure", "tick 50", "ok", "judge 1", "sure", "tick 1", "ok", "judge 1", "error 10", "scrap 1", "ok", "judge 1", "error 10")...)
	try(t, p, after(sealed(1), "show 1 0 0 140", "ok", "judge 1", "never 0", "show 1 0 0 110", "ok", "judge 1", "error 12", "tick 101", "ok", "judge 1", "error 10")...)
	// Two tests: the place is that of the first one with the verdict.
	p.Models[1].Demand.Gas = 200
	l := after(store(1000), "lot PL 1 0", "lot 1 sure", "mount 1", "tube 1", "pump 0 1", "run 1 1+")
	try(t, p, after(l, "judge 1", "unsure 0", "show 1 0 0 500", "ok", "judge 1", "unsure 1", "show 1 1 0 -40", "ok", "judge 1", "sure", "show 1 1 0 -50", "ok", "judge 1", "sure")...)
	try(t, p, after(l, "show 1 1 0 60", "ok", "judge 1", "never 1", "show 1 0 0 -10", "ok", "judge 1", "never 0")...)
}

// P10.1: what is sold is judged Sure, with all that it took, and has a mark.
func TestSell(t *testing.T) {
	p := bare(plantX())
	try(t, p, "sell 0", "error 7", "sell 1", "error 7")
	try(t, p, after(mounted(1), "sell 1", "error 10", "pump 0 1", "run 1 1+", "sell 1", "error 15", "show 1 0 0 130", "ok", "sell 1", "error 15", "show 1 0 1 120", "ok", "sell 1", "EL0001B00001Y", "sell 1", "error 10", "judge 1", "error 10", "scrap 1", "error 10", "stock nickel", "stock 9995 0 0 5", "stock mica", "stock 9998 0 0 2", "stock barium", "stock 9999 0 0 1", "stock glass", "stock 9990 0 0 10")...)
	try(t, p, after(sealed(1), "show 1 0 0 140", "ok", "sell 1", "error 15", "show 1 0 0 110", "ok", "sell 1", "error 12", "tick 101", "ok", "sell 1", "error 10")...)
	lines := []string{"buy nickel 10", "buy mica 10", "buy barium 10", "buy glass 10", "lot EL 1 0", "mount 1", "pump 0 1", "show 1 0 0 110", "sell 1"}
	if b := kept(t, p, lines...); !sameValve(b.Valves[0], api.Valve{Batch: 1, Run: 1, State: api.ValveSold, Tests: [][]api.Shown{{{Meter: 0, Number: 110}}}, Mark: "EL0001B00001Y"}) {
		t.Error(b.Valves[0])
	}
}

// P10.1, P10.4: the marks of what is sold at ticks.
func TestMarks(t *testing.T) {
	for _, c := range []struct {
		week, tick, line int
		name, want       string
	}{
		{100, 0, 1, "EL", "EL0001A00001"}, {100, 99, 26, "EL", "EL0001Z00001"}, {100, 100, 2, "A", "A0002B00001"}, {100, 5199, 2, "ABCD", "ABCD0052B00001"}, {100, 5200, 3, "EL", "EL0101C00001"}, {100, 519999, 3, "EL", "EL9952C00001"}, {100, 520000, 3, "EL", "EL0001C00001"}, {1, 1, 4, "EL", "EL0002D00001"}, {1, 51, 4, "EL", "EL0052D00001"}, {1, 52, 4, "EL", "EL0101D00001"}, {1000000, 999999999, 4, "EL", "EL1912D00001"}, {7, 999999999, 4, "EL", "EL5239D00001"},
	} {
		p := changed(bare(plantX()), func(p *api.Plant) {
			p.Week, p.Models[0].Line, p.Models[0].Name, p.Bench[2].Due = c.week, c.line, c.name, 1000000000
		})
		lines := []string{"buy nickel 10", "buy mica 10", "buy barium 10", "buy glass 10", "lot " + c.name + " 1 0", "mount 1", "pump 0 1", "show 1 0 2 220"}
		if c.tick > 0 {
			lines = append(lines, fmt.Sprint("tick ", c.tick))
		}
		l := repliesTo(t, p, append(lines, "sell 1", "trace 1")...)
		mark := l[len(l)-2]
		if mark[:len(mark)-1] != c.want || l[len(l)-1] != "tube 1 lot 1 schedule 0 run 1 tests 1 sold "+mark {
			t.Error(c, l[len(l)-2:])
		}
	}
}

// P10.1: tubes that are open or sealed can be made scrap, with all that they took.
func TestScrap(t *testing.T) {
	p := bare(plantX())
	try(t, p, "scrap 0", "error 7", "scrap 1", "error 7")
	try(t, p, after(mounted(2), "pump 0 2", "run 1 2+", "scrap 3", "error 7", "scrap 1", "ok", "stock nickel", "stock 9990 5 5 0", "stock mica", "stock 9996 2 2 0", "stock barium", "stock 9998 1 1 0", "stock glass", "stock 9990 10 0 0", "scrap 1", "error 10", "trace 1", "tube 1 lot 1 schedule 0 run 0 tests 0 lost", "scrap 2", "ok", "stock nickel", "stock 9990 0 10 0", "stock glass", "stock 9990 0 10 0", "trace 2", "tube 2 lot 1 schedule 0 run 1 tests 0 lost", "scrap 2", "error 10")...)
	try(t, p, after(mounted(3), "pump 1 2 1 3", "run 1 2+ 1- 3-", "scrap 1", "error 10", "show 2 0 0 110", "ok", "sell 2", "EL0001B00002M", "scrap 2", "error 10")...)
}
