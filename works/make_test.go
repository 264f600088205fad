package works

import (
	"fmt"
	"slices"
	"strings"
	"testing"

	"thermion/api"
)

// P10.1: lots are made; what is not sure is scrap.
func TestLot(t *testing.T) {
	p := bare(plantX())
	try(t, p, after(store(1000), "lot EL 7 0", "lot 1 sure", "lot EL 7 1", "lot 2 never", "lot PL 7 0", "lot 3 unsure", "lot PL 1 1", "lot 4 never", "stock nickel", "stock 906 35 59 0", "stock barium", "stock 970 7 23 0", "stock mica", "stock 1000 0 0 0", "stock glass", "stock 1000 0 0 0")...)
	b := kept(t, p, "buy nickel 1000", "buy barium 1000", "lot EL 7 0", "lot EL 3 1", "lot PL 2 0", "lot EL 1 0")
	want := []api.Batch{{Model: 0, Schedule: 0, Made: 7, Left: 7, Verdict: api.Sure}, {Model: 0, Schedule: 1, Made: 3, Verdict: api.Never}, {Model: 1, Schedule: 0, Made: 2, Verdict: api.Unsure}, {Made: 1, Left: 1, Verdict: api.Sure}}
	if !slices.Equal(b.Batches, want) {
		t.Error(b.Batches)
	}
	// A schedule without heatings.
	p.Schedules[1] = nil
	try(t, p, after(store(1000), "lot EL 1 1", "lot 1 sure")...)
	p.Models[0].Demand.Barium = 1
	try(t, p, after(store(1000), "lot EL 1 1", "lot 1 never")...)
}

// P10.1: the errors of lots, in their order.
func TestErrorsOfLots(t *testing.T) {
	p := bare(plantX())
	try(t, p, "lot XX 0 0", "error 7", "lot XX 1 9", "error 7", "lot EL 0 2", "error 7", "lot EL 61 999999999", "error 7", "lot EL 0 0", "error 2", "lot EL 61 0", "error 2", "lot EL 60 0", "error 6")
	try(t, p, "buy nickel 10", "ok", "buy barium 1", "ok", "lot EL 2 0", "error 6", "lot EL 1 0", "lot 1 sure", "buy barium 1", "ok", "lot EL 1 0", "lot 2 sure", "lot EL 1 0", "error 6")
	try(t, p, "buy nickel 4", "ok", "buy barium 5", "ok", "lot EL 1 0", "error 6", "buy nickel 1", "ok", "lot EL 1 0", "lot 1 sure")
	try(t, p, "buy nickel 300", "ok", "buy barium 60", "ok", "lot EL 60 0", "lot 1 sure", "stock nickel", "stock 0 300 0 0", "stock barium", "stock 0 60 0 0", "lot EL 1 0", "error 6")
	l := []string{"buy nickel 304", "ok", "buy barium 60", "ok"}
	for n := range 60 {
		l = append(l, "lot EL 1 0", fmt.Sprintf("lot %d sure", n+1))
	}
	try(t, p, after(l, "lot EL 1 0", "error 8", "lot EL 0 0", "error 2", "lot XX 1 0", "error 7", "mount 60", "error 6", "mount 61", "error 7")...)
	// Nothing need be taken.
	p.Models[0].Nickel, p.Models[0].Barium = 0, 0
	try(t, p, "lot EL 60 0", "lot 1 sure")
	p.Schedules = nil
	try(t, p, "lot EL 1 0", "error 7")
}

// P10.1: tubes are mounted of what is left of lots.
func TestMount(t *testing.T) {
	p := bare(plantX())
	p.Models[1].Demand.Gas = 200
	l := after(store(1000), "lot EL 1 0", "lot 1 sure", "lot PL 2 0", "lot 2 sure", "mount 2", "tube 1", "mount 1", "tube 2", "mount 1", "error 6", "mount 2", "tube 3", "mount 2", "error 6")
	try(t, p, after(l, "stock mica", "stock 990 10 0 0", "stock nickel", "stock 989 11 0 0", "stock glass", "stock 1000 0 0 0", "mount 0", "error 7", "mount 3", "error 7")...)
	var lines []string
	for i := 0; i < len(l); i += 2 {
		lines = append(lines, l[i])
	}
	b := kept(t, p, lines[:len(lines)-2]...)
	want := []api.Valve{{Batch: 2, State: api.ValveOpen, Tests: make([][]api.Shown, 2)}, {Batch: 1, State: api.ValveOpen, Tests: make([][]api.Shown, 1)}}
	if !slices.EqualFunc(b.Valves, want, sameValve) || !slices.Equal(b.Batches, []api.Batch{{Made: 1, Verdict: api.Sure}, {Model: 1, Made: 2, Left: 1, Verdict: api.Sure}}) {
		t.Error(b)
	}
	// None is left of a lot that is not sure.
	try(t, p, after(store(1000), "lot EL 1 1", "lot 1 never", "mount 1", "error 6")...)
}

// P10.1: the errors of mounts, in their order.
func TestErrorsOfMounts(t *testing.T) {
	p := bare(plantX())
	l := []string{"mount 1", "error 7", "buy nickel 500", "ok", "buy barium 500", "ok", "lot EL 60 0", "lot 1 sure", "lot EL 2 0", "lot 2 sure", "mount 1", "error 6", "buy mica 1", "ok", "mount 1", "error 6", "buy mica 120", "ok"}
	for n := range 60 {
		l = append(l, "mount 1", fmt.Sprint("tube ", n+1))
	}
	try(t, p, after(l, "stock mica", "stock 1 120 0 0", "mount 1", "error 6", "mount 2", "error 8", "mount 3", "error 7", "scrap 1", "ok", "mount 2", "error 8")...)
	b := kept(t, p, "buy nickel 500", "buy barium 500", "lot EL 60 0", "mount 1")
	if !slices.Equal(b.Batches, []api.Batch{{Made: 60, Left: 60, Verdict: api.Sure}}) || len(b.Valves) != 0 {
		t.Error(b)
	}
}

// P10.1: tubes are pumped in the vessels of a program, in their order, and are sealed or lost.
func TestPump(t *testing.T) {
	p := bare(plantX())
	p.Models[1].Demand.Gas = 200
	l := after(store(1000), "lot EL 3 0", "lot 1 sure", "lot PL 3 0", "lot 2 sure", "mount 1", "tube 1", "mount 1", "tube 2", "mount 2", "tube 3", "mount 2", "tube 4", "mount 1", "tube 5")
	l = after(l, "pump 1 4 2 3", "run 1 4+ 2- 3-", "stock glass", "stock 950 20 30 0", "pump 0 1", "run 2 1+", "stock glass", "stock 940 30 30 0", "stock nickel", "stock 976 16 8 0", "stock mica", "stock 986 8 6 0", "stock barium", "stock 991 6 3 0")
	try(t, p, l...)
	var lines []string
	for i := 0; i < len(l); i += 2 {
		lines = append(lines, l[i])
	}
	b := kept(t, p, lines...)
	want := []api.Valve{{Batch: 1, Run: 2, State: api.ValveSealed}, {Batch: 1, Run: 1, Vessel: 1, State: api.ValveLost}, {Batch: 2, Run: 1, Vessel: 2, State: api.ValveLost}, {Batch: 2, Run: 1, State: api.ValveSealed}, {Batch: 1, State: api.ValveOpen}}
	for i, v := range want {
		v.Tests = make([][]api.Shown, v.Batch)
		if !sameValve(b.Valves[i], v) {
			t.Error(i, b.Valves[i])
		}
	}
	if !slices.Equal(b.Runs, []int{1, 0}) || len(b.Valves) != len(want) {
		t.Error(b)
	}
	// The pressure at the end is 0 to 200: the greatest is just what it may be, or one too much.
	for limit, sign := range map[int]string{0: "-", 199: "-", 200: "+", 201: "+"} {
		p.Programs[0].Limit = limit
		try(t, p, after(mounted(1), "pump 0 1", "run 1 1"+sign)...)
	}
	// Without stages the gas is that of the beginning.
	p.Programs[0].Bakes, p.Programs[0].Limit = nil, 99999
	try(t, p, after(mounted(1), "pump 0 1", "run 1 1-")...)
	p.Programs[0].Limit = 100000
	try(t, p, after(mounted(1), "pump 0 1", "run 1 1+")...)
}

// P10.1: the errors of pumping, in their order.
func TestErrorsOfPumping(t *testing.T) {
	p := bare(plantX())
	two := after(mounted(4), "pump 0 1", "run 1 1+") // the tubes 2, 3 and 4 are open
	try(t, p, after(two, "pump 2 9 9 9 9", "error 7", "pump 2 2", "error 7", "pump 0 2 3", "error 8", "pump 0 9 9", "error 8", "pump 1 2 2 2 2", "error 8", "pump 0 5", "error 7", "pump 0 0", "error 7", "pump 0 1", "error 10", "pump 1 2 1 9", "error 10", "pump 1 2 9 1", "error 7", "pump 1 2 2 9", "error 9", "pump 1 2 2 1", "error 9", "pump 1 1 1", "error 10", "pump 1 2 3 2", "error 9", "pump 1 2 1 2", "error 10", "pump 1 2 3 4", "run 2 2+ 3- 4-", "pump 0 3", "error 10", "scrap 2", "ok", "pump 0 2", "error 10")...)
	try(t, p, after(mounted(2), "scrap 1", "ok", "pump 0 1", "error 10", "pump 0 2", "run 1 2+", "show 2 0 0 110", "ok", "sell 2", "EL0001B00002M", "pump 0 2", "error 10")...)
	// Glass for all tubes together, but the errors of tubes come before.
	l := []string{"buy nickel 500", "ok", "buy barium 500", "ok", "buy mica 500", "ok", "buy glass 29", "ok", "lot EL 3 0", "lot 1 sure", "mount 1", "tube 1", "mount 1", "tube 2", "mount 1", "tube 3"}
	try(t, p, after(l, "pump 1 1 2 3", "error 6", "pump 1 1 2 4", "error 7", "pump 1 1 2 2", "error 9", "stock glass", "stock 29 0 0 0", "pump 1 1 2", "run 1 1+ 2-", "stock glass", "stock 9 10 10 0", "pump 0 3", "error 6", "buy glass 1", "ok", "pump 0 3", "run 2 3+", "stock glass", "stock 0 20 10 0")...)
	if b := kept(t, p, "buy nickel 5", "buy barium 1", "buy mica 2", "lot EL 1 0", "mount 1", "pump 0 1"); len(b.Runs) > 0 || b.Valves[0].State != api.ValveOpen || b.Valves[0].Run != 0 {
		t.Error(b)
	}
	p.Programs = nil
	try(t, p, after(mounted(1), "pump 0 1", "error 7")...)
}

// P10.1: as many tubes as there are can be pumped, each in a run of its own; the greatest line is read.
func TestManyRuns(t *testing.T) {
	p := bare(plantX())
	l := sealed(60)
	try(t, p, after(l, "pump 0 60", "error 10", "pump 0"+strings.Repeat(" 1", 5000), "error 8", "trace 60", "tube 60 lot 1 schedule 0 run 60 tests 0 sealed")...)
}
