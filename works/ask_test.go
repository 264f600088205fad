package works

import (
	"fmt"
	"testing"
)

// P10.1, P10.9: tubes are paired that are sealed, judged Sure, of the model, and alike for sure.
func TestPairs(t *testing.T) {
	p := bare(plantX())
	try(t, p, "pairs EL", "pairs", "pairs PL", "pairs", "pairs XX", "error 7")
	l := after(sealed(4), "pairs EL", "pairs", "show 1 0 0 100", "ok", "show 4 0 0 120", "ok", "pairs EL", "pairs", "show 2 0 0 110", "ok", "pairs EL", "pairs 1-2", "show 3 0 0 120", "ok", "pairs EL", "pairs 1-2 3-4", "pairs PL", "pairs")
	try(t, p, after(l, "scrap 2", "ok", "pairs EL", "pairs 3-4", "sell 3", "EL0001B00003A", "pairs EL", "pairs")...)
	// A tube with a sheet that has an error, or whose verdict is not Sure, is left out.
	try(t, p, after(l, "show 1 0 0 120", "ok", "judge 1", "error 12", "pairs EL", "pairs 2-3")...)
	try(t, p, after(l, "show 3 0 0 130", "ok", "judge 3", "sure", "show 3 0 0 120", "ok", "tick 101", "ok", "pairs EL", "pairs")...)
	// Pairs of two models, each with its own tolerances.
	p.Models[1].Demand.Gas = 200
	l = after(store(1000), "lot PL 3 0", "lot 1 sure", "lot EL 2 0", "lot 2 sure", "mount 1", "tube 1", "mount 2", "tube 2", "mount 1", "tube 3", "mount 2", "tube 4", "mount 1", "tube 5")
	for n := range 5 {
		l = append(l, fmt.Sprint("pump 0 ", n+1), fmt.Sprintf("run %d %d+", n+1, n+1), fmt.Sprintf("show %d 0 2 220", n+1), "ok")
	}
	l = after(l, "pairs EL", "pairs 2-4", "pairs PL", "pairs", "show 1 1 0 10", "ok", "show 3 1 0 30", "ok", "show 5 1 0 20", "ok", "pairs PL", "pairs 1-3")
	try(t, p, l...)
	p.Models[1].Tol[1] = 29
	try(t, p, append(l[:len(l)-1], "pairs 1-5")...)
}

// P10.1: at most 24 tubes can be paired; others do not count.
func TestManyPairs(t *testing.T) {
	p := bare(plantX())
	l := sealed(26)
	want := "pairs"
	for n := range 24 {
		l = append(l, fmt.Sprintf("show %d 0 0 110", n+1), "ok")
		if n%2 == 1 {
			want += fmt.Sprintf(" %d-%d", n, n+1)
		}
	}
	try(t, p, after(l, "pairs EL", want, "show 25 0 0 130", "ok", "pairs EL", want, "show 26 0 0 110", "ok", "pairs EL", "error 14", "pairs PL", "pairs", "pairs XX", "error 7", "scrap 26", "ok", "pairs EL", want)...)
}

// P10.1: a tube is traced in all its states.
func TestTrace(t *testing.T) {
	p := bare(plantX())
	p.Models[1].Demand.Gas = 200
	p.Schedules[1] = p.Schedules[0]
	l := after(store(1000), "lot PL 1 0", "lot 1 sure", "lot EL 2 1", "lot 2 sure", "mount 2", "tube 1", "mount 1", "tube 2", "mount 2", "tube 3", "trace 1", "tube 1 lot 2 schedule 1 run 0 tests 0 open", "trace 2", "tube 2 lot 1 schedule 0 run 0 tests 0 open", "trace 0", "error 7", "trace 4", "error 7")
	l = after(l, "pump 0 3", "run 1 3+", "pump 1 2 1", "run 2 2+ 1-", "trace 1", "tube 1 lot 2 schedule 1 run 2 tests 0 lost", "trace 2", "tube 2 lot 1 schedule 0 run 2 tests 0 sealed")
	try(t, p, after(l, "show 2 0 0 20", "ok", "show 2 1 0 20", "ok", "show 2 1 1 20", "ok", "trace 2", "tube 2 lot 1 schedule 0 run 2 tests 3 sealed", "sell 2", "PL0001C000024", "trace 2", "tube 2 lot 1 schedule 0 run 2 tests 3 sold PL0001C000024", "scrap 3", "ok", "trace 3", "tube 3 lot 2 schedule 1 run 1 tests 0 lost")...)
}
