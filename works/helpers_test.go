package works

import (
	"fmt"
	"slices"
	"strings"
	"testing"

	"thermion/api"
)

// dice makes numbers for tests that are the same in each run.
type dice uint64

// upTo returns a number from 0 to n - 1.
func (d *dice) upTo(n int) int {
	*d += 0x9e3779b97f4a7c15
	x := uint64(*d)
	x = (x ^ x>>30) * 0xbf58476d1ce4e5b9
	x = (x ^ x>>27) * 0x94d049bb133111eb
	return int((x ^ x>>31) % uint64(n))
}

// from returns a number from least to most.
func (d *dice) from(least, most int) int { return least + d.upTo(most-least+1) }

// oneOf returns one of some things.
func oneOf[T any](d *dice, l ...T) T { return l[d.upTo(len(l))] }

// of makes a range, one that of one number.
func of(lo, hi int) api.Range { return api.Range{Lo: lo, Hi: hi} }
func one(n int) api.Range     { return of(n, n) }

// coatK, heatingH, benchB and vacuumV are those of the chapters 3, 7 and 6.
func coatK() api.Coat {
	return api.Coat{Amount: 1000, Slew: 400, Yield: one(500000), Bands: []api.Band{{}, {From: 1000, Convert: of(100000, 200000), Reduce: one(100000), Evaporate: of(0, 10000), Sinter: of(1, 2)}}}
}

func heatingH() api.Heating { return api.Heating{Ticks: 2, Heat: 1100} }

func benchB() []api.Meter {
	return []api.Meter{{Gain: one(1000000), Step: 10, By: -1, Due: 100}, {Gain: of(990000, 1010000), Off: of(-5, 5), Step: 1, By: 0, Due: 50}}
}

func vacuumV() api.Vacuum {
	return api.Vacuum{Vessels: []api.Vessel{{Volume: 10, Free: one(1000)}}, Pumps: []api.Pump{{Part: one(500000)}}}
}

// plantP is the plant of the chapter's examples.
func plantP() api.Plant {
	return api.Plant{
		Models:    []api.Model{{Name: "EL", Line: 2, Coat: coatK(), Demand: api.Demand{Gas: 200, Wear: 9, Lost: 9, Rest: 1000}, Nickel: 5, Mica: 2, Barium: 1, Glass: 10, Limits: []api.Range{of(95, 130)}, Tol: []int{20}}},
		Schedules: [][]api.Heating{{heatingH()}},
		Bench:     benchB(),
		Programs:  []api.Program{{Vacuum: vacuumV(), Bakes: []api.Bake{{Ticks: 9}}, Slots: 1, Limit: 200}},
		Rules:     []api.Rule{{Verb: "pump", Needs: []string{"screen"}}},
		Week:      100,
	}
}

// plantX is a plant with two of all things: the model PL has two tests, the schedule 1 is never right, and the schedule 0 not surely for PL, the meter 2 skips values, and in the program 1 the vessel 1 keeps its gas, and the vessel 2 may keep it.
func plantX() api.Plant {
	p := plantP()
	p.Models = append(p.Models, api.Model{Name: "PL", Line: 3, Coat: coatK(), Demand: api.Demand{Gas: 150, Wear: 9, Lost: 9, Rest: 1000}, Nickel: 3, Mica: 4, Barium: 2, Glass: 20, Limits: []api.Range{of(0, 1000), of(-50, 50)}, Tol: []int{0, 30}})
	p.Schedules = append(p.Schedules, []api.Heating{heatingH(), {Ticks: 9, Heat: 1300, Current: 5}})
	p.Bench = append(p.Bench, api.Meter{Gain: one(2000000), Step: 1, By: -1, Due: 1000000000})
	v := api.Vacuum{Vessels: []api.Vessel{{Volume: 10, Free: one(1000)}, {Volume: 10, Free: one(3)}, {Volume: 10, Free: of(1, 3)}, {Volume: 1}}, Pumps: []api.Pump{{Part: one(500000)}}}
	p.Programs = append(p.Programs, api.Program{Vacuum: v, Bakes: []api.Bake{{Ticks: 9}}, Slots: 3, Limit: 200})
	p.Rules = append(p.Rules, api.Rule{Verb: "sell", Needs: []string{"hood", "screen"}, Bars: []string{"flame", "water"}})
	return p
}

// bare returns a plant without rules.
func bare(p api.Plant) api.Plant {
	p.Rules = nil
	return p
}

// sheet makes a sheet of lines.
func sheet(lines ...string) string {
	text := ""
	for _, line := range lines {
		text += line + "\n"
	}
	return text
}

// repliesTo returns the replies of a valid plant to lines, one for each.
func repliesTo(t *testing.T, p api.Plant, lines ...string) []string {
	t.Helper()
	text, e := Run(p, sheet(lines...))
	l := strings.Split(text, "\n")
	if e != api.OK || len(l) != len(lines)+1 || l[len(lines)] != "" {
		t.Fatal(lines, text, e)
	}
	return l[:len(lines)]
}

// kept returns the books of a valid plant after lines.
func kept(t *testing.T, p api.Plant, lines ...string) api.Books {
	t.Helper()
	b, e := Keep(p, sheet(lines...))
	if e != api.OK {
		t.Fatal(lines, e)
	}
	return b
}

// logged returns the log of a valid plant of lines.
func logged(t *testing.T, p api.Plant, lines ...string) string {
	t.Helper()
	text, e := Log(p, sheet(lines...))
	if e != api.OK {
		t.Fatal(lines, e)
	}
	return text
}

// try demands replies: behind each line stands the one to it.
func try(t *testing.T, p api.Plant, l ...string) {
	t.Helper()
	var lines, want []string
	for i := 0; i < len(l); i += 2 {
		lines, want = append(lines, l[i]), append(want, l[i+1])
	}
	for i, r := range repliesTo(t, p, lines...) {
		if r != want[i] {
			t.Errorf("%d, %q: %q, not %q", i, lines[i], r, want[i])
		}
	}
}

// after puts lines, with the replies to them, behind others.
func after(first []string, l ...string) []string { return slices.Concat(first, l) }

// store are lines that buy so much of each material, with the replies.
func store(n int) []string {
	var l []string
	for _, m := range []string{"nickel", "mica", "barium", "glass"} {
		l = append(l, fmt.Sprint("buy ", m, " ", n), "ok")
	}
	return l
}

// mounted are lines that make a lot of the model EL, and mount so many tubes of it, with the replies, in a plant without rules: nothing stands before them but what buys materials.
func mounted(count int) []string {
	l := after(store(10000), fmt.Sprintf("lot EL %d 0", count), "lot 1 sure")
	for i := range count {
		l = append(l, "mount 1", fmt.Sprint("tube ", i+1))
	}
	return l
}

// sealed are lines that seal the tubes of mounted, too, each in a run of its own.
func sealed(count int) []string {
	l := mounted(count)
	for i := range count {
		l = append(l, fmt.Sprint("pump 0 ", i+1), fmt.Sprintf("run %d %d+", i+1, i+1))
	}
	return l
}

// same reports whether books are equal.
func same(a, b api.Books) bool {
	return a.Tick == b.Tick && slices.Equal(a.Guards, b.Guards) && slices.Equal(a.Accounts, b.Accounts) && slices.Equal(a.Batches, b.Batches) && slices.Equal(a.Runs, b.Runs) && slices.EqualFunc(a.Valves, b.Valves, sameValve)
}

// sameValve reports whether tubes are equal.
func sameValve(a, b api.Valve) bool {
	return a.Batch == b.Batch && a.Run == b.Run && a.Vessel == b.Vessel && a.State == b.State && a.Mark == b.Mark && slices.EqualFunc(a.Tests, b.Tests, slices.Equal[[]api.Shown])
}

// isError reports whether a reply is an error.
func isError(reply string) bool { return strings.HasPrefix(reply, "error ") }

// verbOf returns the first word of a line.
func verbOf(line string) string {
	verb, _, _ := strings.Cut(line, " ")
	return verb
}

// numbersIn returns the numbers that stand in a text, with - and + between them or not.
func numbersIn(text string) []int {
	var l []int
	for _, word := range strings.FieldsFunc(text, func(c rune) bool { return c < '0' || '9' < c }) {
		n := 0
		for _, c := range word {
			n = 10*n + int(c-'0')
		}
		l = append(l, n)
	}
	return l
}

// changed returns a thing that was changed.
func changed[T any](x T, change func(x *T)) T {
	change(&x)
	return x
}

// fault is a change that makes a thing wrong, and the error that it has then.
type fault[T any] struct {
	change func(x *T)
	want   api.Errno
}

// inOrder demands that each fault of a right thing is found, and the first one of two.
func inOrder[T any](t *testing.T, right func() T, faults []fault[T], check func(x T) api.Errno) {
	t.Helper()
	if e := check(right()); e != api.OK {
		t.Error(e)
	}
	for i, a := range faults {
		if e := check(changed(right(), a.change)); e != a.want {
			t.Error(i, e)
		}
		for k, b := range faults[i+1:] {
			if e := check(changed(changed(right(), b.change), a.change)); e != a.want {
				t.Error(i, i+1+k, e)
			}
		}
	}
}
