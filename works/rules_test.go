package works

import (
	"fmt"
	"math"
	"reflect"
	"slices"
	"strings"
	"testing"

	"thermion/api"
)

// odd are numbers that arguments may have, too.
var odd = []int{math.MinInt, math.MinInt + 15, -1000000001, -1000000, -17, -1, 0, 1, 2, 4, 26, 27, 60, 61, 300, 1000, 1001, 1000000, 1000001, 1000000000, 1000000001, 1 << 42, math.MaxInt - 15, math.MaxInt}

// oddPlants are plants that are hardly any.
func oddPlants() []api.Plant {
	l := []api.Plant{{}, plantP(), plantX(), {Models: make([]api.Model, 5000)}, {Models: make([]api.Model, 1)}}
	for i, n := range odd {
		m := odd[(3*i+5)%len(odd)]
		for _, change := range []func(p *api.Plant){
			func(p *api.Plant) { p.Models[1].Line = n }, func(p *api.Plant) { p.Models[0].Nickel = n }, func(p *api.Plant) { p.Models[0].Mica = n }, func(p *api.Plant) { p.Models[0].Barium = n }, func(p *api.Plant) { p.Models[0].Glass = n },
			func(p *api.Plant) { p.Models[0].Limits[0] = of(n, m) }, func(p *api.Plant) { p.Models[0].Limits[0] = of(min(n, m), max(n, m)) }, func(p *api.Plant) { p.Models[0].Tol[0] = n },
			func(p *api.Plant) { p.Models[0].Coat.Amount = n }, func(p *api.Plant) { p.Models[0].Coat.Slew = n }, func(p *api.Plant) { p.Models[0].Coat.Bands[1].Convert = of(n, m) }, func(p *api.Plant) { p.Models[0].Demand.Gas, p.Models[0].Demand.Wear = n, m },
			func(p *api.Plant) { p.Schedules[0][0].Ticks = n }, func(p *api.Plant) { p.Schedules[1][1].Heat = n }, func(p *api.Plant) { p.Schedules[1][1].Current = n },
			func(p *api.Plant) { p.Bench[0].Due = n }, func(p *api.Plant) { p.Bench[1].By = n }, func(p *api.Plant) { p.Bench[1].Gain = of(n, m) }, func(p *api.Plant) { p.Bench[0].Step = n }, func(p *api.Plant) { p.Bench[1].Off = one(n) },
			func(p *api.Plant) { p.Programs[0].Slots = n }, func(p *api.Plant) { p.Programs[0].Limit = n }, func(p *api.Plant) { p.Programs[0].Bakes[0].Heat = n }, func(p *api.Plant) { p.Programs[0].Bakes[0].Shut = []int{n} }, func(p *api.Plant) { p.Programs[0].Vacuum.Vessels[0].Free = of(n, m) }, func(p *api.Plant) { p.Programs[1].Vacuum.Vessels[0].Volume = n },
			func(p *api.Plant) { p.Week = n },
		} {
			l = append(l, changed(plantX(), change))
		}
	}
	for _, s := range []string{"", "\xff", "é", "\x00", "sell", "EL", "a", strings.Repeat("A", 5000), strings.Repeat("a", 5000)} {
		for _, change := range []func(p *api.Plant){func(p *api.Plant) { p.Models[1].Name = s }, func(p *api.Plant) { p.Rules[0].Verb = s }, func(p *api.Plant) { p.Rules[0].Needs = []string{s} }, func(p *api.Plant) { p.Rules[1].Bars = slices.Repeat([]string{s}, 6) }} {
			l = append(l, changed(plantX(), change))
		}
	}
	return l
}

// daily are lines of all verbs.
func daily() []string {
	return []string{"guard screen", "guard hood", "buy nickel 100", "buy mica 1000000", "buy barium 100", "buy glass 100", "lot EL 4 0", "lot PL 2 0", "lot EL 1 1", "mount 1", "mount 2", "mount 1", "pump 0 1", "pump 1 3 2", "tick 7", "show 1 0 0 110", "show 1 0 1 111", "show 3 0 0 110", "show 2 0 2 -50", "judge 1", "judge 3", "pairs EL", "pairs PL", "sell 1", "scrap 3", "trace 1", "trace 2", "stock glass", "free hood", "sell 2"}
}

// P1, R1, R3, R5: with whatever plants each function ends, does not panic, and has nothing but an error with an error.
func TestAnyPlants(t *testing.T) {
	good := 0
	for i, p := range oddPlants() {
		bad := Check(p)
		if bad == api.OK {
			good++
		}
		text, e := Run(p, sheet(daily()...))
		b, e2 := Keep(p, sheet(daily()...))
		log, e3 := Log(p, sheet(daily()...))
		if e != bad || e2 != bad || e3 != bad || bad != api.OK && (text != "" || !same(b, api.Books{}) || log != "") || bad == api.OK && strings.Count(text, "\n") != len(daily()) {
			t.Error(i, p, text, b, log, bad, e, e2, e3)
		}
	}
	if good < 100 {
		t.Error(good)
	}
}

// P1, R3, R5: with whatever sheets and logs each function ends, does not panic, and has nothing but an error with an error; there is a reply to each line.
func TestAnyTexts(t *testing.T) {
	d := dice(20)
	signs := []string{"tick", "guard", "buy", "lot", "mount", "pump", "show", "judge", "sell", "scrap", "pairs", "trace", "stock", "free", "screen", "mica", "EL", " ", " ", " ", " ", " ", " ", "\n", "\n", "0", "1", "2", "-", "-1", "999999999", "9999999999", "\xff", "é", "\x00", "\r\n"}
	for range 5000 {
		text := oneOf(&d, "", sheet(daily()[:d.upTo(20)]...))
		for range d.upTo(60) {
			text += oneOf(&d, signs...)
		}
		s, e := Run(plantX(), text)
		b, e2 := Keep(plantX(), text)
		log, e3 := Log(plantX(), text)
		ended := text == "" || text[len(text)-1] == '\n'
		if e != e2 || e != e3 || e == api.OK != ended || e != api.OK && (e != api.ErrForm || s != "" || !same(b, api.Books{}) || log != "") || e == api.OK && strings.Count(s, "\n") != strings.Count(text, "\n") {
			t.Fatalf("%q %q %v %q %v %v %v", text, s, b, log, e, e2, e3)
		}
		if l, line, e := Read(text); e != api.OK && l != nil || (line != 0) != (e == api.ErrForm || e == api.ErrRange) {
			t.Fatalf("%q %v %v %v", text, l, line, e)
		}
	}
	long := strings.Repeat("tick 1\n", 500000)
	if s, e := Run(plantX(), long); s != "" || e != api.ErrLong {
		t.Error(len(s), e)
	}
	if l, line, e := Read(long); l != nil || line != 0 || e != api.ErrLong {
		t.Error(len(l), line, e)
	}
	for _, n := range odd {
		for _, m := range odd {
			l := []api.Entry{{Valve: 1}, {Tick: n, Valve: 60, Number: m}, {Valve: m, Test: n}, {Valve: 1, Meter: n, Number: m}}
			if s, e := Write(l); e != api.OK && s != "" {
				t.Error(l, s, e)
			}
		}
	}
	if s, e := Write(make([]api.Entry, 100000)); s != "" || e != api.ErrFull {
		t.Error(len(s), e)
	}
}

// P1: the greatest work ends soon.
func TestGreatestWork(t *testing.T) {
	p := bare(plantP())
	v := &p.Programs[0].Vacuum
	v.Vessels = slices.Repeat(v.Vessels, 8)
	for n := range 16 {
		v.Pipes = append(v.Pipes, api.Pipe{A: n % 8, B: (n + 1) % 8, Out: of(0, 10000), Back: of(0, 10000)})
	}
	for n := range 8 {
		v.Leaks, v.Getters = append(v.Leaks, api.Inlet{At: n, Gas: one(1)}), append(v.Getters, api.Getter{At: n, Part: one(1000), Room: one(100)})
	}
	p.Programs[0] = api.Program{Vacuum: *v, Bakes: []api.Bake{{Ticks: 2000, Heat: 2000, Flash: true}}, Slots: 8, Limit: math.MaxInt}
	p.Programs = slices.Repeat(p.Programs, 6)
	p.Schedules = slices.Repeat([][]api.Heating{slices.Repeat([]api.Heating{{Ticks: 500, Heat: 1100}}, 40)}, 8)
	p.Models[0].Demand = api.Demand{Gas: 1000, Wear: 1 << 40, Lost: 1000, Rest: 1000}
	lines := []string{"buy nickel 1000", "buy mica 1000", "buy barium 1000", "buy glass 1000"}
	for range 60 {
		lines = append(lines, "lot EL 1 7")
	}
	for n := range 60 {
		lines = append(lines, fmt.Sprint("mount ", n+1))
	}
	for n := range 60 {
		lines = append(lines, fmt.Sprint("pump 5 ", n+1))
	}
	for n := range 24 {
		lines = append(lines, fmt.Sprintf("show %d 0 0 110", n+1))
	}
	for len(lines) < 300 {
		lines = append(lines, "pairs EL")
	}
	want := "pairs"
	for n := 1; n < 24; n += 2 {
		want += fmt.Sprintf(" %d-%d", n, n+1)
	}
	if l := repliesTo(t, p, lines...); l[63] != "lot 60 sure" || l[123] != "tube 60" || l[183] != "run 60 60+" || l[299] != want {
		t.Error(l)
	}
}

// spoil changes all that books have, also what is behind the ends of lists.
func spoil(b api.Books) {
	for i, v := range b.Valves {
		for k, l := range v.Tests {
			l = l[:cap(l)]
			for j := range l {
				l[j] = api.Shown{Meter: -77, Number: -77}
			}
			v.Tests[k] = nil
		}
		b.Valves[i] = api.Valve{}
	}
	for i := range b.Guards[:cap(b.Guards)] {
		b.Guards[:cap(b.Guards)][i] = "spoilt"
	}
	for i := range b.Accounts {
		b.Accounts[i].Store = -77
	}
	for i := range b.Batches {
		b.Batches[i].Left = -77
	}
	for i := range b.Runs {
		b.Runs[i] = -77
	}
}

// isApart reports whether no two lists of numbers that were shown in books share memory: what is added to each number is added once.
func isApart(b api.Books) bool {
	var all, was [][]api.Shown
	for _, v := range b.Valves {
		for _, l := range v.Tests {
			all, was = append(all, l), append(was, slices.Clone(l))
		}
	}
	for i := range all {
		for k := range all[i] {
			all[i][k].Number++
		}
	}
	for i, l := range was {
		for k := range l {
			if all[i][k].Number != l[k].Number+1 {
				return false
			}
		}
	}
	return true
}

// deepCopy returns a copy of what a thing has, and of what that has, and so on.
func deepCopy[T any](x T) T {
	var y T
	copyInto(reflect.ValueOf(&y).Elem(), reflect.ValueOf(&x).Elem())
	return y
}

// copyInto copies structs, slices and plain things.
func copyInto(to, from reflect.Value) {
	switch from.Kind() {
	case reflect.Struct:
		for i := range from.NumField() {
			copyInto(to.Field(i), from.Field(i))
		}
	case reflect.Slice:
		if !from.IsNil() {
			to.Set(reflect.MakeSlice(from.Type(), from.Len(), from.Len()))
			for i := range from.Len() {
				copyInto(to.Index(i), from.Index(i))
			}
		}
	default:
		to.Set(from)
	}
}

// P10.1, R4, R6: arguments are not changed; books are apart from them, from other books, and in themselves, and a call depends on its arguments alone.
func TestArgumentsAreKept(t *testing.T) {
	works(t, 21, 150, func(d *dice, p api.Plant, lines []string) {
		x := plainWorks(p)
		want := ""
		for _, line := range lines {
			want += x.reply(line) + "\n"
		}
		was := deepCopy(p)
		for range 2 {
			text, e := Run(p, sheet(lines...))
			b := kept(t, p, lines...)
			if text != want || e != api.OK || !same(b, x.books()) || logged(t, p, lines...) != x.log || !isApart(b) {
				t.Error(text, b)
			}
			spoil(b)
			if !reflect.DeepEqual(p, was) {
				t.Error(p, was)
			}
		}
	})
	l := append(make([]api.Entry, 0, 9), entryX(), api.Entry{Valve: 1})
	was := slices.Clone(l[:9])
	s, _ := Write(l)
	got, _, _ := Read(s)
	if !slices.Equal(l[:9], was) || !slices.Equal(got, l) {
		t.Error(l, got)
	}
	got[0].Tick = 5
	if again, _, _ := Read(s); again[0] != entryX() {
		t.Error(again)
	}
}
