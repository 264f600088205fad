package works

import (
	"math"
	"slices"
	"strings"
	"testing"

	"thermion/api"
)

// entryX is the entry with the greatest numbers.
func entryX() api.Entry {
	return api.Entry{Tick: 1000000000, Valve: 60, Test: 3, Meter: 11, Number: -1000000000}
}

// entryFaults are the faults of an entry.
func entryFaults() []func(x *api.Entry) {
	return []func(x *api.Entry){
		func(x *api.Entry) { x.Tick = -1 }, func(x *api.Entry) { x.Tick = 1000000001 }, func(x *api.Entry) { x.Valve = 0 }, func(x *api.Entry) { x.Valve = -1 }, func(x *api.Entry) { x.Valve = 61 }, func(x *api.Entry) { x.Test = -1 }, func(x *api.Entry) { x.Test = 4 }, func(x *api.Entry) { x.Meter = -1 }, func(x *api.Entry) { x.Meter = 12 }, func(x *api.Entry) { x.Number = 1000000001 }, func(x *api.Entry) { x.Number = -1000000001 }, func(x *api.Entry) { x.Number = math.MinInt },
	}
}

// P10.2: Write writes entries, or names the first error.
func TestWrite(t *testing.T) {
	least := api.Entry{Valve: 1}
	if s, e := Write([]api.Entry{least, entryX(), {Tick: 12, Valve: 3, Test: 2, Meter: 7, Number: 1000000000}}); s != "0 1 0 0 0\n1000000000 60 3 11 -1000000000\n12 3 2 7 1000000000\n" || e != api.OK {
		t.Error(s, e)
	}
	for _, l := range [][]api.Entry{nil, {}} {
		if s, e := Write(l); s != "" || e != api.OK {
			t.Error(s, e)
		}
	}
	for i, f := range entryFaults() {
		for _, l := range [][]api.Entry{{changed(entryX(), f)}, {least, least, changed(least, f)}} {
			if s, e := Write(l); s != "" || e != api.ErrRange {
				t.Error(i, s, e)
			}
		}
		if s, e := Write(slices.Repeat([]api.Entry{changed(least, f)}, 301)); s != "" || e != api.ErrFull {
			t.Error(i, s, e)
		}
	}
	if s, e := Write(slices.Repeat([]api.Entry{entryX()}, 300)); s != strings.Repeat("1000000000 60 3 11 -1000000000\n", 300) || e != api.OK {
		t.Error(s, e)
	}
	if s, e := Write(slices.Repeat([]api.Entry{entryX()}, 301)); s != "" || e != api.ErrFull {
		t.Error(s, e)
	}
}

// P10.2: Read reads rows, or names the first error, and its row.
func TestRead(t *testing.T) {
	good := "7 1 0 0 110\n"
	for i, c := range []struct {
		log  string
		line int
		e    api.Errno
	}{
		{"", 0, api.OK}, {good, 0, api.OK}, {"1000000000 60 3 11 -1000000000\n", 0, api.OK}, {strings.Repeat(good, 300), 0, api.OK},
		{"\n", 1, api.ErrForm}, {good + "\n", 2, api.ErrForm}, {"7 1 0 0 110", 1, api.ErrForm}, {good + "7 1 0 0 110", 2, api.ErrForm}, {good + "x", 2, api.ErrForm}, {good + "x\n" + good, 2, api.ErrForm},
		{"7 1 0 0\n", 1, api.ErrForm}, {"7 1 0 0 110 1\n", 1, api.ErrForm}, {"7 1 0  110\n", 1, api.ErrForm}, {" 7 1 0 0 110\n", 1, api.ErrForm}, {"7 1 0 0 110 \n", 1, api.ErrForm}, {"7 1 0 0 110\r\n", 1, api.ErrForm}, {"7\t1 0 0 110\n", 1, api.ErrForm},
		{"-7 1 0 0 110\n", 1, api.ErrForm}, {"7 -1 0 0 110\n", 1, api.ErrForm}, {"7 1 -1 0 110\n", 1, api.ErrForm}, {"7 1 0 -1 110\n", 1, api.ErrForm}, {"7 1 0 0 -110\n", 0, api.OK}, {"7 1 0 0 -0\n", 1, api.ErrForm}, {"7 1 0 0 --1\n", 1, api.ErrForm},
		{"07 1 0 0 110\n", 1, api.ErrForm}, {"7 1 0 0 0110\n", 1, api.ErrForm}, {"7 1 0 0 +110\n", 1, api.ErrForm}, {"7 1 00 0 110\n", 1, api.ErrForm}, {"7 1 x 0 110\n", 1, api.ErrForm}, {"7 1 \xff 0 110\n", 1, api.ErrForm}, {"7 1 0 0 \n", 1, api.ErrForm},
		{"10000000000 1 0 0 0\n", 1, api.ErrForm}, {"7 1 0 0 10000000000\n", 1, api.ErrForm}, {"7 1 0 0 -10000000000\n", 1, api.ErrForm}, {"7 1 0 0 99999999999999999999\n", 1, api.ErrForm},
		{"9999999999 1 0 0 0\n", 1, api.ErrRange}, {"1000000001 1 0 0 0\n", 1, api.ErrRange}, {good + "7 0 0 0 110\n", 2, api.ErrRange}, {good + good + "7 61 0 0 110\n" + "7 0 0 0 0\n", 3, api.ErrRange}, {"7 1 4 0 110\n", 1, api.ErrRange}, {"7 1 0 12 110\n", 1, api.ErrRange}, {"7 1 0 0 1000000001\n", 1, api.ErrRange}, {"7 1 0 0 -1000000001\n", 1, api.ErrRange}, {"7 1 0 0 -9999999999\n", 1, api.ErrRange},
		{"7 0 0 0 110\nx\n", 2, api.ErrForm}, {"7 0 0 0 110\n7 1 0 0 110", 2, api.ErrForm}, {strings.Repeat(good, 301), 0, api.ErrFull}, {strings.Repeat("7 0 0 0 110\n", 301), 0, api.ErrFull}, {strings.Repeat(good, 301) + "x\n", 302, api.ErrForm}, {strings.Repeat(good, 302) + "7", 303, api.ErrForm},
		{strings.Repeat("0 1 0 0 0\n", 2000), 0, api.ErrFull}, {strings.Repeat("0 1 0 0 0\n", 2000) + "\n", 0, api.ErrLong}, {strings.Repeat("x", 20000), 1, api.ErrForm}, {strings.Repeat("x", 20001), 0, api.ErrLong},
	} {
		l, line, e := Read(c.log)
		if line != c.line || e != c.e || e != api.OK && l != nil || e == api.OK && len(l) != strings.Count(c.log, "\n") {
			t.Error(i, l, line, e)
		}
	}
	if l, line, e := Read("7 1 2 3 -110\n1000000000 60 3 11 1000000000\n"); !slices.Equal(l, []api.Entry{{Tick: 7, Valve: 1, Test: 2, Meter: 3, Number: -110}, {Tick: 1000000000, Valve: 60, Test: 3, Meter: 11, Number: 1000000000}}) || line != 0 || e != api.OK {
		t.Error(l, line, e)
	}
}

// P10.2, P10.8: what is written is read as it was, and what is read is written as it was.
func TestWriteAndRead(t *testing.T) {
	d := dice(1)
	for range 500 {
		var l []api.Entry
		for range d.upTo(20) {
			l = append(l, api.Entry{Tick: oneOf(&d, d.upTo(1000), d.from(0, 1000000000)), Valve: d.from(1, 60), Test: d.upTo(4), Meter: d.upTo(12), Number: oneOf(&d, d.from(-99, 99), d.from(-1000000000, 1000000000))})
		}
		s, e := Write(l)
		got, line, e2 := Read(s)
		if e != api.OK || e2 != api.OK || line != 0 || !slices.Equal(got, l) {
			t.Fatal(l, s, got, e, e2)
		}
	}
	words := []string{"0", "1", "1", "2", "60", "61", "-1", "-0", "00", "1000000000", "9999999999", "x", ""}
	read := 0
	for range 50000 {
		s := ""
		for range d.upTo(3) {
			s += strings.Join([]string{oneOf(&d, words...), oneOf(&d, words...), oneOf(&d, words[:5]...), oneOf(&d, words[:5]...), oneOf(&d, words...)}, " ") + oneOf(&d, "\n", "\n", "\n", "")
		}
		l, line, e := Read(s)
		if (line != 0) != (e != api.OK) || e != api.OK && l != nil {
			t.Fatal(s, l, line, e)
		}
		if e != api.OK {
			continue
		}
		read++
		if got, e := Write(l); got != s || e != api.OK {
			t.Fatal(s, got, e)
		}
	}
	if read < 1000 {
		t.Error(read)
	}
}
