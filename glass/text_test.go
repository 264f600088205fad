package glass

import (
	"slices"
	"strconv"
	"strings"
	"testing"

	"thermion/api"
)

// P5.6: texts of programmes, and the errors of those that have none.
func TestText(t *testing.T) {
	for i, c := range []struct {
		o    api.Oven
		want string
		e    api.Errno
	}{
		{oven(800, leg(700, 10)), "from 800\nto 700 in 10\n", api.OK}, {oven(800, leg(700, 10), leg(0, 2000)), "from 800\nto 700 in 10\nto 0 in 2000\n", api.OK}, {oven(0), "from 0\n", api.OK}, {oven(2000, leg(2000, 1)), "from 2000\nto 2000 in 1\n", api.OK},
		{oven(2000, slices.Repeat([]api.Leg{leg(2000, 2000)}, 20)...), "from 2000\n" + strings.Repeat("to 2000 in 2000\n", 20), api.OK},
		{oven(-1), "", api.ErrRange}, {oven(0, make([]api.Leg, 21)...), "", api.ErrFull}, {oven(0, leg(1, 0)), "", api.ErrRange},
	} {
		if s, e := Text(c.o); s != c.want || e != c.e {
			t.Error(i, s, e)
		}
	}
}

// P5.6: texts that can be read.
func TestParse(t *testing.T) {
	for i, c := range []struct {
		s    string
		want api.Oven
	}{
		{"from 800\n", oven(800)}, {"from 0\n", oven(0)}, {"from 2000\nto 0 in 2000\n", oven(2000, leg(0, 2000))}, {"from 800\nto 700 in 10\nto 701 in 9\n", oven(800, leg(700, 10), leg(701, 9))},
		{"from 1\n" + strings.Repeat("to 2 in 3\n", 20), oven(1, slices.Repeat([]api.Leg{leg(2, 3)}, 20)...)},
	} {
		if o, row, e := Parse(c.s); o.From != c.want.From || !slices.Equal(o.Legs, c.want.Legs) || row != 0 || e != api.OK {
			t.Error(i, o, row, e)
		}
	}
}

// P5.6: texts with a row that is not as said: its number.
func TestParseForm(t *testing.T) {
	for i, c := range []struct {
		s   string
		row int
	}{
		// The first row.
		{"", 1}, {"\n", 1}, {"\n\n", 1}, {"from 800", 1}, {"x", 1}, {"from\n", 1}, {"from \n", 1}, {"from 8 \n", 1}, {"from  8\n", 1}, {" from 8\n", 1}, {"from\t8\n", 1}, {"from 8\r\n", 1}, {"From 8\n", 1}, {"fro 8\n", 1}, {"froms 8\n", 1}, {"8\n", 1}, {"from 8 8\n", 1}, {"from 8 in 8\n", 1}, {"from from\n", 1}, {"from from 8\n", 1}, {"in 8\n", 1}, {"to 8 in 9\n", 1}, {"to 8 in 9\nfrom 8\n", 1}, {"to 8\n", 1},
		{"from 08\n", 1}, {"from 00\n", 1}, {"from -0\n", 1}, {"from +8\n", 1}, {"from -8\n", 1}, {"from 8x\n", 1}, {"from 0x8\n", 1}, {"from 1_0\n", 1}, {"from 8.\n", 1}, {"from -\n", 1}, {"from 1000000000\n", 1}, {"from 99999999999999999999\n", 1}, {"from 0000000008\n", 1}, {"from \xff\n", 1}, {"from \u0668\n", 1},
		// Further rows.
		{"from 8\nto 9 in 5", 2}, {"from 8\n\n", 2}, {"from 8\nx", 2}, {"from 8\n ", 2}, {"from 8\nfrom 8\n", 2}, {"from 8\nfrom x\n", 2}, {"from 8\nto\n", 2}, {"from 8\nto 9\n", 2}, {"from 8\nto 9 in\n", 2}, {"from 8\nto 9 5\n", 2}, {"from 8\nto 9 at 5\n", 2}, {"from 8\nto 9 In 5\n", 2}, {"from 8\nto 9 in 5 \n", 2}, {"from 8\nto 9 in 5 5\n", 2}, {"from 8\nto 9  in 5\n", 2}, {"from 8\nto  9 in 5\n", 2}, {"from 8\n to 9 in 5\n", 2}, {"from 8\nin 9 in 5\n", 2}, {"from 8\nto in 9 5\n", 2}, {"from 8\nTo 9 in 5\n", 2},
		{"from 8\nto 09 in 5\n", 2}, {"from 8\nto 9 in 05\n", 2}, {"from 8\nto -9 in 5\n", 2}, {"from 8\nto 9 in -5\n", 2}, {"from 8\nto +9 in 5\n", 2}, {"from 8\nto 9 in +5\n", 2}, {"from 8\nto 1000000000 in 5\n", 2}, {"from 8\nto 9 in 1000000000\n", 2}, {"from 8\nto x in 5\n", 2}, {"from 8\nto 9 in x\n", 2}, {"from 8\nto 9 in \n", 2},
		{"from 8\nto 9 in 5\n\n", 3}, {"from 8\nto 9 in 5\nto 9 in 5", 3}, {"from 8\nto 9 in 5\nfrom 8\n", 3}, {"from 8\n" + strings.Repeat("to 9 in 5\n", 30) + "x", 32},
		// The first row that is not as said counts, and before what is wrong with the programme.
		{"from 9999\nto 9999 in 0\nx\ny\n", 3}, {"from 8\n" + strings.Repeat("to 9 in 5\n", 21) + "\n", 23}, {"x\ny", 1}, {"from 9999\nx", 2},
	} {
		if o, row, e := Parse(c.s); o.From != 0 || o.Legs != nil || row != c.row || e != api.ErrForm {
			t.Error(i, o, row, e)
		}
	}
}

// P5.6: texts of programmes that are not valid, with the row 0, and texts that are too long, which are not looked at.
func TestParseErrors(t *testing.T) {
	for i, c := range []struct {
		s   string
		row int
		e   api.Errno
	}{
		{"from 2001\n", 0, api.ErrRange}, {"from 999999999\n", 0, api.ErrRange}, {"from 800\nto 700 in 0\n", 0, api.ErrRange}, {"from 800\nto 700 in 2001\n", 0, api.ErrRange}, {"from 800\nto 2001 in 1\n", 0, api.ErrRange}, {"from 800\nto 999999999 in 999999999\n", 0, api.ErrRange},
		{"from 1\n" + strings.Repeat("to 2 in 3\n", 21), 0, api.ErrFull}, {"from 1\n" + strings.Repeat("to 2 in 0\n", 99), 0, api.ErrFull}, {"from 9999\n" + strings.Repeat("to 2 in 3\n", 21), 0, api.ErrRange},
		{strings.Repeat("x", 1000), 1, api.ErrForm}, {strings.Repeat("x", 1001), 0, api.ErrLong}, {strings.Repeat("\n", 1000), 1, api.ErrForm}, {"from 1\n" + strings.Repeat("to 2 in 3\n", 99), 0, api.ErrFull}, {"from 1\n" + strings.Repeat("to 2 in 3\n", 100), 0, api.ErrLong}, {"from 111\n" + strings.Repeat("to 2 in 3\n", 99) + "x", 101, api.ErrForm},
	} {
		if o, row, e := Parse(c.s); o.From != 0 || o.Legs != nil || row != c.row || e != c.e {
			t.Error(i, o, row, e)
		}
	}
}

// P5.18, P5.6: a programme is read from its text, and a text that can be read is that of what was read.
func TestThereAndBack(t *testing.T) {
	d := dice(9)
	read, spoilt := 0, 0
	for range 2000 {
		o := d.oven(20, 2000)
		s, e := Text(o)
		if e != api.OK {
			t.Fatal(o, e)
		}
		if p, row, e := Parse(s); p.From != o.From || !slices.Equal(p.Legs, o.Legs) || row != 0 || e != api.OK {
			t.Fatal(s, p, row, e)
		}
		for range 10 {
			bad := []byte(s)
			bad[d.upTo(len(bad))] = "0123456789 -\nfromti"[d.upTo(19)]
			p, row, e := Parse(string(bad))
			if wrong := plainWrong(string(bad)); wrong != row || (wrong != 0) != (e == api.ErrForm) {
				t.Fatal(string(bad), row, e, wrong)
			}
			if e != api.OK {
				spoilt++
				continue
			}
			read++
			if s, e := Text(p); s != string(bad) || e != api.OK {
				t.Fatal(string(bad), s, e)
			}
		}
	}
	if read < 500 || spoilt < 500 {
		t.Error(read, spoilt)
	}
}

// plainWrong returns the number of the first row of a text that is not as said, 0 if there is none.
func plainWrong(text string) int {
	rows := strings.SplitAfter(text, "\n")
	for i, row := range rows {
		if row == "" && i > 0 {
			return 0 // behind the last line feed
		}
		words := strings.Split(strings.TrimSuffix(row, "\n"), " ")
		is := strings.HasSuffix(row, "\n")
		if i == 0 {
			is = is && len(words) == 2 && words[0] == "from" && isNumber(words[1])
		} else {
			is = is && len(words) == 4 && words[0] == "to" && isNumber(words[1]) && words[2] == "in" && isNumber(words[3])
		}
		if !is {
			return i + 1
		}
	}
	return 0
}

// isNumber reports whether a word is a number as said.
func isNumber(word string) bool {
	n, err := strconv.ParseUint(word, 10, 64)
	return err == nil && n < 1000000000 && strconv.FormatUint(n, 10) == word
}
