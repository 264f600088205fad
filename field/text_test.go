package field

import (
	"strings"
	"testing"

	"thermion/api"
)

// P1.6: texts of plans, and the errors of plans that have none.
func TestText(t *testing.T) {
	for i, c := range []struct {
		p    api.Plan
		want string
		e    api.Errno
	}{
		{planQ(), "flat\n1...2\n", api.OK},
		{planR(), "round\n1...2\n", api.OK},
		{planG(), "flat\n1...3\n1.2.3\n1...3\n", api.OK},
		{drawn(true, "6"), "round\n6\n", api.OK},
		{drawn(false, "1", ".", "2"), "flat\n1\n.\n2\n", api.OK},
		{drawn(false, ".."), "", api.ErrMissing},
		{api.Plan{Wide: 2, High: 1, Cells: []int{1}}, "", api.ErrForm},
		{api.Plan{Wide: 2, High: 1, Cells: []int{1, 10}}, "", api.ErrRange},
		{api.Plan{}, "", api.ErrRange},
	} {
		if s, e := Text(c.p); s != c.want || e != c.e {
			t.Error(i, s, e)
		}
	}
}

// P1.6: what Parse says of texts.
func TestParse(t *testing.T) {
	for i, c := range []struct {
		s    string
		want api.Plan
		row  int
		e    api.Errno
	}{
		{"flat\n1...2\n", planQ(), 0, api.OK},
		{"round\n1...2\n", planR(), 0, api.OK},
		{"flat\n1...3\n1.2.3\n1...3\n", planG(), 0, api.OK},
		{"round\n6\n", drawn(true, "6"), 0, api.OK},
		{"flat\n" + strings.Repeat("1"+strings.Repeat(".", 15)+"\n", 16), drawn(false, strings.Split(strings.Repeat("1...............\n", 15)+"1...............", "\n")...), 0, api.OK},

		// The first row.
		{"", api.Plan{}, 1, api.ErrForm},
		{"flat", api.Plan{}, 1, api.ErrForm},
		{"round", api.Plan{}, 1, api.ErrForm},
		{"\n", api.Plan{}, 1, api.ErrForm},
		{"Flat\n1\n", api.Plan{}, 1, api.ErrForm},
		{"flat \n1\n", api.Plan{}, 1, api.ErrForm},
		{" flat\n1\n", api.Plan{}, 1, api.ErrForm},
		{"flat\r\n1\n", api.Plan{}, 1, api.ErrForm},
		{"fla\n1\n", api.Plan{}, 1, api.ErrForm},
		{"flat round\n1\n", api.Plan{}, 1, api.ErrForm},
		{"1\n", api.Plan{}, 1, api.ErrForm},
		{"x\nx\nx", api.Plan{}, 1, api.ErrForm},
		{"\xff\n1\n", api.Plan{}, 1, api.ErrForm},

		// Rows of cells that are missing.
		{"flat\n", api.Plan{}, 2, api.ErrForm},
		{"round\n", api.Plan{}, 2, api.ErrForm},
		{"flat\n1", api.Plan{}, 2, api.ErrForm},

		// Rows of cells that are not as said.
		{"flat\n1x\n", api.Plan{}, 2, api.ErrForm},
		{"flat\n17\n", api.Plan{}, 2, api.ErrForm},
		{"flat\n10\n", api.Plan{}, 2, api.ErrForm},
		{"flat\n1 2\n", api.Plan{}, 2, api.ErrForm},
		{"flat\n1/2\n", api.Plan{}, 2, api.ErrForm},
		{"flat\n1-2\n", api.Plan{}, 2, api.ErrForm},
		{"flat\n1\r\n", api.Plan{}, 2, api.ErrForm},
		{"flat\n1\x00\n", api.Plan{}, 2, api.ErrForm},
		{"flat\n1\u00b7\n", api.Plan{}, 2, api.ErrForm},
		{"flat\nflat\n1\n", api.Plan{}, 2, api.ErrForm},
		{"flat\n\n", api.Plan{}, 2, api.ErrForm},
		{"flat\n\n1\n", api.Plan{}, 2, api.ErrForm},
		{"flat\n1\n\n", api.Plan{}, 3, api.ErrForm},
		{"flat\n1.\n1\n", api.Plan{}, 3, api.ErrForm},
		{"flat\n1.\n1..\n", api.Plan{}, 3, api.ErrForm},
		{"flat\n1.\n1.\n.\n..x\n", api.Plan{}, 4, api.ErrForm},
		{"flat\n1.\n1x\n.\n", api.Plan{}, 3, api.ErrForm},
		{"flat\n1.\n1.", api.Plan{}, 3, api.ErrForm},
		{"flat\n1.\n1.\nx", api.Plan{}, 4, api.ErrForm},
		{"flat\n1.\n ", api.Plan{}, 3, api.ErrForm},

		// The plan.
		{"round\n..\n", api.Plan{}, 0, api.ErrMissing},
		{"round\n................1\n", api.Plan{}, 0, api.ErrRange},
		{"flat\n" + strings.Repeat("1\n", 17), api.Plan{}, 0, api.ErrRange},
	} {
		if p, row, e := Parse(c.s); !Same(p, c.want) || row != c.row || e != c.e {
			t.Error(i, p, row, e)
		}
	}
}

// P1.6: a text may have 400 bytes, and no more; what is too long is not looked at.
func TestParseLong(t *testing.T) {
	for i, c := range []struct {
		s   string
		row int
		e   api.Errno
	}{
		{strings.Repeat("x", 400), 1, api.ErrForm},
		{strings.Repeat("x", 401), 0, api.ErrLong},
		{"flat\n" + strings.Repeat("1", 394) + "\n", 0, api.ErrRange},
		{"flat\n" + strings.Repeat("1", 395) + "\n", 0, api.ErrLong},
	} {
		if p, row, e := Parse(c.s); !Same(p, api.Plan{}) || row != c.row || e != c.e {
			t.Error(i, p, row, e)
		}
	}
}

// P1.15: a plan is read from its text, and a text is written from its plan.
func TestThereAndBack(t *testing.T) {
	full := api.Plan{Wide: 16, High: 16, Round: true}
	for i := range 256 {
		full.Cells = append(full.Cells, i%7)
	}
	thereAndBack := func(p api.Plan) {
		s, e := Text(p)
		if e != api.OK {
			t.Fatal(p, e)
		}
		q, row, e := Parse(s)
		if !Same(p, q) || row != 0 || e != api.OK {
			t.Error(p, q, row, e)
		}
		if again, e := Text(q); again != s || e != api.OK {
			t.Error(again, s, e)
		}
	}
	thereAndBack(full)
	cases(t, 6, func(p api.Plan, _ []int, _ int) { thereAndBack(p) })
}
