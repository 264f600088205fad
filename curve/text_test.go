package curve

import (
	"strconv"
	"strings"
	"testing"

	"thermion/api"
)

// textF is the text of the chapter's family.
const textF = "curves 2 2\ngrid -2000 0\nplate 0 100000\nlow 0 10\nhigh 5 10\nlow 20 60\nhigh 20 80\n"

// P2.5: texts of families, and the errors of families that have none.
func TestText(t *testing.T) {
	for i, c := range []struct {
		f    api.Family
		want string
		e    api.Errno
	}{
		{familyF(), textF, api.OK},
		{linesOf([]int{-1000000}, []int{1000000}), "curves 1 1\ngrid -1000000\nplate 1000000\nlow 0\nhigh 0\n", api.OK},
		{linesOf([]int{-1, 0, 7}, []int{0}), "curves 3 1\ngrid -1 0 7\nplate 0\nlow 0\nhigh 0\nlow 0\nhigh 0\nlow 0\nhigh 0\n", api.OK},
		{linesOf([]int{5}, []int{0, 10}), "curves 1 2\ngrid 5\nplate 0 10\nlow 0 0\nhigh 0 0\n", api.OK},
		{api.Family{}, "", api.ErrShort},
		{linesOf([]int{1, 0}, []int{0}), "", api.ErrOrder},
		{api.Family{Grid: []int{0}, Plate: []int{0}}, "", api.ErrForm},
		{api.Family{Grid: []int{0}, Plate: []int{0}, Low: [][]int{{2}}, High: [][]int{{1}}}, "", api.ErrClash},
	} {
		if s, e := Text(c.f); s != c.want || e != c.e {
			t.Error(i, s, e)
		}
	}
}

// P2.5: texts that can be read.
func TestParse(t *testing.T) {
	for i, c := range []struct {
		s    string
		want api.Family
	}{
		{textF, familyF()},
		{"curves 1 1\ngrid 0\nplate 0\nlow 0\nhigh 0\n", linesOf([]int{0}, []int{0})},
		{"curves 1 1\ngrid -1000000\nplate 1000000\nlow 0\nhigh 1000000\n", api.Family{Grid: []int{-1000000}, Plate: []int{1000000}, Low: [][]int{{0}}, High: [][]int{{1000000}}}},
		{"curves 1 2\ngrid 5\nplate 0 10\nlow 0 0\nhigh 0 0\n", linesOf([]int{5}, []int{0, 10})},
		{"curves 2 1\ngrid 5 6\nplate 10\nlow 0\nhigh 0\nlow 0\nhigh 0\n", linesOf([]int{5, 6}, []int{10})},
	} {
		if f, line, e := Parse(c.s); !Same(f, c.want) || line != 0 || e != api.OK {
			t.Error(i, f, line, e)
		}
	}
}

// P2.5: texts with a row that is not as said: its number.
func TestParseForm(t *testing.T) {
	const head = "curves 1 1\ngrid 0\nplate 0\nlow 0\nhigh 0"
	for i, c := range []struct {
		s    string
		line int
	}{
		// The first row.
		{"", 1}, {"\n", 1}, {"curves", 1}, {"curves 1 1", 1}, {"curves 1 1x\n", 1}, {"curves\n", 1}, {"curves 1\n", 1}, {"curves 1 1 1\n", 1},
		{"curves 1 1 \n", 1}, {"curves  1 1\n", 1}, {" curves 1 1\n", 1}, {"curves 1\t1\n", 1}, {"curves 1 1\r\n", 1}, {"Curves 1 1\n", 1}, {"curve 1 1\n", 1}, {"grid 1 1\n", 1},
		{"curves 41 1\n", 1}, {"curves 1 41\n", 1}, {"curves -1 1\n", 1}, {"curves 1 -1\n", 1}, {"curves 01 1\n", 1}, {"curves 1 +1\n", 1}, {"curves -0 1\n", 1}, {"curves 99999999999999999999 1\n", 1},
		{strings.Repeat("\n", 100000), 1},
		// The rows of the lines.
		{"curves 1 1\n", 2}, {"curves 1 1\ngrid 0", 2}, {"curves 1 1\n\n", 2}, {"curves 1 1\ngrid\n", 2}, {"curves 1 1\ngrid 0 1\n", 2}, {"curves 2 1\ngrid 0\n", 2},
		{"curves 1 1\ngrid  0\n", 2}, {"curves 1 1\ngrid 0 \n", 2}, {"curves 1 1\n grid 0\n", 2}, {"curves 1 1\nplate 0\n", 2}, {"curves 1 1\ngrid 00\n", 2}, {"curves 1 1\ngrid -0\n", 2},
		{"curves 1 1\ngrid +1\n", 2}, {"curves 1 1\ngrid 1.\n", 2}, {"curves 1 1\ngrid 1_0\n", 2}, {"curves 1 1\ngrid 0x1\n", 2}, {"curves 1 1\ngrid - 1\n", 2}, {"curves 1 1\ngrid --1\n", 2}, {"curves 1 1\ngrid -\n", 2},
		{"curves 1 1\ngrid 1000000000\n", 2}, {"curves 1 1\ngrid -1000000000\n", 2}, {"curves 1 1\ngrid 99999999999999999999\n", 2}, {"curves 1 1\ngrid \xff\n", 2}, {"curves 1 1\ngrid \u0661\n", 2},
		{"curves 1 1\ngrid 0\n", 3}, {"curves 1 1\ngrid 0\ngrid 0\n", 3}, {"curves 1 2\ngrid 0\nplate 0\n", 3}, {"curves 1 0\ngrid 0\nplate 0\n", 3}, {"curves 0 0\ngrid 0\n", 2}, {"curves 0 0\ngrid\nplate", 3},
		{"curves 0 0\ngrid \nplate\n", 2}, {"curves 0 1\ngrid\nplate\n", 3},
		// The rows of the tables.
		{"curves 1 1\ngrid 0\nplate 0\n", 4}, {"curves 1 1\ngrid 0\nplate 0\nhigh 0\nlow 0\n", 4}, {"curves 1 1\ngrid 0\nplate 0\nlow 0 0\n", 4}, {"curves 1 1\ngrid 0\nplate 0\nlow\n", 4},
		{"curves 1 1\ngrid 0\nplate 0\nlow 0\n", 5}, {"curves 1 1\ngrid 0\nplate 0\nlow 0\nlow 0\n", 5}, {head, 5}, {head + " ", 5}, {head + " 1\n", 5},
		{"curves 2 1\ngrid 0 1\nplate 0\nlow 0\nhigh 0\n", 6}, {"curves 2 1\ngrid 0 1\nplate 0\nlow 0\nhigh 0\nlow x\n", 6}, {"curves 2 1\ngrid 0 1\nplate 0\nlow 0\nhigh 0\nlow 0\nhigh 0", 7},
		// Rows that are too many.
		{head + "\n\n", 6}, {head + "\nlow 0\n", 6}, {head + "\nx", 6}, {head + "\n\n\n\n", 6}, {"curves 0 0\ngrid\nplate\nlow\n", 4}, {"curves 0 0\ngrid\nplate\n ", 4},
		// The first row that is not as said counts, and before what is wrong with the family.
		{"curves 1 1\ngrid 9999999\nplate x\nlow x\n", 3}, {"curves 1 1\ngrid 9999999\nplate 0\nlow 0\nhigh x\n", 5}, {"curves 2 1\ngrid 1 0\nplate -1\nlow 0\nhigh 0\nlow 0\nhigh 0\n\n", 8},
	} {
		if f, line, e := Parse(c.s); !Same(f, api.Family{}) || line != c.line || e != api.ErrForm {
			t.Error(i, f, line, e)
		}
	}
}

// P2.5: texts of families that are not valid, with the line 0.
func TestParseCheck(t *testing.T) {
	for i, c := range []struct {
		s string
		e api.Errno
	}{
		{"curves 0 0\ngrid\nplate\n", api.ErrShort},
		{"curves 0 1\ngrid\nplate 0\n", api.ErrShort},
		{"curves 1 0\ngrid 0\nplate\nlow\nhigh\n", api.ErrShort},
		{"curves 40 0\ngrid" + strings.Repeat(" 0", 40) + "\nplate\n" + strings.Repeat("low\nhigh\n", 40), api.ErrShort},
		{"curves 1 1\ngrid 999999999\nplate 0\nlow 0\nhigh 0\n", api.ErrRange},
		{"curves 1 1\ngrid -999999999\nplate 0\nlow 0\nhigh 0\n", api.ErrRange},
		{"curves 1 1\ngrid 0\nplate -1\nlow 0\nhigh 0\n", api.ErrRange},
		{"curves 1 2\ngrid 0\nplate 7 7\nlow 0 0\nhigh 0 0\n", api.ErrOrder},
		{"curves 1 1\ngrid 0\nplate 0\nlow -1\nhigh 0\n", api.ErrRange},
		{"curves 1 1\ngrid 0\nplate 0\nlow 5\nhigh 4\n", api.ErrClash},
		{"curves 1 2\ngrid 0\nplate 0 1\nlow 5 4\nhigh 5 5\n", api.ErrOrder},
	} {
		if f, line, e := Parse(c.s); !Same(f, api.Family{}) || line != 0 || e != c.e {
			t.Error(i, f, line, e)
		}
	}
}

// P2.5: a text may have 100,000 bytes, and no more; what is too long is not looked at.
func TestParseLong(t *testing.T) {
	for i, c := range []struct {
		s    string
		line int
		e    api.Errno
	}{
		{strings.Repeat("x", 100000), 1, api.ErrForm},
		{strings.Repeat("x", 100001), 0, api.ErrLong},
		{textF + strings.Repeat("\n", 100000-len(textF)), 8, api.ErrForm},
		{textF + strings.Repeat("\n", 100001-len(textF)), 0, api.ErrLong},
		{"curves 1 1\ngrid " + strings.Repeat("0", 99000) + "\n", 2, api.ErrForm},
	} {
		if f, line, e := Parse(c.s); !Same(f, api.Family{}) || line != c.line || e != c.e {
			t.Error(i, f, line, e)
		}
	}
}

// P2.14: a family is read from its text, and a text that can be read is that of what was read.
func TestThereAndBack(t *testing.T) {
	read, spoilt := 0, 0
	families(t, 8, func(d *dice, f api.Family) {
		s, e := Text(f)
		if e != api.OK {
			t.Fatal(f, e)
		}
		if g, line, e := Parse(s); !Same(f, g) || line != 0 || e != api.OK {
			t.Error(g, line, e)
		}
		for range 20 {
			bad := []byte(s)
			bad[d.upTo(len(bad))] = "0123456789 -\ncurvesgidplatowh"[d.upTo(29)]
			g, line, e := Parse(string(bad))
			if e != api.OK {
				spoilt++
				if e == api.ErrForm && !isWrongRow(string(bad), line) {
					t.Error(string(bad), line)
				}
				continue
			}
			read++
			if again, e := Text(g); again != string(bad) || e != api.OK {
				t.Error(again, e, string(bad))
			}
		}
	})
	if read < 100 || spoilt < 100 {
		t.Error("too few cases", read, spoilt)
	}
}

// isWrongRow reports whether the row of this number is the first one that is not as the first row says.
func isWrongRow(s string, line int) bool {
	rows := strings.SplitAfter(s, "\n")
	for i, row := range rows[:line-1] {
		if !isRightRow(rows, i, row) {
			return false
		}
	}
	return line > len(rows) || !isRightRow(rows, line-1, rows[line-1])
}

// isRightRow reports whether the row of this index is as the first row says.
func isRightRow(rows []string, i int, row string) bool {
	grid, plate := sizesIn(rows[0])
	words := append([]string{"curves", "grid", "plate"}, strings.Split(strings.Repeat("low high ", max(0, grid)), " ")...)
	counts := append([]int{2, grid}, repeated(plate, 1+2*max(0, grid))...)
	if i >= len(counts) || grid < 0 || plate < 0 || grid > 40 || plate > 40 {
		return false
	}
	want := words[i]
	for _, w := range strings.Split(strings.TrimSuffix(row, "\n"), " ")[1:] {
		n, err := strconv.Atoi(w)
		if err != nil || len(strings.TrimPrefix(w, "-")) > 9 {
			return false
		}
		want += " " + strconv.Itoa(n)
		counts[i]--
	}
	return row == want+"\n" && counts[i] == 0
}

// repeated returns n, so many times.
func repeated(n, count int) []int {
	var l []int
	for range count {
		l = append(l, n)
	}
	return l
}

// sizesIn returns what the first row says (-1: nothing).
func sizesIn(row string) (grid, plate int) {
	words := strings.Split(strings.TrimSuffix(row, "\n"), " ")
	if len(words) != 3 {
		return -1, -1
	}
	grid, err := strconv.Atoi(words[1])
	plate, err2 := strconv.Atoi(words[2])
	if err != nil || err2 != nil {
		return -1, -1
	}
	return grid, plate
}
