package circuit

import (
	"slices"
	"strconv"
	"strings"
	"testing"

	"thermion/api"
)

// textN is the text of the net N, textX that of the net X.
const (
	textN = "inputs 1\nstage 0 100000 100000 100000 100000 0 0\ntap 0 1 1\n"
	textX = "inputs 2\nstage 0 90000 100000 100000 100000 0 0\ntap 0 1 1\nstage 1 100000 100000 100000 110000 0 0\ntap 0 1 2\ntap 1 3 2\ntap 4 1 50\nstage 0 100000 100000 100000 100000 -3000 -2900\ntap 2 1 40\n"
)

// great is a net whose text is as long as can be.
func great() api.Net {
	n := api.Net{Tubes: slices.Repeat([]api.Family{familyF()}, 4), Inputs: 4}
	for range 6 {
		n.Stages = append(n.Stages, api.Stage{Tube: 3, Supply: one(1000000), Load: one(1000000), Bias: one(-1000000), Taps: []api.Tap{tap(6, 1000, 1000), tap(7, 1000, 1000), tap(8, 1000, 1000), tap(9, 1000, 1000)}})
	}
	return n
}

// P9.6: texts of nets.
func TestText(t *testing.T) {
	for i, c := range []struct {
		n    api.Net
		want string
	}{
		{netN(), textN}, {netX(), textX}, {netOf(0, stage()), "inputs 0\nstage 0 100000 100000 100000 100000 0 0\n"}, {netOf(4, api.Stage{Load: of(1, 2), Bias: of(-3, 4), Supply: of(5, 6)}), "inputs 4\nstage 0 5 6 1 2 -3 4\n"},
		{great(), "inputs 4\n" + strings.Repeat("stage 3 1000000 1000000 1000000 1000000 -1000000 -1000000\ntap 6 1000 1000\ntap 7 1000 1000\ntap 8 1000 1000\ntap 9 1000 1000\n", 6)},
	} {
		if s, e := Text(c.n); s != c.want || e != api.OK {
			t.Error(i, s, e)
		}
		if n, row, e := Parse(c.want, c.n.Tubes); !Same(n, c.n) || row != 0 || e != api.OK {
			t.Error(i, n, row, e)
		}
	}
}

// P9.6: texts with a row that is not as said: its number.
func TestParseForm(t *testing.T) {
	const head = "inputs 1\nstage 0 9 9 9 9 0 0"
	for i, c := range []struct {
		s   string
		row int
	}{
		// The first row.
		{"", 1}, {"\n", 1}, {"\n\n", 1}, {"x", 1}, {"inputs 1", 1}, {"inputs", 1}, {"inputs\n", 1}, {"inputs \n", 1}, {"inputs 1 \n", 1}, {"inputs  1\n", 1}, {" inputs 1\n", 1}, {"inputs\t1\n", 1}, {"inputs 1\r\n", 1}, {"Inputs 1\n", 1}, {"input 1\n", 1}, {"inputss 1\n", 1}, {"1\n", 1}, {"inputs 1 1\n", 1}, {"inputs x\n", 1}, {"inputs inputs\n", 1}, {"inputs inputs 1\n", 1},
		{"inputs 01\n", 1}, {"inputs 00\n", 1}, {"inputs -0\n", 1}, {"inputs +1\n", 1}, {"inputs 1x\n", 1}, {"inputs 0x1\n", 1}, {"inputs 1_0\n", 1}, {"inputs 1.\n", 1}, {"inputs -\n", 1}, {"inputs --1\n", 1}, {"inputs - 1\n", 1}, {"inputs 1000000000\n", 1}, {"inputs -1000000000\n", 1}, {"inputs 99999999999999999999\n", 1}, {"inputs 0000000001\n", 1}, {"inputs \xff\n", 1}, {"inputs \u0661\n", 1},
		{"stage 0 9 9 9 9 0 0\n", 1}, {"stage 0 9 9 9 9 0 0\ninputs 1\n", 1}, {"tap 0 1 1\n", 1}, {"tap 0 1 1\ninputs 1\n", 1}, {strings.Repeat("x", 4000), 1}, {strings.Repeat("\n", 4000), 1},
		// Stages.
		{"inputs 1\n\n", 2}, {"inputs 1\nx", 2}, {"inputs 1\n ", 2}, {"inputs 1\ninputs 1\n", 2}, {"inputs 1\nstage\n", 2}, {"inputs 1\nstage 0 9 9 9 9 0\n", 2}, {"inputs 1\nstage 0 9 9 9 9 0 0 0\n", 2}, {"inputs 1\nstage 0 9 9 9 9 0 0 \n", 2}, {"inputs 1\nstage 0 9 9 9 9  0 0\n", 2}, {"inputs 1\n stage 0 9 9 9 9 0 0\n", 2}, {"inputs 1\nStage 0 9 9 9 9 0 0\n", 2}, {"inputs 1\nstages 0 9 9 9 9 0 0\n", 2}, {"inputs 1\n0 9 9 9 9 0 0\n", 2}, {"inputs 1\ninputs 0 9 9 9 9 0 0\n", 2}, {"inputs 1\ntap 0 9 9 9 9 0 0\n", 2}, {"inputs 1\nstage 0 1 1\n", 2}, {head, 2},
		{"inputs 1\nstage 00 9 9 9 9 0 0\n", 2}, {"inputs 1\nstage 0 09 9 9 9 0 0\n", 2}, {"inputs 1\nstage 0 9 +9 9 9 0 0\n", 2}, {"inputs 1\nstage 0 9 9 x 9 0 0\n", 2}, {"inputs 1\nstage 0 9 9 9 1000000000 0 0\n", 2}, {"inputs 1\nstage 0 9 9 9 9 -0 0\n", 2}, {"inputs 1\nstage 0 9 9 9 9 0 -1000000000\n", 2},
		// Taps.
		{"inputs 1\ntap 0 1 1\n", 2}, {"inputs 1\ntap 0 1 1\nstage 0 9 9 9 9 0 0\n", 2}, {head + "\ntap\n", 3}, {head + "\ntap 0 1\n", 3}, {head + "\ntap 0 1 1 1\n", 3}, {head + "\ntap 0 1 1 \n", 3}, {head + "\ntap  0 1 1\n", 3}, {head + "\nTap 0 1 1\n", 3}, {head + "\n0 1 1\n", 3}, {head + "\nstage 0 1 1\n", 3}, {head + "\ninputs 0 1 1\n", 3}, {head + "\ntap 00 1 1\n", 3}, {head + "\ntap 0 -0 1\n", 3}, {head + "\ntap 0 1 1x\n", 3}, {head + "\ntap 1000000000 1 1\n", 3}, {head + "\ntap 0 1 1", 3},
		// Rows behind the last one, and inputs again.
		{head + "\n\n", 3}, {head + "\nx", 3}, {head + "\n ", 3}, {head + "\ninputs 1\n", 3}, {textN + "inputs 1\n", 4}, {textN + "\n", 4}, {textN + "x", 4}, {textN + "stage 0 9 9 9 9 0 0", 4}, {textX + "tap 0 1 1", 10},
		// The first row that is not as said counts, and before what is wrong with the net.
		{"inputs 9\nx\ny\n", 2}, {"x\ny", 1}, {"inputs 1\nstage 9 9 9 9 9 0 0\ntap 9 9 9\ninputs 1\n", 4}, {head + "\n" + strings.Repeat("tap 0 1 1\n", 9) + "x", 12},
	} {
		for _, tubes := range [][]api.Family{{familyF()}, nil} {
			if n, row, e := Parse(c.s, tubes); !Same(n, api.Net{}) || row != c.row || e != api.ErrForm {
				t.Error(i, n, row, e)
			}
		}
	}
}

// P9.6: texts of nets that are not valid, with the row 0, and texts that are too long, which are not looked at.
func TestParseErrors(t *testing.T) {
	const head = "inputs 1\nstage 0 9 9 9 9 0 0\n"
	for i, c := range []struct {
		s   string
		row int
		e   api.Errno
	}{
		{"inputs 1\n", 0, api.ErrShort}, {"inputs -1\n", 0, api.ErrRange}, {"inputs 5\n", 0, api.ErrRange}, {"inputs 999999999\n", 0, api.ErrRange}, {"inputs -999999999\n", 0, api.ErrRange}, {head, 0, api.OK}, {"inputs 1\nstage 1 9 9 9 9 0 0\n", 0, api.ErrRange}, {"inputs 1\nstage -1 9 9 9 9 0 0\n", 0, api.ErrRange}, {"inputs 1\nstage 0 9 8 9 9 0 0\n", 0, api.ErrOrder}, {"inputs 1\nstage 0 -1 8 9 9 0 0\n", 0, api.ErrRange}, {"inputs 1\nstage 0 9 9 0 9 0 0\n", 0, api.ErrRange}, {"inputs 1\nstage 0 9 9 9 8 0 0\n", 0, api.ErrOrder}, {"inputs 1\nstage 0 9 9 9 9 1 0\n", 0, api.ErrOrder}, {"inputs 1\nstage 0 9 9 9 9 0 999999999\n", 0, api.ErrRange}, {"inputs 1\nstage 0 9 9 9 9 -999999999 0\n", 0, api.ErrRange},
		{head + "tap 1 1 1\n", 0, api.OK}, {head + "tap 2 1 1\n", 0, api.ErrRange}, {head + "tap -1 1 1\n", 0, api.ErrRange}, {head + "tap 0 1001 1\n", 0, api.ErrRange}, {head + "tap 0 1 0\n", 0, api.ErrRange}, {head + "tap 0 999999999 1\n", 0, api.ErrRange}, {head + "tap 0 1 1\ntap 0 1 1\n", 0, api.ErrOrder}, {head + strings.Repeat("tap 0 1 1\n", 5), 0, api.ErrFull}, {head + strings.Repeat("tap 0 1 1\n", 390), 0, api.ErrFull}, {"inputs 1\n" + strings.Repeat("stage 0 9 9 9 9 0 0\n", 6), 0, api.OK}, {"inputs 1\n" + strings.Repeat("stage 0 9 9 9 9 0 0\n", 7), 0, api.ErrFull}, {"inputs 1\n" + strings.Repeat("stage 0 9 9 9 9 0 0\n", 190), 0, api.ErrFull},
		{strings.Repeat("x", 4001), 0, api.ErrLong}, {textN + strings.Repeat("\n", 4001-len(textN)), 0, api.ErrLong}, {textN + strings.Repeat("\n", 4000-len(textN)), 4, api.ErrForm}, {head + strings.Repeat("tap 0 1 1\n", 400), 0, api.ErrLong},
	} {
		n, row, e := Parse(c.s, []api.Family{familyF()})
		if row != c.row || e != c.e || e != api.OK && !Same(n, api.Net{}) {
			t.Error(i, n, row, e)
		}
	}
	// With other families.
	for i, c := range []struct {
		tubes []api.Family
		e     api.Errno
	}{
		{nil, api.ErrShort}, {[]api.Family{}, api.ErrShort}, {make([]api.Family, 5), api.ErrFull}, {make([]api.Family, 4), api.ErrShort}, {[]api.Family{familyF(), {Grid: []int{0}, Plate: []int{-1}}}, api.ErrRange}, {[]api.Family{familyF()}, api.ErrRange}, {netX().Tubes, api.OK}, {append(netX().Tubes, familyF()), api.OK},
	} {
		n, row, e := Parse(textX, c.tubes)
		if row != 0 || e != c.e || !Same(n, changed(api.Net{}, func(n *api.Net) {
			if c.e == api.OK {
				*n = netX()
				n.Tubes = c.tubes
			}
		})) {
			t.Error(i, n, row, e)
		}
	}
}

// P9.16, P9.6: a net is read from its text, with its families, and a text that can be read is that of what was read.
func TestThereAndBack(t *testing.T) {
	read, spoilt, wrong := 0, 0, 0
	for _, k := range kinds() {
		nets(t, 40, 300, k, (*dice).size, func(d *dice, n api.Net, inputs []api.Range) {
			s, e := Text(n)
			if e != api.OK || len(s) > 4000 {
				t.Fatal(s, e)
			}
			if m, row, e := Parse(s, n.Tubes); !Same(m, n) || row != 0 || e != api.OK {
				t.Error(m, row, e)
			}
			for range 10 {
				bad := []byte(s)
				bad[d.upTo(len(bad))] = "0123456789 -\ninputsage"[d.upTo(22)]
				m, row, e := Parse(string(bad), n.Tubes)
				if at := plainWrong(string(bad)); at != row || (at != 0) != (e == api.ErrForm) {
					t.Error(string(bad), row, e, at)
				}
				switch e {
				case api.OK:
					read++
					if again, e := Text(m); again != string(bad) || e != api.OK {
						t.Error(string(bad), again, e)
					}
				case api.ErrForm:
					wrong++
				default:
					spoilt++
				}
			}
		})
	}
	if read < 500 || spoilt < 500 || wrong < 500 {
		t.Error(read, spoilt, wrong)
	}
}

// plainWrong returns the number of the first row of a text that is not as said, 0 if there is none.
func plainWrong(text string) int {
	counts := map[string]int{"inputs": 2, "stage": 8, "tap": 4}
	stages := 0
	for i, row := range strings.SplitAfter(text, "\n") {
		if row == "" && i > 0 {
			return 0 // behind the last line feed
		}
		words := strings.Split(strings.TrimSuffix(row, "\n"), " ")
		is := strings.HasSuffix(row, "\n") && len(words) == counts[words[0]] && (words[0] == "inputs") == (i == 0) && (words[0] != "tap" || stages > 0)
		for _, w := range words[1:] {
			n, err := strconv.ParseInt(w, 10, 64)
			is = is && err == nil && -1000000000 < n && n < 1000000000 && strconv.FormatInt(n, 10) == w
		}
		if !is {
			return i + 1
		}
		if words[0] == "stage" {
			stages++
		}
	}
	return 0
}
