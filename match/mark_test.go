package match

import (
	"strings"
	"testing"

	"thermion/api"
)

// mark makes a mark.
func mark(kind string, year, week, line, number int) api.Mark {
	return api.Mark{Type: kind, Year: year, Week: week, Line: line, Number: number}
}

// markEL is the mark of the chapter's examples.
func markEL() api.Mark { return mark("EL", 63, 7, 2, 45) }

// P8.5: texts of marks: the chapter's example, and edges.
func TestTexts(t *testing.T) {
	for i, c := range []struct {
		m    api.Mark
		want string
	}{
		{markEL(), "EL6307B00045O"},
		{mark("A", 0, 1, 1, 0), "A0001A00000+"},
		{mark("A", 0, 1, 1, 1), "A0001A00001P"},
		{mark("ZZZZ", 99, 53, 26, 99999), "ZZZZ9953Z999996"}, // 350 + 99 + 35 + 24 + 315 + 540 is 1363, which is 31 more than 36 times 37
		{mark("Q", 5, 40, 9, 300), "Q0540I00300U"},           // 26 + 15 + 16 + 108 + 27 is 192, which is 7 more than 5 times 37
	} {
		s, e := Text(c.m)
		if s != c.want || e != api.OK {
			t.Error(i, s, e)
		}
		if m, e := Parse(c.want); m != c.m || e != api.OK {
			t.Error(i, m, e)
		}
	}
}

// P8.5: the errors of a mark: its type's first.
func TestErrorsOfMarks(t *testing.T) {
	check := func(m api.Mark) api.Errno {
		s, e := Text(m)
		if (e == api.OK) != (s != "") {
			t.Error(m, s, e)
		}
		return e
	}
	numbers := []func(m *api.Mark){
		func(m *api.Mark) { m.Year = -1 }, func(m *api.Mark) { m.Year = 100 }, func(m *api.Mark) { m.Week = 0 }, func(m *api.Mark) { m.Week = 54 }, func(m *api.Mark) { m.Line = 0 }, func(m *api.Mark) { m.Line = 27 }, func(m *api.Mark) { m.Number = -1 }, func(m *api.Mark) { m.Number = 100000 },
		func(m *api.Mark) { m.Year = -1 << 63 }, func(m *api.Mark) { m.Week = 1<<63 - 1 }, func(m *api.Mark) { m.Line = -1 << 63 }, func(m *api.Mark) { m.Number = 1<<63 - 1 },
	}
	for _, text := range []string{"", "ABCDE", "a", "El", "E1", "1E", "É", "E L", "[", "@", "A+", "\xff", "AB\x00", strings.Repeat("A", 5000)} {
		for _, change := range numbers {
			inOrder(t, markEL, []fault[api.Mark]{{func(m *api.Mark) { m.Type = text }, api.ErrForm}, {change, api.ErrRange}}, check)
		}
	}
	for _, m := range []api.Mark{mark("A", 0, 1, 1, 0), mark("Z", 99, 53, 26, 99999), mark("AZ", 0, 53, 1, 99999), mark("MNOP", 99, 1, 26, 0)} {
		if e := check(m); e != api.OK {
			t.Error(m, e)
		}
	}
}

// P8.5: texts that are not those of marks.
func TestErrorsOfTexts(t *testing.T) {
	for i, c := range []struct {
		text string
		want api.Errno
	}{
		{"EL6307B00046O", api.ErrClash}, {"EL6354B00045O", api.ErrRange}, {"EL6307b00045O", api.ErrForm}, // the chapter's
		{"", api.ErrForm}, {"E", api.ErrForm}, {"EL", api.ErrForm}, {"EL6307B00045", api.ErrForm}, {"EL6307B00045OO", api.ErrForm}, {"EL6307B00045O\n", api.ErrForm}, {" EL6307B00045O", api.ErrForm},
		{"6307B00045O", api.ErrForm}, {"ELELE6307B00045O", api.ErrForm}, {"el6307B00045O", api.ErrForm}, {"E6L307B00045O", api.ErrForm}, {"E16307B00045O", api.ErrForm}, {"EL630B00045O", api.ErrForm},
		{"EL6307B0004AO", api.ErrForm}, {"ELA307B00045O", api.ErrForm}, {"EL6307900045O", api.ErrForm}, {"EL6307B00045o", api.ErrForm}, {"EL6307B00045-", api.ErrForm}, {"EL6307B0+045O", api.ErrForm}, {"EL6307+00045O", api.ErrForm},
		{"EL6307B00045\xcf", api.ErrForm}, {"EL6307B0004\xc3\xa9", api.ErrForm}, {"EL6307B00045É", api.ErrForm}, {"É6307B00045O", api.ErrForm}, {"EL6307B0004/O", api.ErrForm}, {"EL6307B0004:O", api.ErrForm}, {"EL6307@00045O", api.ErrForm}, {"EL6307[00045O", api.ErrForm},
		{"EL6300B00045O", api.ErrRange}, {"EL6399B00045+", api.ErrRange}, {"EL6354B0004O", api.ErrForm}, // before the other errors
		{"EL6307B00045P", api.ErrClash}, {"EL6307B00045+", api.ErrClash}, {"EL6307B000450", api.ErrClash}, {"LE6307B00045O", api.ErrClash}, {"EL3607B00045O", api.ErrClash}, {"EL6307B00054O", api.ErrClash}, {"EL6301B00045O", api.ErrClash}, {"EL6353B00045O", api.ErrClash},
		{strings.Repeat("E", 100000), api.ErrForm}, {"E" + strings.Repeat("6", 100000), api.ErrForm},
	} {
		if m, e := Parse(c.text); m != (api.Mark{}) || e != c.want {
			t.Error(i, m, e)
		}
	}
}

// allSigns are the signs of marks, each at the place of its value.
const allSigns = "0123456789ABCDEFGHIJKLMNOPQRSTUVWXYZ+"

// plainCheck returns the check character that makes the sum of a text a multiple of 37.
func plainCheck(text string) string {
	for _, c := range allSigns {
		sum := strings.IndexRune(allSigns, c)
		for place := 1; place <= len(text); place++ {
			sum += place * strings.IndexByte(allSigns, text[place-1])
		}
		if sum%37 == 0 {
			return string(c)
		}
	}
	return ""
}

// mark returns a valid mark.
func (d *dice) mark() api.Mark {
	kind := ""
	for range d.from(1, 4) {
		kind += string(rune(d.from('A', 'Z')))
	}
	return mark(kind, d.upTo(100), d.from(1, 53), d.from(1, 26), d.upTo(100000))
}

// P8.5, P8.14 (marks): a mark is read from its text, of which the character that belongs to it is the last one.
func TestMarksAreRead(t *testing.T) {
	d := dice(40)
	last := map[byte]int{}
	for range 20000 {
		m := d.mark()
		s, e := Text(m)
		if e != api.OK || len(s) != len(m.Type)+11 || plainCheck(s[:len(s)-1]) != s[len(s)-1:] {
			t.Fatal(m, s, e)
		}
		if got, e := Parse(s); got != m || e != api.OK {
			t.Fatal(m, s, got, e)
		}
		last[s[len(s)-1]]++
	}
	if len(last) != 37 {
		t.Error(last)
	}
}

// isWeek reports whether the week of a text as it should be is one.
func isWeek(text string) bool {
	week := text[len(text)-9 : len(text)-7]
	return "01" <= week && week <= "53"
}

// P8.14: a text with one character changed is never read; with the check character that belongs to it, it is, if it is otherwise as it should.
func TestChangedTexts(t *testing.T) {
	d := dice(41)
	again := 0
	for range 300 {
		s, _ := Text(d.mark())
		for place := range len(s) {
			for c := range 256 {
				x := s[:place] + string([]byte{byte(c)}) + s[place+1:]
				if x == s {
					continue
				}
				m, e := Parse(x)
				if m != (api.Mark{}) || e == api.OK {
					t.Fatal(s, x, m, e)
				}
				is := e == api.ErrClash // its form and its week are as they should
				if place == len(s)-1 {
					if sign := strings.IndexByte(allSigns, byte(c)) >= 0; is != sign {
						t.Fatal(s, x, e)
					}
					continue
				}
				same := isDigit(rune(s[place])) && isDigit(rune(c)) || isLetter(rune(s[place])) && isLetter(rune(c))
				if is != (same && isWeek(x)) {
					t.Fatal(s, x, e)
				}
				if !is {
					continue
				}
				x = x[:len(x)-1] + plainCheck(x[:len(x)-1])
				m, e = Parse(x)
				if got, _ := Text(m); e != api.OK || got != x {
					t.Fatal(s, x, m, e)
				}
				again++
			}
		}
	}
	if again < 10000 {
		t.Error(again)
	}
}

// P8.14: a text with two neighbours exchanged that differ is never read.
func TestExchangedNeighbours(t *testing.T) {
	d := dice(42)
	clashes := 0
	for range 20000 {
		s, _ := Text(d.mark())
		for place := range len(s) - 1 {
			if s[place] == s[place+1] {
				continue
			}
			x := s[:place] + s[place+1:place+2] + s[place:place+1] + s[place+2:]
			m, e := Parse(x)
			if m != (api.Mark{}) || e == api.OK {
				t.Fatal(s, x, m, e)
			}
			if e == api.ErrClash {
				clashes++
			}
		}
	}
	if clashes < 50000 {
		t.Error(clashes)
	}
}
