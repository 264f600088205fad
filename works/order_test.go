package works

import (
	"maps"
	"slices"
	"strings"
	"testing"
)

// P10.1: the chapter's examples.
func TestExamples(t *testing.T) {
	first := []string{"lot EL 2 0", "error 6", "buy nickel 20", "ok", "buy barium 9", "ok", "buy mica 9", "ok", "buy glass 50", "ok", "lot EL 2 0", "lot 1 sure", "mount 1", "tube 1", "mount 1", "tube 2", "mount 1", "error 6", "pump 0 1", "error 10", "guard screen", "ok", "pump 0 1", "run 1 1+", "pump 0 1", "error 10", "judge 1", "unsure 0", "show 1 0 0 110", "ok", "judge 1", "sure"}
	try(t, plantP(), after(first, "pairs EL", "pairs", "tick 700", "ok", "sell 1", "error 10", "trace 1", "tube 1 lot 1 schedule 0 run 1 tests 1 sealed", "stock nickel", "stock 10 10 0 0")...)
	try(t, plantP(), after(first, "tick 50", "ok", "sell 1", "EL0001B00001Y", "stock glass", "stock 40 0 0 10")...)
}

// P10.1: each verb is known in the form of its lines, and something is done with them.
func TestVerbs(t *testing.T) {
	a, b := slices.Sorted(maps.Keys(forms())), slices.Sorted(maps.Keys(verbs()))
	if !slices.Equal(a, b) || len(a) != 14 {
		t.Error(a, b)
	}
}

// asSaid are lines that are as said, with the replies of plantX to each of them as the only one.
func asSaid() []string {
	return []string{
		"tick 1", "ok", "tick 999999999", "ok", "tick 0", "error 2",
		"guard a", "ok", "guard z", "ok", "guard abcdefghijkl", "ok", "guard guard", "ok", "free az", "error 7", "free zzzzzzzzzzzz", "error 7",
		"buy nickel 1", "ok", "buy mica 10", "ok", "buy barium 100", "ok", "buy glass 1000000", "ok", "buy glass 999999999", "error 2",
		"lot EL 1 0", "error 6", "lot A 1 0", "error 7", "lot ZZZZ 0 999999999", "error 7", "lot PL 999999999 0", "error 2",
		"mount 0", "error 7", "mount 999999999", "error 7", "pump 0 1", "error 10", "pump 0 1 1 1", "error 10",
		"show 1 0 0 0", "error 7", "show 1 0 0 -1", "error 7", "show 1 0 0 -999999999", "error 7", "show 999999999 999999999 999999999 999999999", "error 7",
		"judge 1", "error 7", "sell 1", "error 10", "scrap 1", "error 7", "trace 0", "error 7", "trace 999999999", "error 7",
		"pairs EL", "pairs", "pairs A", "error 7", "stock nickel", "stock 0 0 0 0", "stock mica", "stock 0 0 0 0", "stock barium", "stock 0 0 0 0", "stock glass", "stock 0 0 0 0",
	}
}

// P10.1: lines that are as said are done; those that are nearly so are not.
func TestForms(t *testing.T) {
	l := asSaid()
	for i := 0; i < len(l); i += 2 {
		line := l[i]
		try(t, plantX(), line, l[i+1])
		verb, rest, _ := strings.Cut(line, " ")
		for _, s := range []string{verb, verb + "  " + rest, " " + line, line + " ", line + " x", line + "!", line + " -1", line + "\r", line + "\t", strings.ToUpper(verb) + " " + rest, verb + "s " + rest, verb[1:] + " " + rest, rest, verb + "\t" + rest, "é" + line} {
			try(t, bare(plantX()), s, "error 3")
		}
		if more := line + " 1"; verb != "pump" {
			try(t, bare(plantX()), more, "error 3")
		}
	}
	numbers := []string{"", "00", "01", "-0", "-1", "+1", "1000000000", "0000000001", "1_0", "0x1", "1e1", "1.0", "x", "٣", "99999999999999999999", "-99999999999999999999", "--1", "1-", "-"}
	for _, form := range []string{"tick N", "buy mica N", "lot EL N 0", "lot EL 1 N", "mount N", "pump N 1", "pump 0 N", "pump 0 1 N", "pump 0 N 1", "show N 0 0 0", "show 1 N 0 0", "show 1 0 N 0", "judge N", "sell N", "scrap N", "trace N"} {
		for _, n := range numbers {
			try(t, bare(plantX()), strings.Replace(form, "N", n, 1), "error 3")
		}
	}
	for _, n := range numbers { // this one may be below 0
		if n != "-1" {
			try(t, bare(plantX()), "show 1 0 0 "+n, "error 3")
		}
	}
	for _, n := range []string{"-01", "-1000000000", "--1", "- 1"} {
		try(t, bare(plantX()), "show 1 0 0 "+n, "error 3")
	}
	for _, name := range []string{"", "A", "aB", "a1", "abcdefghijklm", "`", "{", "é", "a\xff", "a-b", strings.Repeat("a", 1000)} {
		try(t, plantX(), "guard "+name, "error 3", "free "+name, "error 3")
	}
	for _, name := range []string{"", "el", "eL", "E1", "ABCDE", "@", "[", "É", "A\xff", strings.Repeat("A", 1000)} {
		try(t, plantX(), "lot "+name+" 1 0", "error 3", "pairs "+name, "error 3")
	}
	for _, name := range []string{"", "iron", "Nickel", "nick", "nickels", "micaglass", "0", "1"} {
		try(t, plantX(), "buy "+name+" 1", "error 3", "stock "+name, "error 3")
	}
	for _, line := range []string{"", " ", "\x00", "ok", "error 3", "pump", "pump 0", "show", "buy 1 nickel", "lot 1 EL 0"} {
		try(t, bare(plantX()), line, "error 3")
	}
}
