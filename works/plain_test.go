package works

import (
	"fmt"
	"regexp"
	"slices"
	"strconv"
	"strings"
	"testing"

	"thermion/api"
	"thermion/cathode"
	"thermion/gauge"
	"thermion/match"
	"thermion/pump"
)

// plainTube is a tube of a plain works.
type plainTube struct {
	lot, run, vessel int
	state            string
	tests            [][]api.Shown
	mark             string
}

// plain is a works that is done plainly: it keeps what was made, and finds where materials are from that.
type plain struct {
	p      api.Plant
	time   int
	guards []string
	bought map[string]int
	lots   []api.Batch
	runs   []int
	tubes  []plainTube
	log    string
}

// plainForms are the forms of lines, as regular expressions.
var plainForms = func() map[string]*regexp.Regexp {
	n := `(0|[1-9][0-9]{0,8})`
	material, model := `(nickel|mica|barium|glass)`, `([A-Z]{1,4})`
	all := map[string]*regexp.Regexp{}
	for verb, rest := range map[string]string{"tick": n, "guard": `([a-z]{1,12})`, "free": `([a-z]{1,12})`, "buy": material + " " + n, "lot": model + " " + n + " " + n, "mount": n, "pump": n + "( " + n + ")+", "show": n + " " + n + " " + n + " (" + n + "|-[1-9][0-9]{0,8})", "judge": n, "sell": n, "scrap": n, "pairs": model, "trace": n, "stock": material} {
		all[verb] = regexp.MustCompile("^" + verb + " " + rest + "$")
	}
	return all
}()

// where returns how much of a material is in store, used, scrap, and sold.
func (x *plain) where(material string) [4]int {
	var is [4]int // first what is not in store
	for n, b := range x.lots {
		m, left := x.p.Models[b.Model], b.Made
		each := map[string]int{"nickel": m.Nickel, "barium": m.Barium}
		for _, v := range x.tubes {
			if v.lot == n+1 {
				left--
				at := map[string]int{"open": 1, "sealed": 1, "lost": 2, "sold": 3}[v.state]
				is[at] += each[material]
				if material == "mica" {
					is[at] += m.Mica
				}
				if material == "glass" && v.run > 0 {
					is[at] += m.Glass
				}
			}
		}
		if b.Verdict == api.Sure {
			is[1] += left * each[material]
		} else {
			is[2] += left * each[material]
		}
	}
	is[0] = x.bought[material] - is[1] - is[2] - is[3]
	return is
}

// model returns the number of a model, tube a tube.
func (x *plain) model(name string) int {
	for n, m := range x.p.Models {
		if m.Name == name {
			return n
		}
	}
	return -1
}

func (x *plain) tube(n int) *plainTube { return &x.tubes[n-1] }

// modelOf returns the model of a tube.
func (x *plain) modelOf(n int) api.Model { return x.p.Models[x.lots[x.tube(n).lot-1].Model] }

// good reports whether a tube is sealed, and judged Sure.
func (x *plain) good(n int) bool {
	verdict, _, e := x.judged(n)
	return x.tube(n).state == "sealed" && e == api.OK && verdict == api.Sure
}

func (x *plain) judged(n int) (verdict, place int, e api.Errno) {
	return gauge.Sheet(x.p.Bench, x.time, x.modelOf(n).Limits, x.tube(n).tests)
}

// bad is an error, if a condition holds (it is asked only if no error before it holds).
type bad struct {
	e  api.Errno
	is func() bool
}

// errorsOf returns the errors of a line that is as said, in the order of the chapter's table: a are its words behind the verb, n the numbers that they are.
func (x *plain) errorsOf(verb string, a []string, n []int) []bad {
	noTube := func() bool { return n[0] < 1 || n[0] > len(x.tubes) }
	isnt := func(state string) func() bool { return func() bool { return x.tube(n[0]).state != state } }
	noModel := func() bool { return x.model(a[0]) < 0 }
	less := func(material string, need func() int) func() bool {
		return func() bool { return x.where(material)[0] < need() }
	}
	var sheet api.Errno
	var verdict int
	ofSheet := func() bool { verdict, _, sheet = x.judged(n[0]); return sheet != api.OK }
	switch verb {
	case "tick":
		return []bad{{2, func() bool { return n[0] == 0 || x.time+n[0] > 1000000000 }}}
	case "guard":
		return []bad{{9, func() bool { return slices.Contains(x.guards, a[0]) }}, {8, func() bool { return len(x.guards) >= 6 }}}
	case "free":
		return []bad{{7, func() bool { return !slices.Contains(x.guards, a[0]) }}}
	case "buy":
		return []bad{{2, func() bool { return n[1] == 0 || x.bought[a[0]]+n[1] > 1000000 }}}
	case "lot":
		m := func() api.Model { return x.p.Models[x.model(a[0])] }
		return []bad{{7, noModel}, {7, func() bool { return n[2] >= len(x.p.Schedules) }}, {2, func() bool { return n[1] == 0 || n[1] > 60 }}, {8, func() bool { return len(x.lots) >= 60 }}, {6, less("nickel", func() int { return n[1] * m().Nickel })}, {6, less("barium", func() int { return n[1] * m().Barium })}}
	case "mount":
		return []bad{{7, func() bool { return n[0] < 1 || n[0] > len(x.lots) }}, {6, func() bool { return x.lots[n[0]-1].Left == 0 }}, {8, func() bool { return len(x.tubes) >= 60 }}, {6, less("mica", func() int { return x.p.Models[x.lots[n[0]-1].Model].Mica })}}
	case "pump":
		return x.errorsOfPump(n)
	case "show":
		return []bad{{7, noTube}, {7, func() bool { return n[1] >= len(x.tube(n[0]).tests) }}, {10, isnt("sealed")}, {7, func() bool { return n[2] >= len(x.p.Bench) }}, {10, func() bool { return x.p.Bench[n[2]].Due < x.time }}, {3, func() bool { return n[3]%x.p.Bench[n[2]].Step != 0 }}, {12, func() bool { _, e := gauge.True(x.p.Bench, n[2], n[3]); return e == api.ErrClash }}, {8, func() bool { return len(x.tube(n[0]).tests[n[1]]) >= 10 }}}
	case "judge", "sell":
		l := []bad{{7, noTube}, {10, isnt("sealed")}}
		for _, e := range []api.Errno{api.ErrState, api.ErrClash} { // there are no others
			l = append(l, bad{e, func() bool { return ofSheet() && sheet == e }})
		}
		return append(l, bad{15, func() bool { return verb == "sell" && verdict != api.Sure }})
	case "scrap":
		return []bad{{7, noTube}, {10, func() bool { return isnt("open")() && isnt("sealed")() }}}
	case "pairs":
		return []bad{{7, noModel}, {14, func() bool { return len(x.items(x.model(a[0]))) > 24 }}}
	case "trace":
		return []bad{{7, noTube}}
	}
	return nil
}

// errorsOfPump is errorsOf for pumping.
func (x *plain) errorsOfPump(n []int) []bad {
	l := []bad{{7, func() bool { return n[0] >= len(x.p.Programs) }}, {8, func() bool { return len(n)-1 > x.p.Programs[n[0]].Slots }}}
	for i, v := range n[1:] {
		l = append(l, bad{7, func() bool { return v < 1 || v > len(x.tubes) }}, bad{10, func() bool { return x.tube(v).state != "open" }}, bad{9, func() bool { return slices.Contains(n[1:][:i], v) }})
	}
	return append(l, bad{6, func() bool {
		need := 0
		for _, v := range n[1:] {
			need += x.modelOf(v).Glass
		}
		return x.where("glass")[0] < need
	}})
}

// items returns the tubes of a model that can be paired.
func (x *plain) items(model int) []int {
	var l []int
	for i, v := range x.tubes {
		if x.lots[v.lot-1].Model == model && x.good(i+1) {
			l = append(l, i+1)
		}
	}
	return l
}

// barred reports whether rules bar a verb.
func (x *plain) barred(verb string) bool {
	up := map[string]bool{}
	for _, name := range x.guards {
		up[name] = true
	}
	for _, r := range x.p.Rules {
		for _, name := range r.Needs {
			if r.Verb == verb && !up[name] {
				return true
			}
		}
		for _, name := range r.Bars {
			if r.Verb == verb && up[name] {
				return true
			}
		}
	}
	return false
}

// reply does a line, and returns the reply.
func (x *plain) reply(line string) string {
	a := strings.Split(line, " ")
	form := plainForms[a[0]]
	if form == nil || !form.MatchString(line) {
		return "error 3"
	}
	if x.barred(a[0]) {
		return "error 10"
	}
	verb, a := a[0], a[1:]
	var n []int
	for _, word := range a {
		k, _ := strconv.Atoi(word)
		n = append(n, k)
	}
	for _, b := range x.errorsOf(verb, a, n) {
		if b.is() {
			return fmt.Sprint("error ", int(b.e))
		}
	}
	if s := x.make(verb, a, n); s != "" {
		return s
	}
	return x.use(verb, a, n)
}

// make does lines that come before tubes are sealed; it returns nothing for others.
func (x *plain) make(verb string, a []string, n []int) string {
	switch verb {
	case "tick":
		x.time += n[0]
		return "ok"
	case "guard":
		x.guards = append(x.guards, a[0])
		return "ok"
	case "free":
		x.guards = slices.DeleteFunc(x.guards, func(name string) bool { return name == a[0] })
		return "ok"
	case "buy":
		x.bought[a[0]] += n[1]
		return "ok"
	case "lot":
		m := x.model(a[0])
		verdict, _, _ := cathode.Judge(x.p.Models[m].Coat, x.p.Models[m].Demand, x.p.Schedules[n[2]])
		b := api.Batch{Model: m, Schedule: n[2], Made: n[1], Verdict: verdict}
		if verdict == api.Sure {
			b.Left = n[1]
		}
		x.lots = append(x.lots, b)
		return fmt.Sprint("lot ", len(x.lots), []string{"", " sure", " never", " unsure"}[verdict])
	case "mount":
		b := &x.lots[n[0]-1]
		b.Left--
		x.tubes = append(x.tubes, plainTube{lot: n[0], state: "open", tests: make([][]api.Shown, len(x.p.Models[b.Model].Limits))})
		return fmt.Sprint("tube ", len(x.tubes))
	case "pump":
		o := x.p.Programs[n[0]]
		x.runs = append(x.runs, n[0])
		gas, _ := pump.Run(o.Vacuum, o.Bakes)
		s := fmt.Sprint("run ", len(x.runs))
		for i, k := range n[1:] {
			v := x.tube(k)
			v.run, v.vessel, v.state = len(x.runs), i, "lost"
			sign := "-"
			if verdict, _ := pump.Seal(o.Vacuum, gas, i, o.Limit); verdict == api.Sure {
				v.state, sign = "sealed", "+"
			}
			s += fmt.Sprint(" ", k, sign)
		}
		return s
	}
	return ""
}

// use does the other lines.
func (x *plain) use(verb string, a []string, n []int) string {
	switch verb {
	case "show":
		v := x.tube(n[0])
		v.tests[n[1]] = append(v.tests[n[1]], api.Shown{Meter: n[2], Number: n[3]})
		x.log += fmt.Sprintln(x.time, n[0], n[1], n[2], n[3])
	case "judge":
		verdict, place, _ := x.judged(n[0])
		return []string{"", "sure", fmt.Sprint("never ", place), fmt.Sprint("unsure ", place)}[verdict]
	case "sell":
		m, week := x.modelOf(n[0]), x.time/x.p.Week
		x.tube(n[0]).state = "sold"
		x.tube(n[0]).mark, _ = match.Text(api.Mark{Type: m.Name, Year: week / 52 % 100, Week: week%52 + 1, Line: m.Line, Number: n[0]})
		return x.tube(n[0]).mark
	case "scrap":
		x.tube(n[0]).state = "lost"
	case "pairs":
		s := api.Sorting{Tol: x.p.Models[x.model(a[0])].Tol}
		l := x.items(x.model(a[0]))
		for _, k := range l {
			var item []api.Range
			for _, shown := range x.tube(k).tests {
				r, _ := gauge.Together(x.p.Bench, shown)
				item = append(item, r)
			}
			s.Items = append(s.Items, item)
		}
		text := "pairs"
		pairs, _ := match.Pairs(s)
		for _, p := range pairs {
			text += fmt.Sprintf(" %d-%d", l[p[0]], l[p[1]])
		}
		return text
	case "trace":
		v, shown := x.tube(n[0]), len(slices.Concat(x.tube(n[0]).tests...))
		return strings.TrimRight(fmt.Sprintf("tube %d lot %d schedule %d run %d tests %d %s %s", n[0], v.lot, x.lots[v.lot-1].Schedule, v.run, shown, v.state, v.mark), " ")
	case "stock":
		is := x.where(a[0])
		return fmt.Sprint("stock ", is[0], " ", is[1], " ", is[2], " ", is[3])
	}
	return "ok"
}

// books returns the books of a plain works.
func (x *plain) books() api.Books {
	b := api.Books{Tick: x.time, Guards: x.guards, Batches: x.lots, Runs: x.runs}
	for _, m := range []string{"nickel", "mica", "barium", "glass"} {
		is := x.where(m)
		b.Accounts = append(b.Accounts, api.Account{Store: is[0], Used: is[1], Scrap: is[2], Sold: is[3]})
	}
	for _, v := range x.tubes {
		state := map[string]int{"open": 1, "sealed": 2, "lost": 3, "sold": 4}[v.state]
		b.Valves = append(b.Valves, api.Valve{Batch: v.lot, Run: v.run, Vessel: v.vessel, State: state, Tests: v.tests, Mark: v.mark})
	}
	return b
}

// plainWorks is a plain works at the beginning.
func plainWorks(p api.Plant) *plain { return &plain{p: p, bought: map[string]int{}} }

// P10.1: replies, books and logs are those of a plain works.
func TestPlainWorks(t *testing.T) {
	count := map[string]int{}
	works(t, 1, 800, func(d *dice, p api.Plant, lines []string) {
		x := plainWorks(p)
		replies := repliesTo(t, p, lines...)
		for i, line := range lines {
			r := x.reply(line)
			if r != replies[i] {
				t.Fatalf("%d, %q: %q, not %q", i, line, replies[i], r)
			}
			kind := verbOf(line) + " " + verbOf(r)
			if isError(r) {
				kind = verbOf(line) + " " + r
			}
			count[kind]++
		}
		if b := kept(t, p, lines...); !same(b, x.books()) {
			t.Error(b, x.books())
		}
		if s := logged(t, p, lines...); s != x.log {
			t.Error(s, x.log)
		}
	})
	for _, kind := range []string{"tick ok", "tick error 2", "guard ok", "guard error 9", "guard error 8", "free ok", "free error 7", "buy ok", "buy error 2", "lot lot", "lot error 2", "lot error 6", "lot error 7", "mount tube", "mount error 6", "mount error 7", "mount error 8", "pump run", "pump error 6", "pump error 7", "pump error 8", "pump error 9", "pump error 10", "show ok", "show error 3", "show error 7", "show error 8", "show error 10", "show error 12", "judge sure", "judge never", "judge unsure", "judge error 7", "judge error 10", "judge error 12", "sell error 7", "sell error 10", "sell error 12", "sell error 15", "scrap ok", "scrap error 7", "scrap error 10", "pairs pairs", "pairs error 7", "trace tube", "trace error 7", "stock stock", "stock error 3", "stock error 10"} {
		if count[kind] < 10 {
			t.Error(kind, count[kind])
		}
	}
}
