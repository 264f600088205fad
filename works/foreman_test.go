package works

import (
	"slices"
	"testing"

	"thermion/api"
)

// P10.1: time goes on up to 1,000,000,000.
func TestTick(t *testing.T) {
	try(t, plantX(), "tick 0", "error 2", "tick 999999999", "ok", "tick 2", "error 2", "tick 999999999", "error 2", "tick 1", "ok", "tick 1", "error 2", "tick 0", "error 2")
	if b := kept(t, plantX(), "tick 999999999", "tick 2", "tick 1"); b.Tick != 1000000000 {
		t.Error(b.Tick)
	}
	if b := kept(t, plantX(), "tick 5", "tick 0", "tick 70"); b.Tick != 75 {
		t.Error(b.Tick)
	}
}

// P10.1: guards are put up and taken down; six can be up.
func TestGuards(t *testing.T) {
	p := bare(plantX())
	six := []string{"guard f", "ok", "guard e", "ok", "guard d", "ok", "guard c", "ok", "guard b", "ok", "guard a", "ok"}
	try(t, p, after(six, "guard a", "error 9", "guard f", "error 9", "guard g", "error 8", "free g", "error 7", "free d", "ok", "free d", "error 7", "guard g", "ok", "guard d", "error 8", "free f", "ok", "free a", "ok", "guard a", "ok", "guard a", "error 9")...)
	lines := []string{"guard b", "guard a", "guard c", "free a", "guard d", "guard a"}
	if b := kept(t, p, lines...); !slices.Equal(b.Guards, []string{"b", "c", "d", "a"}) {
		t.Error(b.Guards)
	}
	if b := kept(t, p, "guard a", "free a"); len(b.Guards) > 0 {
		t.Error(b.Guards)
	}
}

// P10.1: materials are bought up to 1,000,000 of each, wherever they are.
func TestBuy(t *testing.T) {
	p := bare(plantX())
	for n, m := range []string{"nickel", "mica", "barium", "glass"} {
		try(t, p, "buy "+m+" 0", "error 2", "buy "+m+" 1000001", "error 2", "buy "+m+" 999999", "ok", "buy "+m+" 2", "error 2", "buy "+m+" 1", "ok", "buy "+m+" 1", "error 2", "stock "+m, "stock 1000000 0 0 0")
		want := make([]api.Account, 4)
		want[n].Store = 12
		if b := kept(t, p, "buy "+m+" 5", "buy "+m+" 7", "buy "+m+" 0"); !slices.Equal(b.Accounts, want) {
			t.Error(m, b.Accounts)
		}
	}
	// What is used, scrap or sold counts, too: 5 are sold, 5 in a tube that is sealed, and 5 are scrap.
	l := after(sealed(3), "show 1 0 0 110", "ok", "sell 1", "EL0001B00001Y", "scrap 3", "ok", "stock nickel", "stock 9985 5 5 5")
	try(t, p, after(l, "buy nickel 990001", "error 2", "buy nickel 990000", "ok", "stock nickel", "stock 999985 5 5 5", "buy nickel 1", "error 2")...)
}

// P10.1: a rule bars the lines of its verb, before all errors but that of their form.
func TestRules(t *testing.T) {
	p := plantX()
	p.Rules = []api.Rule{{Verb: "tick", Needs: []string{"a", "b"}}, {Verb: "buy", Bars: []string{"c", "d"}}, {Verb: "lot", Needs: []string{"a"}, Bars: []string{"c"}}, {Verb: "stock", Needs: []string{"a"}}, {Verb: "stock", Needs: []string{"b"}}, {Verb: "trace"}}
	try(t, p, "tick 1", "error 10", "tick 0", "error 10", "tick x", "error 3", "tick", "error 3", "guard b", "ok", "tick 1", "error 10", "guard a", "ok", "tick 1", "ok", "tick 0", "error 2", "free b", "ok", "tick 1", "error 10")
	try(t, p, "buy mica 1", "ok", "guard d", "ok", "buy mica 1", "error 10", "buy mica 0", "error 10", "buy iron 1", "error 3", "guard c", "ok", "free d", "ok", "buy mica 1", "error 10", "free c", "ok", "buy mica 1", "ok")
	try(t, p, "lot XX 1 0", "error 10", "guard a", "ok", "lot XX 1 0", "error 7", "guard c", "ok", "lot XX 1 0", "error 10", "free a", "ok", "lot XX 1 0", "error 10", "free c", "ok", "lot XX 1 0", "error 10")
	try(t, p, "stock mica", "error 10", "guard a", "ok", "stock mica", "error 10", "guard b", "ok", "stock mica", "stock 0 0 0 0", "free a", "ok", "stock mica", "error 10")
	try(t, p, "trace 1", "error 7", "mount 1", "error 7")
	// Rules of the verbs for guards themselves.
	p.Rules = []api.Rule{{Verb: "guard", Needs: []string{"a"}}, {Verb: "free", Bars: []string{"a"}}}
	try(t, p, "guard a", "error 10", "guard b", "error 10", "free b", "error 7")
	p.Rules = []api.Rule{{Verb: "guard", Bars: []string{"a"}}, {Verb: "free", Needs: []string{"a"}}}
	try(t, p, "free b", "error 10", "guard b", "ok", "guard a", "ok", "guard c", "error 10", "free b", "ok", "free a", "ok", "free a", "error 10")
	// A rule that nothing can keep.
	p.Rules = []api.Rule{{Verb: "judge", Needs: []string{"a"}, Bars: []string{"a"}}}
	try(t, p, "judge 1", "error 10", "guard a", "ok", "judge 1", "error 10")
}

// P10.1: without lines the books are as at the beginning.
func TestBeginning(t *testing.T) {
	b := kept(t, plantX())
	if !same(b, api.Books{Accounts: make([]api.Account, 4)}) {
		t.Error(b)
	}
	if text, e := Run(plantX(), ""); text != "" || e != api.OK {
		t.Error(text, e)
	}
	if text, e := Log(plantX(), ""); text != "" || e != api.OK {
		t.Error(text, e)
	}
}
