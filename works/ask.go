package works

import (
	"thermion/api"
	"thermion/gauge"
	"thermion/match"
)

// states are the words for the states of tubes.
var states = [...]string{api.ValveOpen: "open", api.ValveSealed: "sealed", api.ValveLost: "lost", api.ValveSold: "sold"}

// pairs says which tubes of a model are alike, two by two.
func (f *foreman) pairs(o order) (string, api.Errno) {
	model := modelNamed(f.plant.Models, o.word)
	if model < 0 {
		return "", api.ErrMissing
	}
	tubes := f.good(model)
	if len(tubes) > api.MaxItems {
		return "", api.ErrOver
	}
	s := api.Sorting{Tol: f.plant.Models[model].Tol}
	for _, n := range tubes {
		item, e := f.values(n)
		if e != api.OK { // there is none for tubes that are good
			return "", e
		}
		s.Items = append(s.Items, item)
	}
	l, e := match.Pairs(s)
	if e != api.OK { // nor here: true values are numbers that items may have
		return "", e
	}
	words := []string{"pairs"}
	for _, p := range l {
		words = append(words, digits(tubes[p[0]])+"-"+digits(tubes[p[1]]))
	}
	return sentence(words...), api.OK
}

// good returns the numbers of the tubes of a model that could be sold.
func (f *foreman) good(model int) []int {
	var l []int
	for i, v := range f.Valves {
		if f.batchOf(v).Model != model {
			continue
		}
		verdict, _, e := f.verdictOn(i + 1)
		if e == api.OK && verdict == api.Sure {
			l = append(l, i+1)
		}
	}
	return l
}

// values returns what the tests of a tube say of its values.
func (f *foreman) values(number int) ([]api.Range, api.Errno) {
	var l []api.Range
	for _, shown := range f.tube(number).Tests {
		r, e := gauge.Together(f.plant.Bench, shown)
		if e != api.OK {
			return nil, e
		}
		l = append(l, r)
	}
	return l, api.OK
}

// trace says where a tube comes from, and what has become of it.
func (f *foreman) trace(o order) (string, api.Errno) {
	n := o.numbers[0]
	v := f.tube(n)
	if v == nil {
		return "", api.ErrMissing
	}
	shown := 0
	for _, l := range v.Tests {
		shown += len(l)
	}
	words := []string{"tube", digits(n), "lot", digits(v.Batch), "schedule", digits(f.batchOf(*v).Schedule), "run", digits(v.Run), "tests", digits(shown), states[v.State]}
	if v.State == api.ValveSold {
		words = append(words, v.Mark)
	}
	return sentence(words...), api.OK
}

// stock says where a material is.
func (f *foreman) stock(o order) (string, api.Errno) {
	a := f.Accounts[accountOf(o.word)]
	return sentence("stock", digits(a.Store), digits(a.Used), digits(a.Scrap), digits(a.Sold)), api.OK
}
