package works

import (
	"slices"

	"thermion/api"
	"thermion/cathode"
	"thermion/gauge"
	"thermion/pump"
)

// The greatest numbers of a plant.
const (
	maxLine  = 26
	maxTaken = 1000
	maxTol   = 1000000
	maxWeek  = 1000000
)

// Check returns the first error of a plant, otherwise OK.
func Check(p api.Plant) api.Errno {
	if e := checkModels(p.Models); e != api.OK {
		return e
	}
	if e := checkSchedules(p.Schedules); e != api.OK {
		return e
	}
	if e := gauge.Check(p.Bench); e != api.OK {
		return e
	}
	if e := checkPrograms(p.Programs); e != api.OK {
		return e
	}
	if e := checkRules(p.Rules); e != api.OK {
		return e
	}
	if !within(p.Week, 1, maxWeek) {
		return api.ErrRange
	}
	return api.OK
}

// checkCount returns the error of a list that should have 1 thing to most, otherwise OK.
func checkCount(things, most int) api.Errno {
	if things == 0 {
		return api.ErrShort
	}
	if things > most {
		return api.ErrFull
	}
	return api.OK
}

// checkModels returns the first error of models, otherwise OK.
func checkModels(l []api.Model) api.Errno {
	if e := checkCount(len(l), api.MaxModels); e != api.OK {
		return e
	}
	for i, m := range l {
		if !isType(m.Name) {
			return api.ErrForm
		}
		if modelNamed(l[:i], m.Name) >= 0 {
			return api.ErrExists
		}
		if e := checkModel(m); e != api.OK {
			return e
		}
	}
	return api.OK
}

// modelNamed returns the number of the model with a name; -1 if there is none.
func modelNamed(l []api.Model, name string) int {
	return slices.IndexFunc(l, func(m api.Model) bool { return m.Name == name })
}

// checkModel returns the first error of a model whose name is right, otherwise OK.
func checkModel(m api.Model) api.Errno {
	if !within(m.Line, 1, maxLine) {
		return api.ErrRange
	}
	for _, n := range []int{m.Nickel, m.Mica, m.Barium, m.Glass} {
		if !within(n, 0, maxTaken) {
			return api.ErrRange
		}
	}
	if e := checkTests(m); e != api.OK {
		return e
	}
	_, _, e := cathode.Judge(m.Coat, m.Demand, nil)
	return e
}

// checkTests returns the first error of the limits and tolerances of a model's tests, otherwise OK.
func checkTests(m api.Model) api.Errno {
	if e := checkCount(len(m.Limits), api.MaxValues); e != api.OK {
		return e
	}
	if len(m.Tol) != len(m.Limits) {
		return api.ErrForm
	}
	for _, r := range m.Limits {
		if r.Lo > r.Hi {
			return api.ErrOrder
		}
	}
	for _, n := range m.Tol {
		if !within(n, 0, maxTol) {
			return api.ErrRange
		}
	}
	return api.OK
}

// checkSchedules returns the first error of schedules, otherwise OK.
func checkSchedules(l [][]api.Heating) api.Errno {
	if len(l) > api.MaxRecipes {
		return api.ErrFull
	}
	for _, s := range l {
		if e := cathode.CheckSchedule(s); e != api.OK {
			return e
		}
	}
	return api.OK
}

// checkPrograms returns the first error of programs, otherwise OK.
func checkPrograms(l []api.Program) api.Errno {
	if len(l) > api.MaxPrograms {
		return api.ErrFull
	}
	for _, x := range l {
		if _, e := pump.Run(x.Vacuum, x.Bakes); e != api.OK {
			return e
		}
		if !within(x.Slots, 1, len(x.Vacuum.Vessels)) || x.Limit < 0 {
			return api.ErrRange
		}
	}
	return api.OK
}

// checkRules returns the first error of rules, otherwise OK.
func checkRules(l []api.Rule) api.Errno {
	if len(l) > api.MaxRules {
		return api.ErrFull
	}
	known := verbs()
	for _, r := range l {
		if known[r.Verb] == nil {
			return api.ErrKind
		}
		for _, names := range [][]string{r.Needs, r.Bars} {
			if e := checkNames(names); e != api.OK {
				return e
			}
		}
	}
	return api.OK
}

// checkNames returns the first error of the names of guards, otherwise OK.
func checkNames(l []string) api.Errno {
	if len(l) > api.MaxNames {
		return api.ErrFull
	}
	for _, name := range l {
		if !isName(name) {
			return api.ErrForm
		}
	}
	return api.OK
}
