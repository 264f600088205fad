package works

import (
	"slices"

	"thermion/api"
	"thermion/cathode"
	"thermion/pump"
)

// verdicts are the words for the verdicts.
var verdicts = [...]string{api.Sure: "sure", api.Never: "never", api.Unsure: "unsure"}

// modelOf returns the model of a tube.
func (f *foreman) modelOf(v api.Valve) api.Model { return f.plant.Models[f.batchOf(v).Model] }

// batchOf returns the lot of a tube.
func (f *foreman) batchOf(v api.Valve) api.Batch { return f.Batches[v.Batch-1] }

// tube returns the tube with a number; nil if there is none.
func (f *foreman) tube(number int) *api.Valve {
	if !within(number, 1, len(f.Valves)) {
		return nil
	}
	return &f.Valves[number-1]
}

// lot makes a lot of cathodes.
func (f *foreman) lot(o order) (string, api.Errno) {
	model, count, schedule := modelNamed(f.plant.Models, o.word), o.numbers[0], o.numbers[1]
	if model < 0 || !within(schedule, 0, len(f.plant.Schedules)-1) {
		return "", api.ErrMissing
	}
	if !within(count, 1, api.MaxMade) {
		return "", api.ErrRange
	}
	if len(f.Batches) == api.MaxMade {
		return "", api.ErrFull
	}
	m := f.plant.Models[model]
	takes := cathodes(m, count)
	if !f.has(takes) {
		return "", api.ErrShort
	}
	verdict, _, e := cathode.Judge(m.Coat, m.Demand, f.plant.Schedules[schedule])
	if e != api.OK { // there is none in a valid plant
		return "", e
	}
	f.move(takes, inStore, inUse)
	b := api.Batch{Model: model, Schedule: schedule, Made: count, Left: count, Verdict: verdict}
	if verdict != api.Sure {
		b.Left = 0
		f.move(takes, inUse, inScrap)
	}
	f.Batches = append(f.Batches, b)
	return sentence("lot", digits(len(f.Batches)), verdicts[verdict]), api.OK
}

// mount makes a tube with a cathode of a lot.
func (f *foreman) mount(o order) (string, api.Errno) {
	lot := o.numbers[0]
	if !within(lot, 1, len(f.Batches)) {
		return "", api.ErrMissing
	}
	b := &f.Batches[lot-1]
	if b.Left == 0 {
		return "", api.ErrShort
	}
	if len(f.Valves) == api.MaxMade {
		return "", api.ErrFull
	}
	m := f.plant.Models[b.Model]
	takes := amounts{mica: m.Mica}
	if !f.has(takes) {
		return "", api.ErrShort
	}
	b.Left--
	f.move(takes, inStore, inUse)
	f.Valves = append(f.Valves, api.Valve{Batch: lot, State: api.ValveOpen, Tests: make([][]api.Shown, len(m.Limits))})
	return sentence("tube", digits(len(f.Valves))), api.OK
}

// pump pumps tubes, each in a vessel of its own: they are sealed, or lost.
func (f *foreman) pump(o order) (string, api.Errno) {
	program, tubes := o.numbers[0], o.numbers[1:]
	if !within(program, 0, len(f.plant.Programs)-1) {
		return "", api.ErrMissing
	}
	x := f.plant.Programs[program]
	if len(tubes) > x.Slots {
		return "", api.ErrFull
	}
	if e := f.checkOpen(tubes); e != api.OK {
		return "", e
	}
	takes := f.bulbs(tubes)
	if !f.has(takes) {
		return "", api.ErrShort
	}
	good, e := sealable(x)
	if e != api.OK { // there is none in a valid plant
		return "", e
	}
	f.move(takes, inStore, inUse)
	f.Runs = append(f.Runs, program)
	words := []string{"run", digits(len(f.Runs))}
	for vessel, n := range tubes {
		words = append(words, digits(n)+f.seal(f.tube(n), vessel, good[vessel]))
	}
	return sentence(words...), api.OK
}

// checkOpen returns the first error of tubes that should be open, otherwise OK.
func (f *foreman) checkOpen(tubes []int) api.Errno {
	for i, n := range tubes {
		v := f.tube(n)
		if v == nil {
			return api.ErrMissing
		}
		if v.State != api.ValveOpen {
			return api.ErrState
		}
		if slices.Contains(tubes[:i], n) {
			return api.ErrExists
		}
	}
	return api.OK
}

// bulbs returns what tubes take when they are pumped.
func (f *foreman) bulbs(tubes []int) amounts {
	l := amounts{}
	for _, n := range tubes {
		l[glass] += f.modelOf(*f.tube(n)).Glass
	}
	return l
}

// sealable reports, of each vessel that takes a tube in a program, whether it may be sealed for sure at the end.
func sealable(x api.Program) ([]bool, api.Errno) {
	gas, e := pump.Run(x.Vacuum, x.Bakes)
	if e != api.OK {
		return nil, e
	}
	var l []bool
	for vessel := range x.Slots {
		verdict, e := pump.Seal(x.Vacuum, gas, vessel, x.Limit)
		if e != api.OK {
			return nil, e
		}
		l = append(l, verdict == api.Sure)
	}
	return l, api.OK
}

// seal ends the last run for a tube in a vessel, which is sealed if that is good, and lost otherwise. It returns the sign for it.
func (f *foreman) seal(v *api.Valve, vessel int, good bool) string {
	v.Run, v.Vessel = len(f.Runs), vessel
	if good {
		v.State = api.ValveSealed
		return "+"
	}
	f.lose(v)
	return "-"
}

// lose makes a tube scrap, with all that it took.
func (f *foreman) lose(v *api.Valve) {
	v.State = api.ValveLost
	f.move(f.taken(*v), inUse, inScrap)
}
