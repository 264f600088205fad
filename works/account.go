package works

import "thermion/api"

// The numbers of the accounts.
const (
	nickel = iota
	mica
	barium
	glass
)

// materials are the names of the accounts, in their order.
var materials = [...]string{"nickel", "mica", "barium", "glass"}

// accountOf returns the number of the account of a material; -1 if there is no such material.
func accountOf(material string) int {
	for n, name := range materials {
		if name == material {
			return n
		}
	}
	return -1
}

// amounts says how much of some materials is taken, by the numbers of their accounts.
type amounts map[int]int

// place is where a material can be: which number of an account counts it.
type place func(a *api.Account) *int

// The places of materials.
func inStore(a *api.Account) *int { return &a.Store }
func inUse(a *api.Account) *int   { return &a.Used }
func inScrap(a *api.Account) *int { return &a.Scrap }
func inSold(a *api.Account) *int  { return &a.Sold }

// bought returns how much of a material was bought: it is somewhere.
func bought(a api.Account) int { return a.Store + a.Used + a.Scrap + a.Sold }

// has reports whether so much is in store.
func (f *foreman) has(l amounts) bool {
	for n, amount := range l {
		if f.Accounts[n].Store < amount {
			return false
		}
	}
	return true
}

// move lets materials go from one place to another one.
func (f *foreman) move(l amounts, from, to place) {
	for n, amount := range l { // in any order: each material has an account of its own
		a := &f.Accounts[n]
		*from(a) -= amount
		*to(a) += amount
	}
}

// cathodes returns what so many cathodes of a model take.
func cathodes(m api.Model, count int) amounts {
	return amounts{nickel: count * m.Nickel, barium: count * m.Barium}
}

// taken returns what a tube took.
func (f *foreman) taken(v api.Valve) amounts {
	m := f.modelOf(v)
	l := cathodes(m, 1)
	l[mica] = m.Mica
	if v.Run != 0 {
		l[glass] = m.Glass
	}
	return l
}
