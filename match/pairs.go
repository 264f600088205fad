package match

import "thermion/api"

// grower says how many pairs items of a set can have; it keeps what it was asked.
type grower struct {
	likes
	asked map[set]int
}

// newGrower returns a grower for the items of a valid sorting.
func newGrower(s api.Sorting) grower { return grower{likesOf(s), map[set]int{}} }

// most returns how many pairs items of a set can have.
func (g grower) most(in set) int {
	if n, is := g.asked[in]; is {
		return n
	}
	n := g.grow(in)
	g.asked[in] = n
	return n
}

// partner returns the first of some items with which another one can be paired so that there are no fewer pairs than can be; none if it has to be left out.
func (g grower) partner(a int, rest set) int {
	most := g.most(rest.with(a))
	for b := range (g.likes[a] & rest).all() {
		if 1+g.most(rest.without(b)) == most {
			return b
		}
	}
	return none
}

// Pairs returns the pairs of the best pairing of a sorting.
func Pairs(s api.Sorting) ([][2]int, api.Errno) {
	if e := Check(s); e != api.OK {
		return nil, e
	}
	g := newGrower(s)
	var l [][2]int
	for rest := g.items(); rest != 0; {
		a := rest.first()
		rest = rest.without(a)
		if b := g.partner(a, rest); b != none {
			l = append(l, [2]int{a, b})
			rest = rest.without(b)
		}
	}
	return l, api.OK
}

// Bound returns the bound of a cut: no pairing has more pairs.
func Bound(s api.Sorting, cut []int) (int, api.Errno) {
	if e := Check(s); e != api.OK {
		return 0, e
	}
	for i, n := range cut {
		if !isItem(s, n) {
			return 0, api.ErrMissing
		}
		if i > 0 && n <= cut[i-1] {
			return 0, api.ErrOrder
		}
	}
	l := likesOf(s)
	return (len(l) + len(cut) - l.oddParts(l.items()&^setOf(cut...))) / 2, api.OK
}

// oddParts returns how many parts with an odd number of items the items of a set fall into.
func (l likes) oddParts(in set) int {
	odd := 0
	for in != 0 {
		part := l.part(in.first(), in)
		odd += part.count() % 2
		in &^= part
	}
	return odd
}

// part returns the items of a set to which ways lead from one of them, over items of the set.
func (l likes) part(start int, in set) set {
	part := setOf(start)
	for queue := []int{start}; len(queue) > 0; queue = queue[1:] {
		more := l[queue[0]] & in &^ part
		part |= more
		queue = append(queue, more.list()...)
	}
	return part
}

// Proof returns the cut whose bound is the number of pairs of the best pairing.
func Proof(s api.Sorting) ([]int, api.Errno) {
	if e := Check(s); e != api.OK {
		return nil, e
	}
	g := newGrower(s)
	free := g.free()
	var beside set
	for a := range free.all() {
		beside |= g.likes[a]
	}
	return (beside &^ free).list(), api.OK
}

// free returns the items each of which some pairing with the most pairs leaves out.
func (g grower) free() set {
	var free set
	items := g.items()
	for a := range items.all() {
		if g.most(items.without(a)) == g.most(items) {
			free = free.with(a)
		}
	}
	return free
}
