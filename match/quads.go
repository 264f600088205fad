package match

import (
	"cmp"
	"iter"
	"slices"

	"thermion/api"
)

// quad is how many items a quad has.
const quad = 4

// Quads returns the best quads of a sorting of a few items.
func Quads(s api.Sorting) ([][4]int, api.Errno) {
	if e := Check(s); e != api.OK {
		return nil, e
	}
	if len(s.Items) > api.MaxQuads {
		return nil, api.ErrOver
	}
	p := packer{likesOf(s), map[set][]int{}}
	var l [][4]int
	for n := range slices.Chunk(p.best(p.items()), quad) {
		l = append(l, [4]int{n[0], n[1], n[2], n[3]})
	}
	return l, api.OK
}

// packer finds the best quads of items of a set; it keeps what it was asked.
type packer struct {
	likes
	asked map[set][]int
}

// best returns the best quads of items of a set, written down one after the other.
func (p packer) best(in set) []int {
	if in.count() < quad {
		return nil
	}
	if l, is := p.asked[in]; is {
		return l
	}
	a := in.first()
	rest := in.without(a)
	best := p.best(rest) // a may be in no quad
	for q := range p.quadsOf(a, rest) {
		l := slices.Concat(q[:], p.best(rest&^setOf(q[:]...)))
		if len(l) > len(best) || len(l) == len(best) && isBefore(l, best) {
			best = l
		}
	}
	p.asked[in] = best
	return best
}

// quadsOf yields the quads of an item and three of others, which have greater numbers, in lexicographic order.
func (l likes) quadsOf(a int, others set) iter.Seq[[4]int] {
	return func(yield func(q [4]int) bool) {
		near := l[a] & others
		for b := range near.all() {
			nearer := near & l[b].behind(b)
			for c := range nearer.all() {
				for d := range (nearer & l[c].behind(c)).all() {
					if !yield([4]int{a, b, c, d}) {
						return
					}
				}
			}
		}
	}
}

// isBefore reports whether a list comes before another one in lexicographic order.
func isBefore[T cmp.Ordered](a, b []T) bool {
	for i := range min(len(a), len(b)) {
		if a[i] != b[i] {
			return a[i] < b[i]
		}
	}
	return len(a) < len(b)
}
