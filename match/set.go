package match

import (
	"iter"
	"math/bits"
)

// set is a set of items, or of bins: it has the bit of the number of each of them.
type set uint32

// upTo returns the set of the first n numbers.
func upTo(n int) set { return 1<<n - 1 }

// setOf returns the set of some numbers.
func setOf(numbers ...int) set {
	var s set
	for _, n := range numbers {
		s = s.with(n)
	}
	return s
}

// has reports whether a number is in the set.
func (s set) has(n int) bool { return s>>n&1 != 0 }

// with returns the set with a number.
func (s set) with(n int) set { return s | 1<<n }

// without returns the set without a number.
func (s set) without(n int) set { return s &^ (1 << n) }

// behind returns the set of the numbers that are greater than n.
func (s set) behind(n int) set { return s &^ upTo(n+1) }

// count returns how many numbers are in the set.
func (s set) count() int { return bits.OnesCount32(uint32(s)) }

// first returns the least number of a set that is not empty.
func (s set) first() int { return bits.TrailingZeros32(uint32(s)) }

// all yields the numbers of the set, ascending.
func (s set) all() iter.Seq[int] {
	return func(yield func(n int) bool) {
		for rest := s; rest != 0; rest &= rest - 1 {
			if !yield(rest.first()) {
				return
			}
		}
	}
}

// list returns the numbers of the set, ascending.
func (s set) list() []int {
	var l []int
	for n := range s.all() {
		l = append(l, n)
	}
	return l
}

// subsets yields all sets whose numbers are in the set: the empty one first, the set itself last.
func (s set) subsets() iter.Seq[set] {
	return func(yield func(sub set) bool) {
		sub := set(0)
		for yield(sub) && sub != s {
			sub = (sub - s) & s // counts on in the bits that s has
		}
	}
}
