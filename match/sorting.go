// Package match puts items together whose values are alike: as many pairs as can be, with a proof that there are no more, and as many quads as can be; it sorts items into bins, fills the needs of bins, says what is scarce, and writes and reads marks with a check character. It is layer 8: see shared/doc/08-match.md.
package match

import "thermion/api"

// The greatest tolerance and the greatest value of a sorting.
const (
	maxTol   = 1000000
	maxValue = 1000000000
)

// none stands for the number of a partner, or of a bin, where there is none.
const none = -1

// Check returns the first error of a sorting, otherwise OK.
func Check(s api.Sorting) api.Errno {
	if e := checkTol(s.Tol); e != api.OK {
		return e
	}
	if len(s.Items) > api.MaxItems {
		return api.ErrFull
	}
	for _, item := range s.Items {
		if e := checkItem(item, len(s.Tol)); e != api.OK {
			return e
		}
	}
	return api.OK
}

// checkTol returns the first error of the tolerances of a sorting, otherwise OK.
func checkTol(tol []int) api.Errno {
	if len(tol) == 0 {
		return api.ErrShort
	}
	if len(tol) > api.MaxValues {
		return api.ErrFull
	}
	for _, t := range tol {
		if !within(t, 0, maxTol) {
			return api.ErrRange
		}
	}
	return api.OK
}

// checkItem returns the first error of an item, which should have so many values, otherwise OK.
func checkItem(item []api.Range, values int) api.Errno {
	if len(item) != values {
		return api.ErrForm
	}
	for _, r := range item {
		if r.Lo > r.Hi {
			return api.ErrOrder
		}
		if r.Lo < -maxValue || r.Hi > maxValue {
			return api.ErrRange
		}
	}
	return api.OK
}

// within reports whether n is a number from least to most.
func within(n, least, most int) bool { return least <= n && n <= most }

// isItem reports whether a number is that of an item of a sorting.
func isItem(s api.Sorting, n int) bool { return within(n, 0, len(s.Items)-1) }

// Alike reports whether two numbers are those of different items that are alike, in a sorting that is valid.
func Alike(s api.Sorting, a, b int) bool {
	return Check(s) == api.OK && isItem(s, a) && isItem(s, b) && areAlike(s, a, b)
}

// areAlike is Alike for items of a valid sorting.
func areAlike(s api.Sorting, a, b int) bool {
	if a == b {
		return false
	}
	for i, t := range s.Tol {
		x, y := s.Items[a][i], s.Items[b][i]
		if x.Hi-y.Lo > t || y.Hi-x.Lo > t { // what the true values may differ by
			return false
		}
	}
	return true
}

// likes has, for each item, the set of the items that are alike to it.
type likes []set

// likesOf returns which items of a valid sorting are alike.
func likesOf(s api.Sorting) likes {
	l := make(likes, len(s.Items))
	for a := range l {
		for b := range l {
			if areAlike(s, a, b) {
				l[a] = l[a].with(b)
			}
		}
	}
	return l
}

// items returns the set of all items.
func (l likes) items() set { return upTo(len(l)) }
