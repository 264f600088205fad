package glass

import (
	"iter"

	"thermion/api"
)

// held is a range that is held against what its number may be.
type held interface {
	surelyHolds() bool  // for each of its numbers
	surelyBreaks() bool // for each of its numbers
}

// judge returns the verdict on ranges, each of which comes with a number, and the number of the first one that is the reason (0 if all of them surely hold).
func judge[H held](ranges iter.Seq2[int, H]) (verdict, at int) {
	verdict = api.Sure
	for n, r := range ranges {
		if r.surelyBreaks() {
			return api.Never, n
		}
		if verdict == api.Sure && !r.surelyHolds() { // one behind it may surely break
			verdict, at = api.Unsure, n
		}
	}
	return verdict, at
}
