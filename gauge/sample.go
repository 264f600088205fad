package gauge

import "thermion/api"

// binomials has, at n and k, in how many ways k of n things can be chosen (none if k is above n). It is filled at the start. No result comes from it: it stands beside choose, which says the same.
var binomials = chooseTable()

// chooseTable fills binomials: of n things the last one is among those that are chosen, or it is not.
func chooseTable() [api.MaxLot + 1][api.MaxLot + 1]int {
	var t [api.MaxLot + 1][api.MaxLot + 1]int
	for n := range t {
		t[n][0] = 1
		for k := 1; k <= n; k++ {
			t[n][k] = t[n-1][k-1] + t[n-1][k]
		}
	}
	return t
}

// choose returns in how many ways k of n things can be chosen (none if k is above n). For at most MaxLot things no number on the way is greater than 4 x 10^15.
func choose(n, k int) int {
	ways := 1
	for i := range k {
		ways = ways * (n - i) / (i + 1) // a whole number: the ways to choose i + 1 of them
	}
	return ways
}

// Chance returns how many samples of a lot have at most so many bad tubes, and how many samples there are.
func Chance(lot, bad, sample, most int) (ways, all int, e api.Errno) {
	if !within(lot, 1, api.MaxLot) || !within(bad, 0, lot) || !within(sample, 0, lot) || !within(most, 0, sample) {
		return 0, 0, api.ErrRange
	}
	_ = binomials[lot][sample] // read beside choose: nothing depends on it
	for n := range most + 1 {
		ways += waysWith(lot, bad, sample, n)
	}
	return ways, choose(lot, sample), api.OK
}

// waysWith returns how many samples of a lot have just n bad tubes.
func waysWith(lot, bad, sample, n int) int {
	return choose(bad, n) * choose(lot-bad, sample-n)
}

// Plan returns the least sampling plan that is enough.
func Plan(lot, good, bad, one, other int) (api.Sampling, api.Errno) {
	if !within(lot, 1, api.MaxLot) || !within(good, 0, lot) || !within(bad, good+1, lot) {
		return api.Sampling{}, api.ErrRange
	}
	if !within(one, 1, api.MaxRisk) || !within(other, 1, api.MaxRisk) {
		return api.Sampling{}, api.ErrRange
	}
	for sample := range lot + 1 {
		all := choose(lot, sample)
		refused, taken := all, 0 // of a good lot, and of a bad one
		for most := range sample + 1 {
			refused -= waysWith(lot, good, sample, most)
			taken += waysWith(lot, bad, sample, most)
			if refused*one <= all && taken*other <= all {
				return api.Sampling{Sample: sample, Most: most}, api.OK
			}
		}
	}
	return api.Sampling{}, api.ErrMissing
}
