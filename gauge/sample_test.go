package gauge

import (
	"math/big"
	"math/bits"
	"testing"

	"thermion/api"
)

// P7.6: the chapter's examples.
func TestExamplesOfSamples(t *testing.T) {
	for i, c := range []struct{ lot, bad, sample, most, ways, all int }{{5, 2, 2, 0, 3, 10}, {5, 2, 2, 1, 9, 10}, {5, 0, 3, 0, 10, 10}} {
		if n, m, e := Chance(c.lot, c.bad, c.sample, c.most); n != c.ways || m != c.all || e != api.OK {
			t.Error(i, n, m, e)
		}
	}
	for i, c := range []struct {
		lot, good, bad, one, other int
		want                       api.Sampling
	}{{10, 0, 5, 10, 10, api.Sampling{Sample: 3}}, {10, 0, 1, 10, 10, api.Sampling{Sample: 9}}, {4, 1, 2, 100, 100, api.Sampling{Sample: 4, Most: 1}}} {
		if p, e := Plan(c.lot, c.good, c.bad, c.one, c.other); p != c.want || e != api.OK {
			t.Error(i, p, e)
		}
	}
}

// P7.6: Chance takes just the numbers that are said, and Plan, too.
func TestErrorsOfSamples(t *testing.T) {
	for lot := -2; lot <= 52; lot++ {
		for _, bad := range []int{-1 << 63, -1, 0, lot - 1, lot, lot + 1, 1<<63 - 1} {
			for _, sample := range []int{-1 << 63, -1, 0, lot - 1, lot, lot + 1, 1<<63 - 1} {
				for _, most := range []int{-1 << 63, -1, 0, sample - 1, sample, sample + 1, 1<<63 - 1} {
					is := 1 <= lot && lot <= 50 && 0 <= bad && bad <= lot && 0 <= sample && sample <= lot && 0 <= most && most <= sample
					n, m, e := Chance(lot, bad, sample, most)
					if is != (e == api.OK) || !is && (n != 0 || m != 0 || e != api.ErrRange) || is && (n < 0 || n > m || m < 1) {
						t.Fatal(lot, bad, sample, most, n, m, e)
					}
				}
			}
		}
		for _, good := range []int{-1 << 63, -1, 0, 3, lot - 1, lot, lot + 1, 1<<63 - 1} {
			for _, bad := range []int{-1 << 63, -1, 0, 1, 3, 4, lot, lot + 1, 1<<63 - 1} {
				is := 1 <= lot && lot <= 50 && 0 <= good && good <= lot && good < bad && bad <= lot
				for _, risk := range []int{-1 << 63, -1, 0, 1, 10000, 10001, 1<<63 - 1} {
					both := is && 1 <= risk && risk <= 10000
					for _, l := range [][2]int{{risk, 7}, {7, risk}, {risk, risk}} {
						p, e := Plan(lot, good, bad, l[0], l[1])
						if both != (e == api.OK) || !both && (p != api.Sampling{} || e != api.ErrRange) {
							t.Fatal(lot, good, bad, l, p, e)
						}
					}
				}
			}
		}
	}
}

// plainChance looks at all samples of a lot, whose first tubes are bad.
func plainChance(lot, bad, sample, most int) (ways, all int) {
	for set := range uint(1 << lot) {
		if bits.OnesCount(set) == sample {
			all++
			if bits.OnesCount(set&(1<<bad-1)) <= most {
				ways++
			}
		}
	}
	return ways, all
}

// P7.6: Chance against all samples of small lots.
func TestChanceOfSmallLots(t *testing.T) {
	for lot := 1; lot <= 8; lot++ {
		for bad := range lot + 1 {
			for sample := range lot + 1 {
				for most := range sample + 1 {
					ways, all := plainChance(lot, bad, sample, most)
					if n, m, e := Chance(lot, bad, sample, most); n != ways || m != all || e != api.OK {
						t.Fatal(lot, bad, sample, most, n, m, e)
					}
				}
			}
		}
	}
}

// chosen returns in how many ways k of n things can be chosen.
func chosen(n, k int) *big.Int { return new(big.Int).Binomial(int64(n), int64(k)) }

// P7.6, R7: what is computed is what the table beside it has, which was filled at the start; none of more things than there are.
func TestChoose(t *testing.T) {
	for n, ways := range binomials {
		for k, want := range ways {
			if c := choose(n, k); c != want || big.NewInt(int64(c)).Cmp(chosen(n, k)) != 0 {
				t.Fatal(n, k, c, want)
			}
		}
	}
	if len(binomials) != 51 || binomials != chooseTable() {
		t.Error("the table")
	}
}

// P7.6, R7: Chance is exact for great lots, too.
func TestChance(t *testing.T) {
	for lot := 1; lot <= 50; lot++ {
		for bad := range lot + 1 {
			for sample := range lot + 1 {
				sum := new(big.Int)
				for most := range sample + 1 {
					if sample-most <= lot-bad {
						sum.Add(sum, new(big.Int).Mul(chosen(bad, most), chosen(lot-bad, sample-most)))
					}
					n, m, e := Chance(lot, bad, sample, most)
					if e != api.OK || big.NewInt(int64(n)).Cmp(sum) != 0 || big.NewInt(int64(m)).Cmp(chosen(lot, sample)) != 0 {
						t.Fatal(lot, bad, sample, most, n, m, e)
					}
				}
			}
		}
	}
}

// isEnough reports whether a plan is enough, by exact fractions.
func isEnough(lot, good, bad, one, other int, p api.Sampling) bool {
	taken, all, _ := Chance(lot, good, p.Sample, p.Most)
	risk := big.NewRat(int64(all-taken), int64(all))
	missed, all, _ := Chance(lot, bad, p.Sample, p.Most)
	danger := big.NewRat(int64(missed), int64(all))
	return risk.Cmp(big.NewRat(1, int64(one))) <= 0 && danger.Cmp(big.NewRat(1, int64(other))) <= 0
}

// plainPlan returns the first plan that is enough, of all of them.
func plainPlan(lot, good, bad, one, other int) (p api.Sampling, is bool) {
	for p.Sample = 0; p.Sample <= lot; p.Sample++ {
		for p.Most = 0; p.Most <= p.Sample; p.Most++ {
			if isEnough(lot, good, bad, one, other, p) {
				return p, true
			}
		}
	}
	return p, false
}

// P7.6, P7.18: the least plan is enough, and none before it is. There is one for all numbers that are taken: all tubes, of which good ones may be bad.
func TestPlan(t *testing.T) {
	d := dice(40)
	samples := map[int]int{}
	for i := range 400 {
		lot := d.from(1, []int{6, 50}[i%2])
		good := d.upTo(lot)
		if i%4 > 1 {
			good = min(good, d.upTo(4))
		}
		bad := d.from(good+1, lot)
		one, other := d.from(1, []int{3, 20, 10000}[d.upTo(3)]), d.from(1, []int{3, 20, 10000}[d.upTo(3)])
		want, is := plainPlan(lot, good, bad, one, other)
		p, e := Plan(lot, good, bad, one, other)
		if !is || p != want || e != api.OK || !isEnough(lot, good, bad, one, other, api.Sampling{Sample: lot, Most: good}) {
			t.Fatal(lot, good, bad, one, other, p, e, want)
		}
		samples[p.Sample]++
	}
	if len(samples) < 25 || samples[0] > 100 {
		t.Error(samples)
	}
}

// P7.6: a risk of one of as many as there are is kept; one of one is always.
func TestPlanEdges(t *testing.T) {
	for i, c := range []struct {
		lot, good, bad, one, other int
		want                       api.Sampling
	}{
		{1, 0, 1, 1, 1, api.Sampling{}}, {1, 0, 1, 1, 2, api.Sampling{Sample: 1}}, {1, 0, 1, 10000, 10000, api.Sampling{Sample: 1}}, {50, 0, 50, 10000, 10000, api.Sampling{Sample: 1}}, {50, 49, 50, 10000, 10000, api.Sampling{Sample: 50, Most: 49}}, {50, 0, 1, 10000, 10000, api.Sampling{Sample: 50}}, {50, 0, 1, 1, 50, api.Sampling{Sample: 49}}, {50, 0, 1, 1, 51, api.Sampling{Sample: 50}}, {50, 0, 25, 10000, 2, api.Sampling{Sample: 1}},
		// With one bad tube of four one of four samples of one tube has it, with two of them half of these samples do. Half of the samples of three tubes have both.
		{4, 1, 4, 4, 10000, api.Sampling{Sample: 1}}, {4, 1, 4, 5, 10000, api.Sampling{Sample: 2, Most: 1}}, {4, 1, 2, 4, 2, api.Sampling{Sample: 1}}, {4, 1, 2, 5, 2, api.Sampling{Sample: 3, Most: 1}}, {4, 1, 2, 2, 6, api.Sampling{Sample: 2}}, {4, 1, 2, 2, 7, api.Sampling{Sample: 4, Most: 1}},
	} {
		if p, e := Plan(c.lot, c.good, c.bad, c.one, c.other); p != c.want || e != api.OK {
			t.Error(i, p, e)
		}
	}
}
