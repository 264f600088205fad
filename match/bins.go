package match

import "thermion/api"

// checkBins returns the first error of a sorting with bins, otherwise OK.
func checkBins(s api.Sorting, bins []api.Bin) api.Errno {
	if e := Check(s); e != api.OK {
		return e
	}
	if len(bins) > api.MaxBins {
		return api.ErrFull
	}
	for _, b := range bins {
		if e := checkBin(b, len(s.Tol)); e != api.OK {
			return e
		}
	}
	return api.OK
}

// checkBin returns the first error of a bin for items with so many values, otherwise OK.
func checkBin(b api.Bin, values int) api.Errno {
	if len(b.Want) != values {
		return api.ErrForm
	}
	for _, r := range b.Want {
		if r.Lo > r.Hi {
			return api.ErrOrder
		}
	}
	if !within(b.Need, 0, api.MaxItems) {
		return api.ErrRange
	}
	return api.OK
}

// goesInto reports whether an item goes into a bin.
func goesInto(item []api.Range, b api.Bin) bool {
	for i, want := range b.Want {
		if item[i].Lo < want.Lo || item[i].Hi > want.Hi {
			return false
		}
	}
	return true
}

// Sort returns for each item the first bin into which it goes.
func Sort(s api.Sorting, bins []api.Bin) ([]int, api.Errno) {
	if e := checkBins(s, bins); e != api.OK {
		return nil, e
	}
	var l []int
	for _, open := range newStock(s, bins).open {
		b := none
		if open != 0 {
			b = open.first()
		}
		l = append(l, b)
	}
	return l, api.OK
}

// stock is some items with what all bins need.
type stock struct {
	open  []set // for each item, the bins into which it goes
	bins  set
	needs [api.MaxBins]int
}

// newStock returns the items of a valid sorting with valid bins.
func newStock(s api.Sorting, bins []api.Bin) stock {
	k := stock{bins: upTo(len(bins))}
	for _, item := range s.Items {
		var open set
		for n, b := range bins {
			if goesInto(item, b) {
				open = open.with(n)
			}
		}
		k.open = append(k.open, open)
	}
	for n, b := range bins {
		k.needs[n] = b.Need
	}
	return k
}

// rest returns the stock without its first item.
func (k stock) rest() stock {
	k.open = k.open[1:]
	return k
}

// less returns the stock when a bin needs one item fewer.
func (k stock) less(bin int) stock {
	k.needs[bin]--
	return k
}

// places returns how many places items can fill. Whatever bins are looked at, these take no more than they need, and the others no more than there are items that go into them; with some bins that is just what can be filled (D. König, 1931).
func (k stock) places() int {
	least := len(k.open)
	for full := range k.bins.subsets() {
		sum := 0
		for b := range full.all() {
			sum += k.needs[b]
		}
		for _, open := range k.open {
			if open&^full != 0 {
				sum++
			}
		}
		least = min(least, sum)
	}
	return least
}

// firstBin returns the first bin into which the first item can go so that no fewer places are filled than can be; none if it has to be left out.
func (k stock) firstBin() int {
	most := k.places()
	for b := range k.open[0].all() {
		if k.needs[b] > 0 && 1+k.rest().less(b).places() == most {
			return b
		}
	}
	return none
}

// Fill returns for each item its bin in the best filling.
func Fill(s api.Sorting, bins []api.Bin) ([]int, api.Errno) {
	if e := checkBins(s, bins); e != api.OK {
		return nil, e
	}
	var l []int
	for k := newStock(s, bins); len(k.open) > 0; {
		b := k.firstBin()
		l = append(l, b)
		k = k.rest()
		if b != none {
			k = k.less(b)
		}
	}
	return l, api.OK
}

// Scarce returns the bins that some filling with the most places leaves with a place that is not filled.
func Scarce(s api.Sorting, bins []api.Bin) ([]int, api.Errno) {
	if e := checkBins(s, bins); e != api.OK {
		return nil, e
	}
	k := newStock(s, bins)
	most := k.places()
	var l []int
	for b := range bins {
		if k.needs[b] > 0 && k.less(b).places() == most { // a place that stays empty need not be there
			l = append(l, b)
		}
	}
	return l, api.OK
}
