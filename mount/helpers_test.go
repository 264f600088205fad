package mount

import (
	"slices"
	"testing"

	"thermion/api"
)

// dice makes numbers for tests that are the same in each run.
type dice uint64

// upTo returns a number from 0 to n - 1.
func (d *dice) upTo(n int) int {
	*d = *d*6364136223846793005 + 1442695040888963407
	return int(uint64(*d)>>33) % n
}

// from returns a number from least to most.
func (d *dice) from(least, most int) int { return least + d.upTo(most-least+1) }

// any returns a range of numbers from least to most.
func (d *dice) any(least, most int) api.Range {
	a, b := d.from(least, most), d.from(least, most)
	return of(min(a, b), max(a, b))
}

// chain returns a valid chain of 1 to most points whose gaps have numbers of at most wide, on either side of 0. Of half of them it is sure that positions fit.
func (d *dice) chain(most, wide int) api.Chain {
	c := api.Chain{Points: d.from(1, most)}
	var at []int
	for range c.Points {
		at = append(at, d.from(0, wide))
	}
	fits := d.upTo(2) == 0
	add := func(a, b int) {
		if d.upTo(2) == 0 {
			a, b = b, a
		}
		gap := d.any(-wide, wide)
		if fits {
			x := at[b] - at[a]
			gap = of(d.from(max(-wide, x-3), x), d.from(x, min(wide, x+3)))
		}
		c.Links = append(c.Links, between(a, b, gap))
	}
	for p := 1; p < c.Points; p++ {
		add(d.upTo(p), p)
	}
	for range d.upTo(4) {
		if a, b := d.upTo(c.Points), d.upTo(c.Points); a != b {
			add(a, b)
		}
	}
	d.shuffle(c.Links)
	return c
}

// shuffle changes the order of links.
func (d *dice) shuffle(l []api.Link) {
	for i := range l {
		k := d.upTo(i + 1)
		l[i], l[k] = l[k], l[i]
	}
}

// link returns a valid link between two points of a chain of two points or more.
func (d *dice) link(c api.Chain, wide int) api.Link {
	a := d.upTo(c.Points)
	b := (a + d.from(1, c.Points-1)) % c.Points
	return between(a, b, d.any(-wide, wide))
}

// kit returns a valid kit of at most so many parts.
func (d *dice) kit(most int) api.Kit {
	k := api.Kit{Change: d.upTo(3) * d.upTo(9)}
	count := d.upTo(most + 1)
	few := d.from(2, 9)
	for own := range count {
		p := api.Part{Jig: d.upTo(3), Ticks: d.upTo(4)}
		for other := range count {
			if other == own {
				continue
			}
			switch d.upTo(few) {
			case 0:
				p.Needs = append(p.Needs, other)
			case 1:
				p.Bars = append(p.Bars, other)
			}
		}
		k.Parts = append(k.Parts, p)
	}
	return k
}

// mount returns a valid mount, whose bars often stand side by side.
func (d *dice) mount() api.Mount {
	m := api.Mount{Chain: d.chain(4, 4), Wide: d.from(6, 16), High: d.from(1, 4), Round: d.upTo(2) == 0}
	m.Zero = d.from(0, m.Wide)
	for range d.from(1, 3) {
		top := d.upTo(m.High)
		m.Bars = append(m.Bars, api.Bar{Electrode: d.from(1, 6), Left: d.upTo(m.Chain.Points), Right: d.upTo(m.Chain.Points), Top: top, Bottom: d.from(top, m.High-1)})
	}
	return m
}

// chains calls f with valid chains of many kinds.
func chains(t *testing.T, seed dice, count, points, wide int, f func(d *dice, c api.Chain)) {
	t.Helper()
	d := &seed
	for i := range count {
		c := d.chain(points, wide)
		f(d, c)
		if t.Failed() {
			t.Fatal("case ", i, ": ", c)
		}
	}
}

// kits calls f with valid kits of at most so many parts.
func kits(t *testing.T, seed dice, count, parts int, f func(d *dice, k api.Kit)) {
	t.Helper()
	d := &seed
	for i := range count {
		k := d.kit(parts)
		f(d, k)
		if t.Failed() {
			t.Fatal("case ", i, ": ", k)
		}
	}
}

// plainPlaces tries all positions with point 0 at 0 that are at most so far from it.
func plainPlaces(c api.Chain, far int) [][]int {
	var found [][]int
	at := make([]int, c.Points)
	for i := 1; i < c.Points; i++ {
		at[i] = -far
	}
	for {
		if plainFits(c, at) {
			found = append(found, slices.Clone(at))
		}
		i := c.Points - 1
		for ; i > 0 && at[i] == far; i-- {
			at[i] = -far
		}
		if i == 0 {
			return found
		}
		at[i]++
	}
}

// plainFits looks at each link.
func plainFits(c api.Chain, at []int) bool {
	for _, l := range c.Links {
		if at[l.To]-at[l.From] < l.Gap.Lo || at[l.To]-at[l.From] > l.Gap.Hi {
			return false
		}
	}
	return true
}

// plainTight returns from where to where point b lies behind point a, in some positions.
func plainTight(all [][]int, a, b int) api.Range {
	r := one(all[0][b] - all[0][a])
	for _, at := range all {
		r.Lo, r.Hi = min(r.Lo, at[b]-at[a]), max(r.Hi, at[b]-at[a])
	}
	return r
}

// plainMay returns the parts that may go in, part by part.
func plainMay(k api.Kit, in []int) []int {
	var l []int
	for n, p := range k.Parts {
		may := !slices.Contains(in, n)
		for _, o := range p.Needs {
			may = may && slices.Contains(in, o)
		}
		for _, o := range p.Bars {
			may = may && !slices.Contains(in, o)
		}
		if may {
			l = append(l, n)
		}
	}
	return l
}

// plainEnds returns all orders, in lexicographic order, that begin with one and behind which no part may go in.
func plainEnds(k api.Kit, order []int) [][]int {
	may := plainMay(k, order)
	if len(may) == 0 {
		return [][]int{slices.Clone(order)}
	}
	var all [][]int
	for _, p := range may {
		all = append(all, plainEnds(k, append(slices.Clone(order), p))...)
	}
	return all
}

// plainWhole returns all whole orders, in lexicographic order, that begin with one.
func plainWhole(k api.Kit, order []int) [][]int {
	return slices.DeleteFunc(plainEnds(k, order), func(l []int) bool { return len(l) < len(k.Parts) })
}

// plainTime returns the time of an order.
func plainTime(k api.Kit, order []int) int {
	time := 0
	for i, p := range order {
		time += k.Parts[p].Ticks
		if i > 0 && k.Parts[p].Jig != k.Parts[order[i-1]].Jig {
			time += k.Change
		}
	}
	return time
}

// of makes a range, one that of one number.
func of(lo, hi int) api.Range { return api.Range{Lo: lo, Hi: hi} }
func one(n int) api.Range     { return of(n, n) }

// chainC is the chain of the chapter's examples, kitK the kit, mountM the mount.
func chainC() api.Chain {
	return links(3, between(0, 1, of(10, 12)), between(1, 2, of(5, 8)), between(0, 2, of(17, 18)))
}

func kitK() api.Kit {
	return api.Kit{Change: 10, Parts: []api.Part{{Ticks: 2}, {Needs: []int{0}, Jig: 1, Ticks: 3}, {Bars: []int{1}, Ticks: 4}}}
}

func mountM() api.Mount {
	return api.Mount{Chain: links(2, between(0, 1, of(2, 3))), Bars: []api.Bar{bar(1, 0, 1, 0, 0)}, Wide: 4, High: 1, Zero: 1}
}

// links makes a chain, bar a bar.
func links(points int, l ...api.Link) api.Chain { return api.Chain{Points: points, Links: l} }

func bar(electrode, left, right, top, bottom int) api.Bar {
	return api.Bar{Electrode: electrode, Left: left, Right: right, Top: top, Bottom: bottom}
}

// more returns a chain with further links.
func more(c api.Chain, l ...api.Link) api.Chain {
	return links(c.Points, slices.Concat(c.Links, l)...)
}

// changed returns a thing that was changed.
func changed[T any](x T, change func(x *T)) T {
	change(&x)
	return x
}

// same reports whether two lists of lists are equal.
func same[T comparable](a, b [][]T) bool { return slices.EqualFunc(a, b, slices.Equal[[]T]) }

// isRangeIn reports whether a range lies within another one.
func isRangeIn(a, b api.Range) bool { return b.Lo <= a.Lo && a.Hi <= b.Hi }

// tightOf returns the tight ranges of a chain that positions fit.
func tightOf(t *testing.T, c api.Chain) [][]api.Range {
	t.Helper()
	r, e := Tight(c)
	if e != api.OK {
		t.Fatal(c, e)
	}
	return r
}

// none is the range that comes with errors.
var none api.Range
