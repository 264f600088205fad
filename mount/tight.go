package mount

import "thermion/api"

// far is how far two points lie apart at most. Links lead from each point to each other one, by fewer steps than there are points, so that it excludes no positions.
const far = api.MaxPoints * api.MaxLength

// reaches says by how much a point (the second index) lies behind another one (the first) at most.
type reaches [api.MaxPoints][api.MaxPoints]int

// direct returns what the links of a chain say by themselves.
func direct(c api.Chain) reaches {
	var r reaches
	for a := range c.Points {
		for b := range c.Points {
			if a != b {
				r[a][b] = far
			}
		}
	}
	for _, l := range c.Links {
		r[l.From][l.To] = min(r[l.From][l.To], l.Gap.Hi)
		r[l.To][l.From] = min(r[l.To][l.From], -l.Gap.Lo)
	}
	return r
}

// through returns what can be said if ways over the point p count, too. (r is a copy, so that what is read is what it was before.)
func (r reaches) through(p, points int) reaches {
	next := r
	for a := range points {
		for b := range points {
			next[a][b] = min(r[a][b], r[a][p]+r[p][b])
		}
	}
	return next
}

// clashes reports whether a point would have to lie before itself.
func (r reaches) clashes(points int) bool {
	for p := range points {
		if r[p][p] < 0 {
			return true
		}
	}
	return false
}

// tight returns the tight range from a to b.
func (r reaches) tight(a, b int) api.Range { return api.Range{Lo: -r[b][a], Hi: r[a][b]} }

// reachesOf returns CheckChain's error; ErrClash if no positions fit; otherwise how far the points reach by all ways.
func reachesOf(c api.Chain) (reaches, api.Errno) {
	if e := CheckChain(c); e != api.OK {
		return reaches{}, e
	}
	r := direct(c)
	for p := range c.Points {
		r = r.through(p, c.Points)
		if r.clashes(c.Points) { // at once: otherwise the numbers might become too great
			return reaches{}, api.ErrClash
		}
	}
	return r, api.OK
}

// Tight returns the tight ranges between all points of a chain: from the first index to the second.
func Tight(c api.Chain) ([][]api.Range, api.Errno) {
	r, e := reachesOf(c)
	if e != api.OK {
		return nil, e
	}
	all := make([][]api.Range, c.Points)
	for a := range c.Points {
		for b := range c.Points {
			all[a] = append(all[a], r.tight(a, b))
		}
	}
	return all, api.OK
}

// Far returns the far positions from the point a.
func Far(c api.Chain, a int) ([]int, api.Errno) {
	return ends(c, a, func(r api.Range) int { return r.Hi })
}

// Near returns the near positions from the point a.
func Near(c api.Chain, a int) ([]int, api.Errno) {
	return ends(c, a, func(r api.Range) int { return r.Lo })
}

// ends returns an end of each tight range from the point a.
func ends(c api.Chain, a int, end func(api.Range) int) ([]int, api.Errno) {
	r, e := reachesOf(c)
	if e != api.OK {
		return nil, e
	}
	if !isPoint(c, a) {
		return nil, api.ErrMissing
	}
	var at []int
	for b := range c.Points {
		at = append(at, end(r.tight(a, b)))
	}
	return at, api.OK
}

// Ask returns for each link whether the positions that fit a chain do what it demands.
func Ask(c api.Chain, l []api.Link) ([]int, api.Errno) {
	r, e := reachesOf(c)
	if e != api.OK {
		return nil, e
	}
	var verdicts []int
	for _, link := range l {
		if e := checkLink(c, link); e != api.OK {
			return nil, e
		}
		verdicts = append(verdicts, verdict(r.tight(link.From, link.To), link.Gap))
	}
	return verdicts, api.OK
}

// verdict says whether a number lies within gap if all that is known of it is that it lies within is.
func verdict(is, gap api.Range) int {
	switch {
	case gap.Lo <= is.Lo && is.Hi <= gap.Hi:
		return api.Sure
	case is.Hi < gap.Lo || gap.Hi < is.Lo:
		return api.Never
	}
	return api.Unsure
}
