package mount

import "thermion/api"

// maxWire is the greatest thickness of a wire, and the greatest pitch.
const maxWire = 10000

// Wind returns the chain of a winding.
func Wind(w api.Winding) (api.Chain, api.Errno) {
	if e := checkWinding(w); e != api.OK {
		return api.Chain{}, e
	}
	pitch := stretched(w)
	links := []api.Link{between(0, 1, w.First)}
	for t := range w.Turns {
		links = append(links, between(2*t+1, 2*t+2, w.Wire))
		if t > 0 {
			links = append(links, between(2*t-1, 2*t+1, pitch))
		}
	}
	last := 2 * w.Turns
	if w.Turns > 1 {
		links = append(links, between(1, last, w.Length))
	}
	return api.Chain{Points: last + 1, Links: links}, api.OK
}

// checkWinding returns the first error of a winding, otherwise OK.
func checkWinding(w api.Winding) api.Errno {
	if !within(w.Turns, 1, api.MaxTurns) {
		return api.ErrRange
	}
	for _, c := range []struct {
		of          api.Range
		least, most int
	}{{w.Wire, 1, maxWire}, {w.Pitch, 1, maxWire}, {w.Stretch, 0, api.Million}, {w.First, 0, api.MaxLength}, {w.Length, 0, api.MaxLength}} {
		if e := checkRange(c.of, c.least, c.most); e != api.OK {
			return e
		}
	}
	return api.OK
}

// stretched returns the stretched pitch of a valid winding: no number is below 0.
func stretched(w api.Winding) api.Range {
	least := w.Pitch.Lo * (api.Million + w.Stretch.Lo)
	most := w.Pitch.Hi * (api.Million + w.Stretch.Hi)
	return api.Range{Lo: least / api.Million, Hi: (most + api.Million - 1) / api.Million}
}

// between returns a link.
func between(from, to int, gap api.Range) api.Link {
	return api.Link{From: from, To: to, Gap: gap}
}
