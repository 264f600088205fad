package match

// grow returns how many pairs items of a set can have. From one item after the other it looks for a way by which there is one pair more. (An item that has no such way at its turn has none later.)
func (l likes) grow(in set) int {
	partners := make([]int, len(l))
	for n := range partners {
		partners[n] = none
	}
	pairs := 0
	for n := range in.all() {
		if partners[n] == none && newSearch(l, in, partners).from(n) {
			pairs++
		}
	}
	return pairs
}

// search looks for a way from one item without a partner to another one, over items of a set, each alike to the one before: the first step is to an item that is not the partner, the second one to the partner of that, and so on by turns. If all on such a way exchange partners, there is one pair more.
//
// An item is reached if a way comes to it that ends with a step to a partner (or begins there): from it the way may go on. If two items that are reached are alike, their ways make a ring of an odd number of items; it can be gone round on either side, so all of it is reached. A ring then counts as one item, its base, which is where the ways to it come in (J. Edmonds, 1965).
type search struct {
	likes    likes
	in       set
	partners []int
	before   []int // where a way comes from to an item that it leaves for the partner
	base     []int // the base of the ring that an item is in (itself, if in none)
	reached  set
	queue    []int // the items that were reached, and from which no way went on yet
}

// newSearch returns a search among items of a set that have these partners, which it changes.
func newSearch(l likes, in set, partners []int) *search {
	s := &search{likes: l, in: in, partners: partners}
	for n := range l {
		s.before = append(s.before, none)
		s.base = append(s.base, n)
	}
	return s
}

// from reports whether there is a way from an item without a partner; if so, all on it have exchanged partners.
func (s *search) from(start int) bool {
	s.reach(start)
	for len(s.queue) > 0 {
		a := s.queue[0]
		s.queue = s.queue[1:]
		for b := range (s.likes[a] & s.in).all() {
			switch {
			case s.base[a] == s.base[b]: // in one ring
			case s.reached.has(b):
				s.join(a, b)
			case s.before[b] == none:
				s.before[b] = a
				if s.partners[b] == none {
					s.exchange(b)
					return true
				}
				s.reach(s.partners[b])
			}
		}
	}
	return false
}

// reach puts an item into the queue, unless it was there.
func (s *search) reach(n int) {
	if !s.reached.has(n) {
		s.reached = s.reached.with(n)
		s.queue = append(s.queue, n)
	}
}

// exchange pairs the items of the way that ends at an item, two by two from there.
func (s *search) exchange(end int) {
	for end != none {
		a := s.before[end]
		next := s.partners[a]
		s.partners[a], s.partners[end] = end, a
		end = next
	}
}

// join makes one ring of the ways to two items that were reached and are alike, and of the rings that these ways touch.
func (s *search) join(a, b int) {
	base := s.meet(a, b)
	touched := s.turn(a, b, base) | s.turn(b, a, base)
	for n := range s.in.all() {
		if touched.has(s.base[n]) {
			s.base[n] = base
			s.reach(n)
		}
	}
}

// meet returns the last base that the ways to two items have in common.
func (s *search) meet(a, b int) int {
	var passed set
	for a = s.base[a]; ; a = s.back(a) {
		passed = passed.with(a)
		if s.partners[a] == none { // the start
			break
		}
	}
	for b = s.base[b]; !passed.has(b); {
		b = s.back(b)
	}
	return b
}

// back returns the base by which a way came, over one item between both, to another base.
func (s *search) back(base int) int { return s.base[s.before[s.partners[base]]] }

// turn goes back on the way to an item as far as a base, and notes the way that comes over a neighbour in the ring from the other side. It returns the bases that it passed.
func (s *search) turn(a, neighbour, base int) set {
	var passed set
	for s.base[a] != base {
		partner := s.partners[a]
		passed |= setOf(s.base[a], s.base[partner])
		s.before[a] = neighbour
		neighbour, a = partner, s.before[partner]
	}
	return passed
}
