package seq

import "quire/api"

// run: units each of which but the first is the right child of the one ahead, with its client, its clock and one more, its Right. No run but the root is without units.
type run struct {
	first  api.Unit
	parent spot // of the first unit
	far    spot // one above the parent, or the parent
	depth  int  // how many runs are above it
}

// spot: of a run the unit that so many of it are ahead of. Its zeros are the root.
type spot struct {
	run int
	at  uint64
}

// unit answers the unit at x; at the end of a run that which would go on with it.
func (s *Seq) unit(x spot) api.Unit {
	u := s.runs[x.run].first
	if x.at == 0 {
		return u
	}
	u.Id.Clock += x.at
	u.Left = api.Id{Client: u.Id.Client, Clock: u.Id.Clock - 1}
	return u
}

// addRun adds a run, and answers its first unit's spot. Parents never change, so long steps up can be laid for good: where the long step of the run above and the one behind that are equally long, the new run steps over both, so that few steps lead from any depth to any other.
func (s *Seq) addRun(first api.Unit, parent spot) spot {
	under := s.runs[parent.run]
	mid := s.runs[under.far.run]
	far := parent
	if under.depth-mid.depth == mid.depth-s.runs[mid.far.run].depth {
		far = mid.far
	}
	s.runs = append(s.runs, run{first: first, parent: parent, far: far, depth: under.depth + 1})
	return spot{run: len(s.runs) - 1}
}

// childOver answers the child of p that x is or is below, and whether x is below p. It seeks the run above x that hangs on p's own one.
func (s *Seq) childOver(p, x spot) (spot, bool) {
	depth := s.runs[p.run].depth
climbing:
	for x.run != p.run {
		here := s.runs[x.run]
		for _, up := range [...]spot{here.far, here.parent} {
			if s.runs[up.run].depth > depth {
				x = up
				continue climbing
			}
		}
		if here.parent == p {
			return spot{run: x.run}, true
		}
		x = here.parent
		break
	}
	if x.run != p.run || x.at <= p.at {
		return spot{}, false
	}
	return spot{run: p.run, at: p.at + 1}, true
}
