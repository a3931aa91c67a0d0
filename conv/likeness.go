package conv

import "touchstone/leap"

const (
	// mostUnnoted is how many pairs are gone through without a note of what was found: notes cost time and room,
	// but parts are asked again when their whole was not alike, and terms may share far more than can be gone through.
	mostUnnoted = 1 << 12
	// mostNotes is how many notes are kept. Two terms that are handed in make fewer; steps make new terms without end.
	mostNotes = 1 << 20
	// mostPairs is how many pairs are gone through to tell whether two terms are alike: far more than terms have
	// that are handed in, or fit where there are MaxCells.
	mostPairs = 1 << 23
	// mostHeld is how many parts the terms have that are kept with notes: else nobody might ask for them any more.
	mostHeld = 1 << 22
)

// What is noted of a pair.
const (
	alike  = 1
	unlike = 2
)

// likeness tells whether terms are alike, where Levels are that are the Same.
type likeness struct {
	open   []opened // each below the one ahead of it: a list, since terms may be deeper than a stack of calls
	met    int      // pairs that were gone through
	notes  map[pair]int
	held   int               // parts of the terms that are kept with these
	levels leap.Runs[places] // that are known to be the Same
	lost   bool              // there were too many pairs to tell: nothing is to be asked any more
}

// opened is a pair of which all is alike so far, up to the next one of its Args.
type opened struct {
	pair
	next int
}

// holds tells whether p's terms are alike.
func (k *likeness) holds(p pair) bool {
	met := k.met
	k.open = k.open[:0]
	ok := k.enters(p)
	for ok && len(k.open) > 0 {
		ok = k.step()
		if k.met-met > mostPairs {
			k.lost, ok = true, false
		}
	}
	for _, o := range k.open {
		k.note(o.pair, unlike)
	}
	if k.met > met {
		k.held += p.a.Size() + p.b.Size()
	}
	k.forget()
	return ok
}

// forget makes room, if too much is noted, or kept with that.
func (k *likeness) forget() {
	if k.held > mostHeld || k.levels.Len() > mostNotes {
		k.notes, k.held, k.levels = nil, 0, leap.Runs[places]{}
	}
}

// step enters the next pair, or ends the one that was entered last, and tells whether all is alike so far.
func (k *likeness) step() bool {
	last := len(k.open) - 1
	o := &k.open[last]
	argsA, argsB := o.a.Args(), o.b.Args()
	at := o.next
	if at == len(argsA) {
		k.note(o.pair, alike)
		k.open = k.open[:last]
		return true
	}
	o.next++
	return k.enters(pair{argsA[at], argsB[at]})
}

// enters tells whether p's terms are alike, but for what stands below them. That comes next, unless it is known.
func (k *likeness) enters(p pair) bool {
	switch {
	case !p.a.IsKin(p.b):
		return false
	case p.a == p.b:
		return true
	case !k.sameLevels(p.a.Levels(), p.b.Levels()):
		return false
	case len(p.a.Args()) == 0:
		return true
	}
	if known := k.notes[p]; known != 0 {
		return known == alike
	}
	k.met++
	k.open = append(k.open, opened{pair: p})
	return true
}

// note keeps what was found of p, if that pays.
func (k *likeness) note(p pair, found int) {
	if k.met <= mostUnnoted {
		return
	}
	if k.notes == nil || len(k.notes) >= mostNotes {
		k.notes = map[pair]int{}
	}
	k.notes[p] = found
}
