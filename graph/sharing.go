package graph

// mostApart is how many parts a term has that is made anew wherever it stands. A greater one may share parts
// so often that they are more than can be gone through: what is made of it is to share them still.
const mostApart = 1 << 10

// sharing knows what was made of great parts.
type sharing struct{ made map[spot]*Node }

// spot is a part, and how many binders lie around it.
type spot struct {
	of      *Node
	binders int
}

// one is what at makes of s: one node, however often it is asked for, if that is great.
func (h *sharing) one(s spot, at func(spot) *Node) *Node {
	if s.of.size <= mostApart {
		return at(s)
	}
	out, known := h.made[s]
	if !known {
		out = at(s)
		h.note(s, out)
	}
	return out
}

func (h *sharing) note(s spot, out *Node) {
	if h.made == nil {
		h.made = map[spot]*Node{}
	}
	h.made[s] = out
}
