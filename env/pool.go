package env

import "strings"

// mostText is how many bytes of texts are handed in: of more nothing is promised.
const mostText = 1<<31 - 1

// pool has texts in memory of its own, each once: many things may have one great text.
type pool struct {
	own map[string]owned
	met int // bytes of texts that were gone through
}

type owned struct{ text string }

// keep is s in the pool's memory. What was handed in may be a piece of a far greater text, which would be kept with it.
func (p *pool) keep(s string) string {
	p.met += len(s)
	if s == "" || p.met > mostText {
		return s
	}
	o, ok := p.own[s]
	if !ok {
		o = owned{strings.Clone(s)}
		p.put(o)
	}
	return o.text
}

func (p *pool) put(o owned) {
	if p.own == nil {
		p.own = map[string]owned{}
	}
	p.own[o.text] = o
}
