package meter

import "touchstone/api"

// bounds is how many parts there is room for in a level, and how deep they may be.
type bounds struct{ parts, deep int }

// spend is what l leaves of b. Not ok: there is no room for it.
func (b bounds) spend(l *api.Level) (left bounds, ok bool) {
	if b.parts == 0 || b.deep == 0 {
		return bounds{}, false
	}
	below, ok := bounds{b.parts - 1, b.deep - 1}.each(l.Args, bounds.spend)
	return bounds{below.parts, b.deep}, ok
}

// lend is b itself. Not ok: there is no room in it for l.
func (b bounds) lend(l *api.Level) (left bounds, ok bool) {
	_, ok = b.spend(l)
	return b, ok
}

// each is what levels leave of b, where each has what use leaves of those ahead of it.
func (b bounds) each(levels []api.Level, use func(bounds, *api.Level) (bounds, bool)) (left bounds, ok bool) {
	for i := range levels {
		if b, ok = use(b, &levels[i]); !ok {
			return bounds{}, false
		}
	}
	return b, true
}

// areWithin tells whether each of levels may be so great by itself.
func areWithin(levels []api.Level) bool {
	_, ok := bounds{api.MaxParts, api.MaxLevel}.each(levels, bounds.lend)
	return ok
}
