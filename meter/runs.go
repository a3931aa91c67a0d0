package meter

import (
	"touchstone/api"
	"touchstone/leap"
)

// runs knows of Levels that they are within their bounds.
type runs struct{ known leap.Runs[*api.Level] }

// hold tells whether each of levels is within its bounds.
func (r *runs) hold(levels []api.Level) bool {
	l := list(levels)
	return r.known.Hold(len(l), l.place, l.isWithin)
}

// list is a list of Levels, in which each lies at a place.
type list []api.Level

func (l list) place(i int) *api.Level {
	return &l[i]
}

func (l list) isWithin(i int) bool {
	return areWithin(l[i : i+1])
}
