package graph

import (
	"touchstone/api"
	"touchstone/leap"
	"touchstone/level"
)

// Levels are Levels of a term, with others put in the place of their parameters. What comes of that is made
// where it is asked for, one by one: it may be far more than what it is made of, and most is never asked for.
type Levels struct {
	list []api.Level
	by   *[]api.Level // what is put in, if something is
}

// Len is how many they are.
func (l Levels) Len() int {
	return len(l.list)
}

// at is the i-th of them.
func (l Levels) at(i int) api.Level {
	if l.by == nil {
		return l.list[i]
	}
	return level.Put(l.list[i], *l.by)
}

// all are all of them, as they are.
func (l Levels) all() (list []api.Level) {
	for i := range l.list {
		list = append(list, l.at(i))
	}
	return list
}

// put is what is put in.
func (l Levels) put() []api.Level {
	if l.by == nil {
		return nil
	}
	return *l.by
}

// levelPlace is where a Level lies, and what is put in it: Levels of one place are one, with all behind them.
type levelPlace struct {
	level *api.Level
	by    *[]api.Level
}

// place is the i-th one's.
func (l Levels) place(i int) levelPlace {
	return levelPlace{&l.list[i], l.by}
}

// parameter is what is put in the place of l itself, or nil.
func parameter(l *api.Level, by []api.Level) *api.Level {
	if l.Kind != api.LevelParam || l.N < 0 || l.N >= len(by) {
		return nil
	}
	return &by[l.N]
}

// rest is how many of so many parts are left by l, with by put in, where it may be so deep. Below 0: it is too great.
func rest(l *api.Level, by []api.Level, parts, deep int) int {
	if p := parameter(l, by); p != nil {
		l, by = p, nil
	}
	if parts == 0 || deep == 0 {
		return -1
	}
	parts--
	for i := range l.Args {
		if parts = rest(&l.Args[i], by, parts, deep-1); parts < 0 {
			return -1
		}
	}
	return parts
}

// mostUnnoted is how many Levels are gone through without a note of where they lie: notes cost time and room.
const mostUnnoted = 1 << 20

// fitting knows which Levels are as small as may be, with by put in.
type fitting struct {
	by   []api.Level
	met  int // that were gone through without a note
	runs leap.Runs[*api.Level]
}

// fit tells whether each of levels is as small as may be.
func (f *fitting) fit(levels []api.Level) bool {
	l := fittingList{f.by, levels}
	if f.met > mostUnnoted {
		return f.runs.Hold(len(levels), l.place, l.fits)
	}
	f.met += len(levels)
	for i := range levels {
		if !l.fits(i) {
			return false
		}
	}
	return true
}

// fittingList is a list of Levels, each of which is at a place.
type fittingList struct{ by, levels []api.Level }

func (l fittingList) place(i int) *api.Level {
	return &l.levels[i]
}

func (l fittingList) fits(i int) bool {
	return rest(&l.levels[i], l.by, api.MaxParts, api.MaxLevel) >= 0
}
