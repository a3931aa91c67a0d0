package term

import (
	"slices"

	"touchstone/api"
	"touchstone/level"
)

const (
	mostTold   = 1 << 25 // parts of a term that is told: more have more bytes than an answer may have
	mostLevels = 1 << 26 // parts of all its Levels: likewise
	mostNested = 1 << 16 // parts of a Level in one another
)

// weight is how many parts a term has, and its Levels have in all.
type weight struct{ parts, levels int }

// addLevel adds l, which is so deep, with by put in, and tells whether there is room for it.
func (w *weight) addLevel(l *api.Level, by []api.Level, deep int) bool {
	if l.Kind == api.LevelParam && l.N >= 0 && l.N < len(by) {
		return w.addLevel(&by[l.N], nil, deep)
	}
	w.levels++
	if w.levels > mostLevels || deep > mostNested {
		return false
	}
	for i := range l.Args {
		if !w.addLevel(&l.Args[i], by, deep+1) {
			return false
		}
	}
	return true
}

// add adds p itself, with by put in its Levels, and tells whether there is room for it.
func (w *weight) add(p part, by []api.Level) bool {
	w.parts++
	if w.parts == mostParts {
		return false
	}
	for i := range p.term.Levels {
		if !w.addLevel(&p.term.Levels[i], by, 1) {
			return false
		}
	}
	return true
}

// mayBeTold tells whether a term that is so great may be told.
func (w weight) mayBeTold() bool {
	return w.parts <= mostTold && w.levels <= mostLevels
}

// weigh is t's weight, with by put in its Levels.
// Not ok: it may have no end, or a part has other Args than its Kind names. All else can be turned.
func weigh(t *api.Term, by []api.Level) (w weight, ok bool) {
	for p := range parts(t) {
		if !p.isFormed() || !w.add(p, by) {
			return weight{}, false
		}
	}
	return w, true
}

// turn makes a new term of one: what becomes of its Vars, and of its Levels; all else stays as it is.
type turn struct {
	variable func(part) api.Term
	level    func(api.Level) api.Level
	jobs     []job // that are still to be done: a list, since terms may be deeper than a stack of calls
}

// job is a part that is to be turned, and the place for what becomes of it.
type job struct {
	from part
	to   *api.Term
}

// of is what becomes of t.
func (u *turn) of(t *api.Term) (out api.Term) {
	byKind := [...]func(*turn, job){
		api.TermVar:   (*turn).doVar,
		api.TermSort:  (*turn).doLeaf,
		api.TermConst: (*turn).doLeaf,
		api.TermApp:   (*turn).doBranch,
		api.TermLam:   (*turn).doBranch,
		api.TermPi:    (*turn).doBranch,
		api.TermLet:   (*turn).doBranch,
	}
	u.jobs = append(u.jobs, job{root(t), &out})
	for len(u.jobs) > 0 {
		last := len(u.jobs) - 1
		j := u.jobs[last]
		u.jobs = u.jobs[:last]
		byKind[j.from.term.Kind](u, j)
	}
	return out
}

func (u *turn) doVar(j job) {
	*j.to = u.variable(j.from)
}

func (u *turn) doLeaf(j job) {
	t := j.from.term
	*j.to = api.Term{Kind: t.Kind, N: t.N, Name: t.Name, Levels: slices.Grow([]api.Level(nil), len(t.Levels))}
	for _, l := range t.Levels {
		j.to.Levels = append(j.to.Levels, u.level(l))
	}
}

func (u *turn) doBranch(j job) {
	u.doLeaf(j)
	j.to.Args = make([]api.Term, len(j.from.term.Args))
	for i := range j.to.Args {
		u.jobs = append(u.jobs, job{j.from.arg(i), &j.to.Args[i]})
	}
}

// copied is l in new memory.
func copied(l api.Level) api.Level {
	out := api.Level{Kind: l.Kind, N: l.N}
	out.Args = slices.Grow(out.Args, len(l.Args))
	for _, a := range l.Args {
		out.Args = append(out.Args, copied(a))
	}
	return out
}

// lift makes free Vars from the number from on greater by by.
type lift struct{ by, from int }

func (l lift) variable(p part) api.Term {
	out := api.Term{Kind: api.TermVar, N: p.term.N}
	if n, ok := p.free(); ok && n >= l.from {
		out.N += l.by
	}
	return out
}

// lifted is t, all of it new, with its free Vars lifted.
func lifted(t *api.Term, by, from int) api.Term {
	u := turn{variable: lift{by, from}.variable, level: copied}
	return u.of(t)
}

// put has a term for the free Var 0, and makes greater ones less by one.
type put struct{ v *api.Term }

func (u put) variable(p part) api.Term {
	out := api.Term{Kind: api.TermVar, N: p.term.N}
	n, ok := p.free()
	switch {
	case ok && n == 0:
		return lifted(u.v, p.binders, 0)
	case ok:
		out.N--
	}
	return out
}

// putLevels has levels for the parameters of Levels.
type putLevels struct{ by []api.Level }

func (p putLevels) level(l api.Level) api.Level {
	return level.Put(l, p.by)
}
