package term

import (
	"touchstone/api"
	"touchstone/level"
)

// mostTold is how many parts a term has that is told: more have more bytes than an answer may have.
const mostTold = 1 << 25

// weight is how many parts a term has, and its Levels have in all.
type weight struct{ parts, levels int }

// mayBeTold tells whether a term that is so great may be told.
func (w weight) mayBeTold() bool {
	return w.parts <= mostTold && w.levels <= mostLevels
}

// weigh is t's weight.
// Not ok: it may have no end, or a part has other Args than its Kind names. All else can be turned.
func weigh(t *api.Term) (w weight, ok bool) {
	return weighBy(t, new(tally).of)
}

// weighBy is t's weight, where a Level has as many parts as size says.
func weighBy(t *api.Term, size func(*api.Level) int) (w weight, ok bool) {
	for p := range parts(t) {
		w.parts++
		if w.parts == mostParts || !p.isFormed() {
			return weight{}, false
		}
		for i := range p.term.Levels {
			w.levels += size(&p.term.Levels[i])
			if w.levels > mostLevels {
				return weight{}, false
			}
		}
	}
	return w, true
}

// turn makes a new term of one: what becomes of its Vars, and of its Levels; all else stays as it is.
type turn struct {
	variable func(part) api.Term
	levels   func([]api.Level) []api.Level
	jobs     []job // that are still to be done: a list, since terms may be deeper than a stack of calls
}

// job is a part that is to be turned, and the place for what becomes of it.
type job struct {
	from part
	to   *api.Term
}

// of is what becomes of t.
func (u *turn) of(t *api.Term) (out api.Term) {
	byKind := [...]func(*turn, job){
		api.TermVar:   (*turn).doVar,
		api.TermSort:  (*turn).doLeaf,
		api.TermConst: (*turn).doLeaf,
		api.TermApp:   (*turn).doBranch,
		api.TermLam:   (*turn).doBranch,
		api.TermPi:    (*turn).doBranch,
		api.TermLet:   (*turn).doBranch,
	}
	u.jobs = append(u.jobs, job{root(t), &out})
	for len(u.jobs) > 0 {
		last := len(u.jobs) - 1
		j := u.jobs[last]
		u.jobs = u.jobs[:last]
		byKind[j.from.term.Kind](u, j)
	}
	return out
}

func (u *turn) doVar(j job) {
	*j.to = u.variable(j.from)
}

func (u *turn) doLeaf(j job) {
	t := j.from.term
	*j.to = api.Term{Kind: t.Kind, N: t.N, Name: t.Name, Levels: u.levels(t.Levels)}
}

func (u *turn) doBranch(j job) {
	u.doLeaf(j)
	j.to.Args = make([]api.Term, len(j.from.term.Args))
	for i := range j.to.Args {
		u.jobs = append(u.jobs, job{j.from.arg(i), &j.to.Args[i]})
	}
}

// copied are levels in new memory, all below too. What is still to be copied stands in a list,
// since Levels may be deeper than a stack of calls.
func copied(levels []api.Level) []api.Level {
	out := append([]api.Level(nil), levels...)
	open := [][]api.Level{out}
	for len(open) > 0 {
		last := len(open) - 1
		fresh := open[last]
		open = open[:last]
		for i := range fresh {
			fresh[i].Args = append([]api.Level(nil), fresh[i].Args...)
			if len(fresh[i].Args) > 0 {
				open = append(open, fresh[i].Args)
			}
		}
	}
	return out
}

// lift makes free Vars from the number from on greater by by.
type lift struct{ by, from int }

func (l lift) variable(p part) api.Term {
	out := api.Term{Kind: api.TermVar, N: p.term.N}
	if n, ok := p.free(); ok && n >= l.from {
		out.N += l.by
	}
	return out
}

// lifted is t, all of it new, with its free Vars lifted.
func lifted(t *api.Term, by, from int) api.Term {
	u := turn{variable: lift{by, from}.variable, levels: copied}
	return u.of(t)
}

// put has a term for the free Var 0, and makes greater ones less by one.
type put struct{ v *api.Term }

func (u put) variable(p part) api.Term {
	out := api.Term{Kind: api.TermVar, N: p.term.N}
	n, ok := p.free()
	switch {
	case ok && n == 0:
		return lifted(u.v, p.binders, 0)
	case ok:
		out.N--
	}
	return out
}

// mostPut is how many parts a level has that level.Put tells: of a greater one it tells the zero value.
const mostPut = 1<<16 + 1

// putLevels has levels for the parameters of Levels. What level.Put tells of none is not asked of it:
// each time it would go a long way to find out.
type putLevels struct {
	by    []api.Level
	sizes tally
}

func newPutLevels(by []api.Level) *putLevels {
	return &putLevels{by, tally{by: by}}
}

// size is how many parts level.Put tells of l.
func (p *putLevels) size(l *api.Level) int {
	if n := p.sizes.of(l); n <= mostPut {
		return n
	}
	return 1
}

func (p *putLevels) of(levels []api.Level) []api.Level {
	out := make([]api.Level, len(levels))
	for i := range levels {
		if p.sizes.of(&levels[i]) <= mostPut {
			out[i] = level.Put(levels[i], p.by)
		}
	}
	return out
}
