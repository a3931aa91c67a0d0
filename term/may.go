package term

import (
	"touchstone/api"
	"touchstone/level"
)

// mostNumber is the greatest number of a Var that is whole. Vars are lifted by no more, and from no more on.
const mostNumber = 1 << 30

// isWhole tells whether p itself is whole, whatever its Args are.
func (p part) isWhole() bool {
	byKind := [...]func(part) bool{
		api.TermVar:   part.isWholeVar,
		api.TermSort:  part.isWholeSort,
		api.TermConst: part.isWholeConst,
		api.TermApp:   part.isBare,
		api.TermLam:   part.isBare,
		api.TermPi:    part.isBare,
		api.TermLet:   part.isBare,
	}
	return p.isFormed() && byKind[p.term.Kind](p)
}

func (p part) isWholeVar() bool {
	t := p.term
	return t.N >= 0 && t.N <= mostNumber && t.Name == "" && len(t.Levels) == 0
}

func (p part) isWholeSort() bool {
	t := p.term
	return t.N == 0 && t.Name == "" && len(t.Levels) == 1
}

func (p part) isWholeConst() bool {
	return p.term.N == 0
}

func (p part) isBare() bool {
	t := p.term
	return t.N == 0 && t.Name == "" && len(t.Levels) == 0
}

// scope is what a term may lean on: the binders around it, and level parameters.
type scope struct{ binders, params int }

// check tells what is wrong with p, which is whole, whatever its Args are.
func (s scope) check(p part) api.Errno {
	byKind := [...]func(scope, part) api.Errno{
		api.TermVar:   scope.checkVar,
		api.TermSort:  scope.checkLevels,
		api.TermConst: scope.checkConst,
		api.TermApp:   scope.checkNothing,
		api.TermLam:   scope.checkNothing,
		api.TermPi:    scope.checkNothing,
		api.TermLet:   scope.checkNothing,
	}
	return byKind[p.term.Kind](s, p)
}

func (s scope) checkVar(p part) api.Errno {
	if n, ok := p.free(); ok && n >= s.binders {
		return api.ErrScope
	}
	return api.OK
}

func (s scope) checkLevels(p part) api.Errno {
	if len(p.term.Levels) > api.MaxParams {
		return api.ErrLevel
	}
	for _, l := range p.term.Levels {
		if !level.May(l, s.params) {
			return api.ErrLevel
		}
	}
	return api.OK
}

func (s scope) checkConst(p part) api.Errno {
	if e := s.checkLevels(p); e != api.OK {
		return e
	}
	if p.term.Name == "" || len(p.term.Name) > api.MaxName {
		return api.ErrName
	}
	return api.OK
}

func (s scope) checkNothing(part) api.Errno {
	return api.OK
}
