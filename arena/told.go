package arena

import "touchstone/api"

// term is the term with that number, all of it new. What is kept is not deeper than a stack of calls.
func (a *Arena) term(id int) api.Term {
	n := &a.terms.keys[id]
	t := api.Term{Kind: n.kind, N: n.n, Name: n.name, Levels: a.levels(n.levels)}
	if n.count > 0 {
		t.Args = make([]api.Term, n.count)
	}
	for i := range t.Args {
		t.Args[i] = a.term(n.args[i])
	}
	return t
}

// job is a list of Levels that is to be told, by its number, and the place for it.
type job struct {
	number int
	to     *[]api.Level
}

// levels is the list of Levels with that number, all of it new. What is still to be told stands in a list,
// since Levels may be deeper than a stack of calls.
func (a *Arena) levels(number int) (out []api.Level) {
	jobs := []job{{number, &out}}
	var list []single
	for len(jobs) > 0 {
		last := len(jobs) - 1
		j := jobs[last]
		jobs = jobs[:last]
		list = a.appendList(list[:0], j.number)
		if len(list) == 0 {
			continue
		}
		*j.to = make([]api.Level, len(list))
		for i, s := range list {
			l := &(*j.to)[i]
			l.Kind, l.N = s.kind, s.n
			jobs = append(jobs, job{s.below, &l.Args})
		}
	}
	return out
}

// appendList puts the Levels of the list with that number behind others. Halves of halves are soon at their end.
func (a *Arena) appendList(to []single, number int) []single {
	switch {
	case number < 0:
		return append(to, a.singles.keys[ofSingle(number)])
	case number > 0:
		p := a.pairs.keys[ofPair(number)]
		return a.appendList(a.appendList(to, p.first), p.rest)
	}
	return to
}
