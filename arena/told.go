package arena

import "touchstone/api"

// term is the term with that number, all of it new. What is kept is not deeper than a stack of calls.
func (a *Arena) term(id int) api.Term {
	n := &a.terms.keys[id]
	t := api.Term{Kind: n.kind, N: n.n, Name: n.name, Levels: a.levels(n.levels)}
	if n.count > 0 {
		t.Args = make([]api.Term, n.count)
	}
	for i := range t.Args {
		t.Args[i] = a.term(n.args[i])
	}
	return t
}

// job is a list of Levels that is to be told, by its number, and the place for it.
type job struct {
	number int
	to     *[]api.Level
}

// levels is the list of Levels with that number, all of it new. What is still to be told stands in a list,
// since Levels may be deeper than a stack of calls.
func (a *Arena) levels(number int) (out []api.Level) {
	jobs := []job{{number, &out}}
	for len(jobs) > 0 {
		last := len(jobs) - 1
		j := jobs[last]
		jobs = jobs[:last]
		*j.to = a.bareLevels(j.number)
		for i := range *j.to {
			r := a.lists.keys[j.number-1]
			if r.below > 0 {
				jobs = append(jobs, job{r.below, &(*j.to)[i].Args})
			}
			j.number = r.rest
		}
	}
	return out
}

// bareLevels is the list of Levels with that number, without what stands below them.
func (a *Arena) bareLevels(number int) (out []api.Level) {
	for number > 0 {
		r := a.lists.keys[number-1]
		out = append(out, api.Level{Kind: r.kind, N: r.n})
		number = r.rest
	}
	return out
}
