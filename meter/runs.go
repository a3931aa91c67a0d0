package meter

import "touchstone/api"

// mostBetween is how far apart notes of Levels are at first, where these come one by one.
const mostBetween = 64

// runs knows of Levels that they are within their bounds. Lists of Levels may lie in one another's memory, so that
// little of it holds more of them than can be gone through: those that are known are leapt over.
type runs struct {
	ahead map[*api.Level]int // from that Level on, so many are within their bounds
	noted []int              // which ones of the list that is gone through have, or get, a note
}

// hold tells whether each of levels is within its bounds.
func (r *runs) hold(levels []api.Level) bool {
	r.noted = r.noted[:0]
	at := 0
	for at < len(levels) {
		known := r.ahead[&levels[at]]
		if known == 0 && !areWithin(levels[at:at+1]) {
			return false
		}
		if known > 0 || at%mostBetween == 0 {
			r.noted = append(r.noted, at)
		}
		at += max(known, 1)
	}
	r.note(levels, at)
	return true
}

// note keeps that all are known up to the end, which may lie behind that of levels. Each way there is one leap
// from now on: else the ways that are gone again and again would grow long.
func (r *runs) note(levels []api.Level, end int) {
	if r.ahead == nil {
		r.ahead = map[*api.Level]int{}
	}
	for _, at := range r.noted {
		r.ahead[&levels[at]] = end - at
	}
}
