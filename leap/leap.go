// Package leap: lists that may lie in one another's memory, so that little of it holds more than can be gone through.
package leap

// mostBetween is how far apart notes of places are at first, where these come one by one.
const mostBetween = 64

// Runs knows of places in memory that they hold: those that are known are leapt over. A K names a place,
// and with it the places behind it, whichever list they are met in.
type Runs[K comparable] struct {
	ahead map[K]int // from that place on, so many hold
	noted []int     // which ones of the list that is gone through have, or get, a note
}

// Len is how many notes there are.
func (r *Runs[K]) Len() int {
	return len(r.ahead)
}

// Hold tells whether all of so many places hold. It asks holds of none that is known to.
func (r *Runs[K]) Hold(count int, place func(i int) K, holds func(i int) bool) bool {
	r.noted = r.noted[:0]
	at := 0
	for at < count {
		known := r.ahead[place(at)]
		if known == 0 && !holds(at) {
			break
		}
		if known > 0 || at%mostBetween == 0 {
			r.noted = append(r.noted, at)
		}
		at += max(known, 1)
	}
	r.note(at, place)
	return at >= count
}

// note keeps that all are known up to the end: that is where one does not hold, or it may lie behind that of the list.
// Each way there is one leap from now on: else the ways that are gone again and again would grow long.
func (r *Runs[K]) note(end int, place func(i int) K) {
	if r.ahead == nil && len(r.noted) > 0 {
		r.ahead = map[K]int{}
	}
	for _, at := range r.noted {
		r.ahead[place(at)] = end - at
	}
}
