package arena

import (
	"math/bits"

	"touchstone/api"
)

// Each list of Levels that comes has a number. The empty one has 0, a list of one Level a number below 0,
// and a longer one a number above 0, by the numbers of its halves. How many they are alone says where it is cut,
// so that lists that are alike have one number. And lists that lie in one another's memory have many halves
// in common: to go through each list by itself, and keep it by itself, would take too long and too much room.

// single is a list of one Level, which knows its Args by their number.
type single struct{ kind, n, below int }

// pair is a list of several Levels: the numbers of its halves.
type pair struct{ first, rest int }

func singleNumber(n int) int { return -1 - n }

func ofSingle(number int) int { return -1 - number }

func pairNumber(n int) int { return n + 1 }

func ofPair(number int) int { return number - 1 }

// mostUnnoted is how many lists are gone through without a note of where they lie: notes cost time and room.
const mostUnnoted = 1 << 18

// span is a list of Levels, which is not empty, that is being numbered.
type span struct {
	levels []api.Level
	first  int // the number of the first half, once it is known: that is never 0
}

// spot is where a span's list lies.
type spot struct {
	first  *api.Level
	length int
}

// unnumbered is what is known of a list as long as it is being numbered.
const unnumbered = 0

func (s *span) spot() spot {
	return spot{&s.levels[0], len(s.levels)}
}

// half is how many Levels the first half has: the greatest power of two below that of all.
func (s *span) half() int {
	return 1 << (bits.Len(uint(len(s.levels)-1)) - 1)
}

// next is the list whose number is asked next: that of the only Level's Args, or a half.
func (s *span) next() []api.Level {
	switch {
	case len(s.levels) == 1:
		return s.levels[0].Args
	case s.first == 0:
		return s.levels[:s.half()]
	}
	return s.levels[s.half():]
}

// list is the number of a list of Levels.
func (d *draft) list(levels []api.Level) int {
	number, known := d.enter(levels)
	for !d.spoilt && len(d.open) > 0 {
		if known {
			number, known = d.step(number)
			continue
		}
		number, known = d.enter(d.open[len(d.open)-1].next())
	}
	return number
}

// enter begins to number levels, unless their number is known.
func (d *draft) enter(levels []api.Level) (number int, known bool) {
	if len(levels) == 0 {
		return 0, true
	}
	d.met++
	if len(levels) == 1 && len(levels[0].Args) == 0 {
		return d.single(&levels[0], 0), true
	}
	s := span{levels: levels}
	number, known = d.known[s.spot()]
	if known {
		// What stands below itself has no end.
		d.spoilt = d.spoilt || number == unnumbered
		return number, true
	}
	d.note(&s, unnumbered)
	d.open = append(d.open, s)
	return 0, false
}

// step brings the number that the list which was entered last asked for. It tells the number of that list,
// if it asks for no other one.
func (d *draft) step(asked int) (number int, known bool) {
	last := len(d.open) - 1
	s := &d.open[last]
	switch {
	case len(s.levels) == 1:
		number = d.single(&s.levels[0], asked)
	case s.first == 0:
		s.first = asked
		return 0, false
	default:
		number = pairNumber(d.pairs.number(pair{s.first, asked}))
	}
	d.note(s, number)
	d.open = d.open[:last]
	return number, true
}

// single is the number of the list of l alone, whose Args have the number below.
func (d *draft) single(l *api.Level, below int) int {
	return singleNumber(d.singles.number(single{l.Kind, l.N, below}))
}

// note keeps the number of s, if that pays.
func (d *draft) note(s *span, number int) {
	if !d.paysToNote() {
		return
	}
	if d.known == nil {
		d.known = map[spot]int{}
	}
	d.known[s.spot()] = number
}

func (d *draft) paysToNote() bool {
	return d.met > mostUnnoted
}
