package term

import "touchstone/api"

// mostLevels is how many parts the Levels of a term that is told have: more have more bytes than an answer may have.
const mostLevels = 1 << 26

// tally counts the parts of Levels, with by in the place of their parameters.
type tally struct {
	by    []api.Level
	met   int          // parts that were gone through
	open  []span       // each below the one ahead of it: a list, since Levels may be deeper than a stack of calls
	sizes map[spot]int // parts of lists, all below too; 0, as long as they are being counted
}

// span is a list of Levels that is being counted.
type span struct {
	levels []api.Level
	puts   bool // whether by is put in
	next   int  // which of the levels comes next
	size   int  // what was counted so far
}

// spot is where a span's list lies, and what tells its size from that of the same list elsewhere.
type spot struct {
	list list
	puts bool
}

func (s *span) spot() spot {
	return spot{listOf(s.levels), s.puts}
}

// of is how many parts l has, or mostLevels and 1, if that is less.
func (t *tally) of(l *api.Level) int {
	itself := span{size: 1}
	t.open = append(t.open[:0], itself)
	t.enter(t.put(l, true))
	for len(t.open) > 1 {
		s := &t.open[len(t.open)-1]
		if s.next == len(s.levels) {
			t.leave()
			continue
		}
		s.next++
		t.enter(t.put(&s.levels[s.next-1], s.puts))
	}
	return t.open[0].size
}

// put is what stands below l, or below what is put in its place, and whether by is put in there.
func (t *tally) put(l *api.Level, puts bool) ([]api.Level, bool) {
	if puts && l.Kind == api.LevelParam && l.N >= 0 && l.N < len(t.by) {
		return t.by[l.N].Args, false
	}
	return l.Args, puts
}

// enter begins to count levels, unless it is known how many parts they have.
func (t *tally) enter(levels []api.Level, puts bool) {
	if len(levels) == 0 {
		return
	}
	s := span{levels: levels, puts: puts, size: len(levels)}
	size, known := t.sizes[s.spot()]
	switch {
	case !known:
		t.met += len(levels)
		t.note(s.spot(), 0)
		t.open = append(t.open, s)
	case size == 0: // what stands below itself has no end
		t.grow(mostLevels + 1)
	default:
		t.grow(size)
	}
}

// leave ends the list that was entered last.
func (t *tally) leave() {
	last := len(t.open) - 1
	s := t.open[last]
	t.open = t.open[:last]
	t.note(s.spot(), s.size)
	t.grow(s.size)
}

// grow adds so many parts to the list that was entered last.
func (t *tally) grow(parts int) {
	s := &t.open[len(t.open)-1]
	s.size = min(s.size+parts, mostLevels+1)
}

// note keeps how many parts the list at s has, once so much was gone through that it pays.
func (t *tally) note(s spot, size int) {
	if t.met <= mostUnnoted {
		return
	}
	if t.sizes == nil {
		t.sizes = map[spot]int{}
	}
	t.sizes[s] = size
}
