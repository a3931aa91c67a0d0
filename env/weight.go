package env

import "touchstone/api"

// How many bytes one of each has in a list.
const (
	declBytes  = 240
	ctorBytes  = 96
	termBytes  = 80
	levelBytes = 40
)

// weight is how many there are in the lists of declarations, each as often as it stands there.
type weight struct{ ctors, terms, levels int }

// weigh is the weight of l's declarations. Not ok: with it they have more than so many bytes.
func weigh(l []*api.Decl, most int) (w weight, ok bool) {
	left := most - len(l)*declBytes
	ctors := load[api.Ctor]{left: &left, bytes: ctorBytes}
	terms := load[api.Term]{left: &left, bytes: termBytes}
	levels := load[api.Level]{left: &left, bytes: levelBytes}
	k := look{ctors.take, terms.take, levels.take}
	for _, d := range l {
		k.decl(d)
	}
	ctors.finish(k.ctor)
	terms.finish(k.term)
	levels.finish(k.level)
	return weight{ctors.count, terms.count, levels.count}, left >= 0
}

// load counts the things of lists.
type load[T any] struct {
	count int
	bytes int  // that one thing has
	left  *int // bytes that there is still room for; below 0 nothing is counted any more: what is handed in may have no end
	open  [][]T
}

// take counts list. What stands below comes later.
func (o *load[T]) take(list []T) {
	if len(list) == 0 || *o.left < 0 {
		return
	}
	o.count += len(list)
	*o.left -= len(list) * o.bytes
	o.open = append(o.open, list)
}

// finish counts what stands below the lists that are open, and below those that this opens.
func (o *load[T]) finish(each func(*T)) {
	for len(o.open) > 0 && *o.left >= 0 {
		last := len(o.open) - 1
		list := o.open[last]
		o.open = o.open[:last]
		for i := range list {
			each(&list[i])
		}
	}
}
