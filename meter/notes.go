package meter

// notes are numbers of lists, by where these lie.
type notes[T any] map[spot[T]]int

// spot is where a list, which is not empty, lies.
type spot[T any] struct {
	first  *T
	length int
}

func spotOf[T any](list []T) spot[T] {
	return spot[T]{&list[0], len(list)}
}

// put notes a number of list.
func (n *notes[T]) put(list []T, number int) {
	if *n == nil {
		*n = notes[T]{}
	}
	(*n)[spotOf(list)] = number
}
