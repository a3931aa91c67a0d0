package meter

import "touchstone/api"

// notes are numbers of lists of terms, by where these lie.
type notes map[spot]int

// spot is where a list, which is not empty, lies.
type spot struct {
	first  *api.Term
	length int
}

func spotOf(terms []api.Term) spot {
	return spot{&terms[0], len(terms)}
}

// put notes a number of terms.
func (n *notes) put(terms []api.Term, number int) {
	if *n == nil {
		*n = notes{}
	}
	(*n)[spotOf(terms)] = number
}
