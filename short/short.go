// Package short tells lists that are short enough to try all of them. Just tests call it.
package short

import "slices"

// Lists tells every list of at most so many of the elements, shorter ones first: nil, an empty one, and then all the others, with elements in any order and more than once.
func Lists[L ~[]T, T any](of L, most int) []L {
	out := []L{nil, {}}
	last := []L{nil}
	for range most {
		var next []L
		for _, l := range last {
			for _, e := range of {
				next = append(next, append(slices.Clone(l), e))
			}
		}
		out = append(out, next...)
		last = next
	}
	return out
}
