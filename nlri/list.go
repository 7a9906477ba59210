package nlri

import (
	"slices"

	"confluence/api"
	"confluence/prefix"
)

// Fits is how many prefixes, from the first one on, have no more than room bytes together.
func Fits(l []api.Prefix, room int) int {
	sum := 0
	for i, p := range l {
		sum += Size(p)
		if sum > room {
			return i
		}
	}
	return len(l)
}

// Sort puts the good prefixes in order, each once.
func Sort(l ...api.Prefix) []api.Prefix {
	// Cmp orders good prefixes alone: the others must be gone ahead of it.
	good := without(l, func(p api.Prefix) bool { return !prefix.Good(p) })
	slices.SortFunc(good, prefix.Cmp)
	return slices.Compact(good)
}

// Pack splits a list into runs, each as long as the room allows.
func Pack(l []api.Prefix, room int) [][]api.Prefix {
	// A prefix that would fit nowhere must not end a run: it is left out first.
	rest := without(l, func(p api.Prefix) bool { return !prefix.Good(p) || Size(p) > room })
	var runs [][]api.Prefix
	for len(rest) > 0 {
		n := Fits(rest, room)
		runs = append(runs, slices.Clone(rest[:n]))
		rest = rest[n:]
	}
	return runs
}

// without is a new list of the prefixes that are not to be left out.
func without(l []api.Prefix, out func(api.Prefix) bool) []api.Prefix {
	// The list is the caller's: DeleteFunc would change it.
	return slices.DeleteFunc(slices.Clone(l), out)
}
