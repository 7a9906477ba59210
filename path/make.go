package path

import (
	"slices"

	"confluence/api"
	"confluence/asn"
)

// mostTimes is how often a number is prepended at most.
const mostTimes = 255

// Norm is the normal form of any segments. It knows no limit of segments, nor of the numbers of a set.
func Norm(l []api.Seg) []api.Seg {
	var normal []api.Seg
	var run []uint32
	flush := func() {
		for piece := range slices.Chunk(run, api.MaxSeg) {
			// Pieces of a run lie in one memory: each segment gets its own.
			normal = append(normal, api.Seg{Kind: api.Sequence, AS: slices.Clone(piece)})
		}
		run = nil
	}
	for _, s := range l {
		// What is dropped ends no run: the sequences on both sides of it become one.
		switch {
		case s.Kind == api.Sequence:
			run = append(run, s.AS...)
		case s.Kind == api.Set && len(s.AS) > 0:
			flush()
			normal = append(normal, api.Seg{Kind: api.Set, AS: asn.Set(s.AS...)})
		}
	}
	flush()
	return normal
}

// Prepend puts a number ahead of a path, as often as asked for.
func Prepend(l []api.Seg, n uint32, times int) []api.Seg {
	times = min(max(times, 0), mostTimes)
	ahead := api.Seg{Kind: api.Sequence, AS: slices.Repeat([]uint32{n}, times)}
	return Norm(append([]api.Seg{ahead}, l...))
}

// Seq is the path of one sequence.
func Seq(l ...uint32) []api.Seg {
	return Norm([]api.Seg{{Kind: api.Sequence, AS: l}})
}

// Join is the path of a sequence and the numbers, in any order, of a set behind it.
func Join(lead, set []uint32) []api.Seg {
	l := []api.Seg{{Kind: api.Sequence, AS: lead}}
	// A number told twice takes no room: the set is made ahead of the split.
	for piece := range slices.Chunk(asn.Set(set...), api.MaxSeg) {
		l = append(l, api.Seg{Kind: api.Set, AS: piece})
	}
	return Norm(l)
}
