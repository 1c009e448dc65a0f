package reach

import "math/bits"

// Set is vertices.
type Set uint64

// size is how many vertices there can be in a set: 0 up to the one below it.
const size = 64

// Has tells whether a vertex is there.
func (s Set) Has(x int) bool { return s&Of(x) != 0 }

// All gives the vertices, rising.
func (s Set) All() []int {
	var list []int
	for s != 0 {
		x := s.least()
		list = append(list, x)
		s &^= Of(x)
	}
	return list
}

// Of gives the set of vertices.
func Of(list ...int) Set {
	var s Set
	for _, x := range list {
		if 0 <= x && x < size {
			s |= 1 << x
		}
	}
	return s
}

// least gives the least vertex of a set that isn't empty.
func (s Set) least() int { return bits.TrailingZeros64(uint64(s)) }
