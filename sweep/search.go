package sweep

import (
	"slices"

	"arbor/api"
	"arbor/graph"
	"arbor/reach"
)

// search looks for orders of the edges from each vertex by which all vertices can be placed.
//
// It goes part by part. A part is vertices that aren't placed, and hang together; its row is the edges to it from what is placed, from left to right, without loose ends, as these are in nobody's way. Parts whose edges don't stand by turns aren't in each other's way either: of two, one stands beside the other, or between two edges of it, and can be placed first.
type search struct {
	view *graph.View
	from []reach.Set         // what can be reached from each vertex
	vain map[string]struct{} // rows above which not all of the part can be placed
	lost bool                // some part can't be placed, whatever is laid below it
	outs [][]int             // the edges from each vertex, as they were laid last
}

// begin gives the search through a good graph's orders.
func begin(g api.Graph) *search {
	return &search{view: graph.Of(g), from: reach.From(g), vain: map[string]struct{}{}, outs: make([][]int, g.Vertices)}
}

// all gives the edges from each vertex, from left to right; false: no orders will do.
func (s *search) all() ([][]int, bool) {
	ok := s.lay(s.view.Sources()[0], nil, nil)
	return s.outs, ok
}

// stands tells whether all of a part can be placed above its row.
func (s *search) stands(row []int) bool {
	if _, vain := s.vain[name(row)]; vain || s.lost {
		return false
	}
	if b, ok := s.next(row); ok && s.lay(b.head, row[:b.from], row[b.to:]) {
		return true
	}
	s.vain[name(row)] = struct{}{}
	s.vain[name(mirrored(row))] = struct{}{}
	return false
}

// name gives a text that tells rows apart: numbers of edges are bytes.
func name(row []int) string {
	var text []byte
	for _, i := range row {
		text = append(text, byte(i))
	}
	return string(text)
}

// lay tells whether all of a part can be placed above a vertex of it, and above what stands left and right of that vertex.
func (s *search) lay(x int, left, right []int) bool {
	branches, ok := s.branches(left, s.view.Outs(x), right)
	if !ok {
		return false
	}
	var outs []int
	for _, b := range branches {
		own, ok := s.order(b)
		if !ok {
			return false
		}
		outs = append(outs, own...)
	}
	s.outs[x] = outs
	return true
}

// order gives the first order of a branch's own edges above which all of it can be placed.
func (s *search) order(b branch) ([]int, bool) {
	for own := range orders(b.own, s.fits(b)) {
		if s.stands(slices.Concat(b.left, own, b.right)) {
			return own, true
		}
	}
	if len(b.left)+len(b.right) == 0 {
		s.lost = true // all of it hangs on one vertex, so no other row helps
	}
	return nil, false
}
