package sweep

import (
	"slices"

	"arbor/api"
	"arbor/planar"
	"arbor/reach"
)

// few is how many edges have so few orders that it is quicker to try them all than to ask whether they fit.
const few = 5

// fits gives what tells of the beginning of an order of a branch's own edges whether it is worth going on with: the rest may have any order.
func (s *search) fits(b branch) func(begun, rest []int) bool {
	return func(begun, rest []int) bool {
		if len(begun) == 0 {
			return true
		}
		last := begun[len(begun)-1]
		if slices.ContainsFunc(rest, func(i int) bool { return i < last && s.alike(i, last) }) {
			return false
		}
		return len(rest) == 0 || len(b.own) <= few || s.lies(b, begun, rest)
	}
}

// alike tells whether two edges from one vertex could change places: nothing else goes to their heads, and the same comes of these.
func (s *search) alike(i, j int) bool {
	x, y := s.view.Edges[i].Head, s.view.Edges[j].Head
	return len(s.view.Ins(x)) == 1 && len(s.view.Ins(y)) == 1 && reach.Of(s.heads(s.view.Outs(x))...) == reach.Of(s.heads(s.view.Outs(y))...)
}

// lies tells whether a branch could at least be laid in the plane: with its own edges in an order that begins so. (Of one that is too large to be asked it tells that it could.)
func (s *search) lies(b branch, begun, rest []int) bool {
	ring := alone(s.heads(slices.Concat(b.left, begun)))
	ring = append(ring, s.heads(rest))
	ring = append(ring, alone(s.heads(b.right))...)
	ring = append(ring, s.top(b.part))
	g := s.ringed(b.part.All(), ring)
	return !planar.Plain(g) || planar.Is(g)
}

// top gives the vertex of a part that is placed last, if it is known: no edge of the part can go around it, so that it is tied to the ring where the row's two ends meet.
func (s *search) top(part reach.Set) []int {
	var sinks []int
	for _, x := range part.All() {
		if len(s.view.Outs(x)) == 0 {
			sinks = append(sinks, x)
		}
	}
	if len(sinks) > 1 {
		return nil
	}
	return sinks
}

// alone gives each bunch's vertex as a list.
func alone(heads []int) [][]int {
	var lists [][]int
	for _, b := range bunches(heads) {
		lists = append(lists, []int{b.head})
	}
	return lists
}

// ringed gives the graph of a part's vertices, with a ring of more vertices around it: each is tied to those that are listed for it. As the part hangs together, all of it lies on one side of the ring, so that the ring keeps the edges to it in their order.
func (s *search) ringed(part []int, ring [][]int) api.Graph {
	g := api.Graph{Vertices: len(part) + len(ring)}
	for _, e := range s.view.Edges {
		if tail := slices.Index(part, e.Tail); tail >= 0 {
			g.Edges = append(g.Edges, api.Edge{Tail: tail, Head: slices.Index(part, e.Head)})
		}
	}
	for k, heads := range ring {
		at := len(part) + k
		for _, x := range heads {
			g.Edges = append(g.Edges, api.Edge{Tail: at, Head: slices.Index(part, x)})
		}
		if k > 0 {
			g.Edges = append(g.Edges, api.Edge{Tail: at - 1, Head: at})
		}
	}
	if len(ring) > 2 {
		g.Edges = append(g.Edges, api.Edge{Tail: len(part), Head: g.Vertices - 1})
	}
	return g
}
