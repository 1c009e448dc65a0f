package graph

import (
	"slices"

	"arbor/api"
)

// Check tells what is wrong with a graph.
func Check(g api.Graph) api.Fault {
	if !May(g) {
		return api.Fault{Code: api.ErrArg}
	}
	if i := slices.IndexFunc(g.Edges, isLoop); i >= 0 {
		return api.Fault{Code: api.ErrLoop, At: i}
	}
	if i := firstTwice(g.Edges); i >= 0 {
		return api.Fault{Code: api.ErrTwice, At: i}
	}
	v := Of(g)
	if c := v.cycle(); c != nil {
		return api.Fault{Code: api.ErrCycle, Vertices: c}
	}
	if s := v.Sources(); len(s) > 1 {
		return api.Fault{Code: api.ErrSource, Vertices: slices.Clone(s[:2])}
	}
	return api.Fault{}
}

func isLoop(e api.Edge) bool { return e.Tail == e.Head }

// firstTwice gives the number of the first edge that a lesser number has too, or -1.
func firstTwice(edges []api.Edge) int {
	for i, e := range edges {
		if slices.Contains(edges[:i], e) {
			return i
		}
	}
	return -1
}

// cycle gives a directed cycle, its least vertex first, or nil.
func (v *View) cycle() []int {
	at := 0
	for at < v.Vertices && !v.isLeft(at) {
		at++
	}
	if at == v.Vertices {
		return nil
	}
	var way []int
	for !slices.Contains(way, at) {
		way = append(way, at)
		at = v.leastTail(at)
	}
	way = way[slices.Index(way, at):]
	slices.Reverse(way) // it was gone back
	first := slices.Index(way, slices.Min(way))
	return slices.Concat(way[first:], way[:first])
}

// leastTail gives the least tail that is left of the edges to x, which is left itself and so has one.
func (v *View) leastTail(x int) int {
	least := v.Vertices
	for _, e := range v.ins[x] {
		if t := v.Edges[e].Tail; v.isLeft(t) {
			least = min(least, t)
		}
	}
	return least
}
