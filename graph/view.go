package graph

import (
	"slices"

	"arbor/api"
)

// View is a graph with its edges by their ends.
type View struct {
	api.Graph
	outs, ins [][]int
	order     []int // with a cycle it lacks the vertices on cycles, and behind them
}

// Of gives the view of a graph.
func Of(g api.Graph) *View {
	if !May(g) {
		return &View{}
	}
	v := &View{Graph: g}
	v.Edges = slices.Clone(g.Edges) // whoever handed g in may change its edges later on
	v.outs = make([][]int, v.Vertices)
	v.ins = make([][]int, v.Vertices)
	for i, e := range v.Edges {
		v.outs[e.Tail] = append(v.outs[e.Tail], i)
		v.ins[e.Head] = append(v.ins[e.Head], i)
	}
	v.order = v.peel()
	return v
}

// Outs gives the edges that a vertex is the tail of.
func (v *View) Outs(x int) []int { return edgesAt(v.outs, x) }

// Ins gives the edges that a vertex is the head of.
func (v *View) Ins(x int) []int { return edgesAt(v.ins, x) }

// Sources gives the vertices without edges to them.
func (v *View) Sources() []int { return without(v.ins) }

// Sinks gives the vertices without edges from them.
func (v *View) Sinks() []int { return without(v.outs) }

// Order gives the vertices, tails ahead of heads; false: a cycle lets none be.
func (v *View) Order() ([]int, bool) {
	if len(v.order) < len(v.ins) {
		return nil, false
	}
	return slices.Clone(v.order), true
}

func edgesAt(ends [][]int, x int) []int {
	if !within(x, len(ends)) {
		return nil
	}
	return slices.Clone(ends[x])
}

func without(ends [][]int) []int {
	var list []int
	for x, edges := range ends {
		if len(edges) == 0 {
			list = append(list, x)
		}
	}
	return list
}

// taken stands in place of a count for a vertex that peel has taken away.
const taken = -1

// peel takes away, again and again, the least vertex to which no edge goes from one that is left, and gives those in their order.
func (v *View) peel() []int {
	var order []int
	waits := make([]int, v.Vertices)
	for x, edges := range v.ins {
		waits[x] = len(edges)
	}
	for {
		x := slices.Index(waits, 0)
		if x < 0 {
			return order
		}
		waits[x] = taken
		order = append(order, x)
		for _, e := range v.outs[x] {
			waits[v.Edges[e].Head]--
		}
	}
}

// isLeft tells whether a vertex is one of those that peel could not take away.
func (v *View) isLeft(x int) bool { return !slices.Contains(v.order, x) }
