package block

import (
	"slices"

	"arbor/graph"
)

// none is the edge by which the first vertex of a walk is come to.
const none = -1

// walk goes through a graph depth first, whichever way its edges go.
type walk struct {
	*graph.View
	time   int
	come   []int // when each vertex was come to, from 1 on; 0: not yet
	open   []int // edges that were met and are in no block yet
	blocks [][]int
}

// from goes on from a vertex that is come to by an edge, and tells the time of the earliest vertex that edges met from there on lead to.
func (w *walk) from(x, by int) int {
	w.time++
	w.come[x] = w.time
	earliest := w.time
	for _, e := range slices.Concat(w.Outs(x), w.Ins(x)) {
		y := w.Edges[e].Tail + w.Edges[e].Head - x
		switch {
		case e == by || w.come[y] > w.come[x]: // it was met already, from its other end
		case w.come[y] > 0:
			w.open = append(w.open, e)
			earliest = min(earliest, w.come[y])
		default:
			earliest = min(earliest, w.along(e, x, y))
		}
	}
	return earliest
}

// along goes along an edge, from x to y which wasn't come to yet. If nothing from there on leads to a vertex ahead of x, no circle comes in at x and goes on along e: the edges that are open from e on are a block.
func (w *walk) along(e, x, y int) int {
	first := len(w.open)
	w.open = append(w.open, e)
	earliest := w.from(y, e)
	if earliest >= w.come[x] {
		w.blocks = append(w.blocks, slices.Clone(w.open[first:]))
		w.open = w.open[:first]
	}
	return earliest
}
