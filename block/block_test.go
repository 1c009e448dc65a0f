package block_test

import (
	"math"
	"slices"
	"testing"

	"arbor/api"
	"arbor/block"
)

// of makes a graph of its edges' ends, tail and head by turns.
func of(vertices int, ends ...int) api.Graph {
	g := api.Graph{Vertices: vertices}
	for i := 0; i < len(ends); i += 2 {
		g.Edges = append(g.Edges, api.Edge{Tail: ends[i], Head: ends[i+1]})
	}
	return g
}

// many gives a graph with n edges of which all are the same.
func many(vertices, n int, e api.Edge) api.Graph {
	g := api.Graph{Vertices: vertices}
	for range n {
		g.Edges = append(g.Edges, e)
	}
	return g
}

// down gives the chain of 64 vertices in which each has an edge to the one below it.
func down() api.Graph {
	g := api.Graph{Vertices: 64}
	for x := 63; x > 0; x-- {
		g.Edges = append(g.Edges, api.Edge{Tail: x, Head: x - 1})
	}
	return g
}

// upTo gives the numbers below n.
func upTo(n int) []int {
	var list []int
	for i := range n {
		list = append(list, i)
	}
	return list
}

func mustFall(t *testing.T, g api.Graph, want ...[]int) {
	t.Helper()
	if got := block.Blocks(g); !slices.EqualFunc(got, want, slices.Equal) {
		t.Errorf("Blocks(%v) = %v, want %v", g, got, want)
	}
}

func mustCut(t *testing.T, g api.Graph, want ...int) {
	t.Helper()
	if got := block.Cuts(g); !slices.Equal(got, want) {
		t.Errorf("Cuts(%v) = %v, want %v", g, got, want)
	}
}

func mustGrow(t *testing.T, g api.Graph, want ...block.Node) {
	t.Helper()
	if got := block.Tree(g); !slices.Equal(got, want) {
		t.Errorf("Tree(%v) = %v, want %v", g, got, want)
	}
}

// wheel has the triangle 0, 1, 2, the edge 2 to 3, and the square 3, 4, 5, 6 with one more edge across it.
func wheel() api.Graph {
	return of(7, 5, 6, 2, 0, 3, 4, 2, 3, 4, 5, 0, 1, 6, 3, 3, 5, 1, 2)
}

// P4.1: blocks by their least edges, edges rising, whatever their order and directions.
func TestBlocks(t *testing.T) {
	mustFall(t, of(2, 0, 1), []int{0})
	mustFall(t, of(3, 0, 1, 1, 2), []int{0}, []int{1})
	mustFall(t, of(3, 0, 1, 0, 2), []int{0}, []int{1})
	mustFall(t, of(3, 0, 1, 1, 2, 2, 0), []int{0, 1, 2})
	mustFall(t, of(3, 0, 1, 1, 2, 0, 2), []int{0, 1, 2})
	mustFall(t, of(4, 3, 2, 0, 1), []int{0}, []int{1})
	mustFall(t, wheel(), []int{0, 2, 4, 6, 7}, []int{1, 5, 8}, []int{3})
	mustFall(t, of(5, 0, 1, 3, 4, 1, 2, 0, 3, 2, 0, 4, 0), []int{0, 2, 4}, []int{1, 3, 5})
}

// P4.1: two edges between two vertices are a circle, whichever way they go.
func TestBlocksTwice(t *testing.T) {
	mustFall(t, of(2, 0, 1, 0, 1), []int{0, 1})
	mustFall(t, of(2, 0, 1, 1, 0), []int{0, 1})
	mustFall(t, of(3, 0, 1, 1, 2, 1, 0), []int{0, 2}, []int{1})
	mustFall(t, of(3, 1, 2, 0, 1, 2, 1, 1, 0, 1, 2), []int{0, 2, 4}, []int{1, 3})
	mustFall(t, many(64, 128, api.Edge{Tail: 63, Head: 0}), upTo(128))
}

// P4.1: cut vertices are ends of edges of two blocks, or more, and come rising.
func TestCuts(t *testing.T) {
	mustCut(t, of(2, 0, 1))
	mustCut(t, of(2, 0, 1, 1, 0))
	mustCut(t, of(3, 0, 1, 1, 2, 2, 0))
	mustCut(t, of(3, 0, 1, 1, 2), 1)
	mustCut(t, of(4, 3, 0, 3, 1, 2, 3), 3)
	mustCut(t, of(4, 0, 1, 2, 3))
	mustCut(t, wheel(), 2, 3)
	mustCut(t, of(5, 4, 0, 4, 3, 0, 1, 3, 2, 1, 0), 0, 3, 4)
	mustCut(t, many(64, 128, api.Edge{Tail: 63, Head: 0}))
}

// P4.1 and P4.2: without edges there are no blocks; a vertex alone is in none.
func TestWithoutEdges(t *testing.T) {
	for _, n := range []int{1, 2, 64} {
		mustFall(t, of(n))
		mustCut(t, of(n))
		mustGrow(t, of(n))
	}
}

// P4.1 and P4.2: the longest chain, and the longest circle.
func TestLong(t *testing.T) {
	g := down()
	var singles [][]int
	nodes := []block.Node{{At: 0, Parent: -1}}
	for i := range 63 {
		singles = append(singles, []int{i})
		if i > 0 { // the edge i is the one from 63-i down
			nodes = append(nodes, block.Node{Cut: true, At: 63 - i, Parent: 2*i - 2}, block.Node{At: i, Parent: 2*i - 1})
		}
	}
	mustFall(t, g, singles...)
	mustCut(t, g, upTo(63)[1:]...)
	mustGrow(t, g, nodes...)
	g.Edges = append(g.Edges, api.Edge{Tail: 63, Head: 0})
	mustFall(t, g, upTo(64))
	mustCut(t, g)
	mustGrow(t, g, block.Node{Parent: -1})
}

// P4.2: nodes come node by node; at a block its cut vertices, at a cut vertex its blocks, rising.
func TestTree(t *testing.T) {
	mustGrow(t, of(2, 0, 1), block.Node{Parent: -1})
	mustGrow(t, of(3, 0, 1, 1, 2), block.Node{Parent: -1}, block.Node{Cut: true, At: 1}, block.Node{At: 1, Parent: 1})
	mustGrow(t, wheel(), block.Node{Parent: -1}, block.Node{Cut: true, At: 3}, block.Node{At: 2, Parent: 1}, block.Node{Cut: true, At: 2, Parent: 2}, block.Node{At: 1, Parent: 3})
	// 5 and 2 are cut vertices of the first block; of the blocks at them those at 2 come first
	mustGrow(t, of(7, 5, 2, 5, 6, 2, 0, 3, 2, 5, 4, 1, 3),
		block.Node{Parent: -1},
		block.Node{Cut: true, At: 2}, block.Node{Cut: true, At: 5},
		block.Node{At: 2, Parent: 1}, block.Node{At: 3, Parent: 1},
		block.Node{At: 1, Parent: 2}, block.Node{At: 4, Parent: 2},
		block.Node{Cut: true, At: 3, Parent: 4}, block.Node{At: 5, Parent: 7})
}

// P4.2: of other parts than that of the edge 0 the tree has nothing, Blocks and Cuts have all.
func TestTreePart(t *testing.T) {
	g := of(7, 4, 5, 0, 1, 1, 2, 6, 5)
	mustFall(t, g, []int{0}, []int{1}, []int{2}, []int{3})
	mustCut(t, g, 1, 5)
	mustGrow(t, g, block.Node{Parent: -1}, block.Node{Cut: true, At: 5}, block.Node{At: 3, Parent: 1})
	mustGrow(t, of(5, 3, 4, 0, 1, 1, 2), block.Node{Parent: -1})
}

// nothingOf are graphs that may not be, or have loops.
func nothingOf() []api.Graph {
	return []api.Graph{
		{},
		of(-1),
		of(math.MinInt),
		of(65),
		of(math.MaxInt),
		of(math.MaxInt, 0, 1),
		of(-1, 0, 1),
		of(0, 0, 1),
		of(2, 0, 2),
		of(2, 2, 0),
		of(2, -1, 0),
		of(2, 0, -1),
		of(2, 0, 1, 0, 1, 1, math.MaxInt),
		of(2, math.MinInt, 1),
		of(2, math.MaxInt, math.MaxInt),
		many(64, 129, api.Edge{Tail: 0, Head: 63}),
		of(1, 0, 0),
		of(3, 0, 1, 1, 2, 2, 2),
		of(3, 0, 0, 0, 1, 1, 2),
		many(64, 128, api.Edge{Tail: 63, Head: 63}),
	}
}

// P4.1 and P4.2: of a graph that may not be, or has a loop, nothing is told.
func TestNothing(t *testing.T) {
	for _, g := range nothingOf() {
		mustFall(t, g)
		mustCut(t, g)
		mustGrow(t, g)
	}
}

// P2 with rule 4: what is handed in stays as it is, with what lies behind it, and what is answered is new memory, list by list.
func TestKeepsToItself(t *testing.T) {
	whole := of(4, 2, 1, 1, 0, 0, 2, 2, 3, 3, 0)
	g := api.Graph{Vertices: 4, Edges: whole.Edges[:4]}
	before := slices.Clone(whole.Edges)
	blocks, cuts, nodes := block.Blocks(g), block.Cuts(g), block.Tree(g)
	if !slices.Equal(whole.Edges, before) {
		t.Errorf("the edges are changed to %v", whole.Edges)
	}
	_ = append(blocks[0], 77)
	_ = append(blocks[1], 78)
	if !slices.EqualFunc(blocks, [][]int{{0, 1, 2}, {3}}, slices.Equal) {
		t.Errorf("lists share memory: %v", blocks)
	}
	blocks[0][0], cuts[0], nodes[0].At = 77, 77, 77
	mustFall(t, g, []int{0, 1, 2}, []int{3})
	mustCut(t, g, 2)
	mustGrow(t, g, block.Node{Parent: -1}, block.Node{Cut: true, At: 2}, block.Node{At: 1, Parent: 1})
}
