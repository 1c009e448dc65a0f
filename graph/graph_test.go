package graph_test

import (
	"math"
	"slices"
	"testing"

	"arbor/api"
	"arbor/graph"
)

// of makes a graph of its edges' ends, tail and head by turns.
func of(vertices int, ends ...int) api.Graph {
	g := api.Graph{Vertices: vertices}
	for i := 0; i < len(ends); i += 2 {
		g.Edges = append(g.Edges, api.Edge{Tail: ends[i], Head: ends[i+1]})
	}
	return g
}

// many gives a graph with n edges of which all are the same.
func many(vertices, n int, e api.Edge) api.Graph {
	g := api.Graph{Vertices: vertices}
	for range n {
		g.Edges = append(g.Edges, e)
	}
	return g
}

// notOnes are graphs that may not be.
func notOnes() []api.Graph {
	return []api.Graph{
		{},
		of(-1),
		of(math.MinInt),
		of(65),
		of(math.MaxInt),
		of(0, 0, 0),
		of(2, 0, 2),
		of(2, 2, 0),
		of(2, -1, 0),
		of(2, 0, -1),
		of(2, 0, 1, 1, math.MaxInt),
		of(2, math.MinInt, 1),
		many(64, 129, api.Edge{Tail: 0, Head: 63}),
	}
}

// P2.1: what may be, at the limits, and what may not.
func TestMay(t *testing.T) {
	for _, g := range []api.Graph{of(1), of(64), of(1, 0, 0), of(2, 1, 0, 1, 0), many(64, 128, api.Edge{Tail: 63, Head: 0})} {
		if !graph.May(g) {
			t.Errorf("May(%v) is false", g)
		}
	}
	for _, g := range notOnes() {
		if graph.May(g) {
			t.Errorf("May(%v) is true", g)
		}
	}
}

func mustFind(t *testing.T, g api.Graph, code api.Errno, at int, vertices ...int) {
	t.Helper()
	f := graph.Check(g)
	if f.Code != code || f.At != at || !slices.Equal(f.Vertices, vertices) {
		t.Errorf("Check(%v) = {%d %d %v}, want {%d %d %v}", g, int(f.Code), f.At, f.Vertices, int(code), at, vertices)
	}
}

// P2.1: graphs that are good.
func TestCheckGood(t *testing.T) {
	mustFind(t, of(1), api.OK, 0)
	mustFind(t, of(2, 1, 0), api.OK, 0)
	mustFind(t, of(4, 0, 1, 0, 2, 1, 3, 2, 3), api.OK, 0)
	chain := api.Graph{Vertices: 64}
	for x := 63; x > 0; x-- {
		chain.Edges = append(chain.Edges, api.Edge{Tail: x, Head: x - 1})
	}
	mustFind(t, chain, api.OK, 0)
}

// P2.1: ErrArg comes ahead of all others, and stands alone.
func TestCheckNotOne(t *testing.T) {
	for _, g := range notOnes() {
		mustFind(t, g, api.ErrArg, 0)
	}
	mustFind(t, of(2, 0, 0, 0, 2), api.ErrArg, 0)
}

// P2.1: each fault, and their order.
func TestCheckFaults(t *testing.T) {
	mustFind(t, of(1, 0, 0), api.ErrLoop, 0)
	mustFind(t, of(3, 0, 1, 0, 1, 2, 2, 1, 1), api.ErrLoop, 2)
	mustFind(t, of(3, 0, 1, 1, 2, 1, 2, 0, 1), api.ErrTwice, 2)
	mustFind(t, of(3, 1, 2, 2, 1, 1, 2), api.ErrTwice, 2)
	mustFind(t, of(3, 1, 2, 2, 1), api.ErrCycle, 0, 1, 2)
	mustFind(t, of(4, 1, 3), api.ErrSource, 0, 0, 1)
	mustFind(t, of(4, 2, 3, 3, 0), api.ErrSource, 0, 1, 2)
	mustFind(t, of(64), api.ErrSource, 0, 0, 1)
}

// P2.1: which cycle is told, and from where on.
func TestCheckCycle(t *testing.T) {
	mustFind(t, of(3, 0, 1, 1, 2, 2, 1), api.ErrCycle, 0, 1, 2)
	mustFind(t, of(3, 2, 1, 1, 0, 0, 2), api.ErrCycle, 0, 0, 2, 1)
	// From 0, which is left though on no cycle, it is gone back to 3, then to the lesser tail 1.
	mustFind(t, of(5, 3, 0, 1, 3, 2, 3, 3, 1, 3, 2, 4, 3), api.ErrCycle, 0, 1, 3)
	// 0 is the least tail of an edge to 1, but isn't left.
	mustFind(t, of(4, 0, 1, 3, 1, 1, 2, 2, 3), api.ErrCycle, 0, 1, 2, 3)
	// The least vertex of the cycle is neither the first nor the last one met.
	mustFind(t, of(5, 4, 0, 3, 4, 1, 3, 2, 1, 4, 2), api.ErrCycle, 0, 1, 3, 4, 2)
}

// P2.2: edges by their ends, sources, sinks, the order.
func TestView(t *testing.T) {
	g := of(5, 4, 2, 0, 1, 4, 0, 2, 1, 0, 1, 1, 3)
	v := graph.Of(g)
	if v.Vertices != 5 || !slices.Equal(v.Edges, g.Edges) {
		t.Errorf("the view's graph is %v", v.Graph)
	}
	outs := [][]int{{1, 4}, {5}, {3}, nil, {0, 2}}
	ins := [][]int{{2}, {1, 3, 4}, {0}, {5}, nil}
	for x := range 5 {
		if !slices.Equal(v.Outs(x), outs[x]) || !slices.Equal(v.Ins(x), ins[x]) {
			t.Errorf("at %d: %v and %v, want %v and %v", x, v.Outs(x), v.Ins(x), outs[x], ins[x])
		}
	}
	for _, x := range []int{-1, 5, math.MinInt, math.MaxInt} {
		if len(v.Outs(x)) != 0 || len(v.Ins(x)) != 0 {
			t.Errorf("there are edges at %d", x)
		}
	}
	if s := v.Sources(); !slices.Equal(s, []int{4}) {
		t.Errorf("sources %v", s)
	}
	if s := v.Sinks(); !slices.Equal(s, []int{3}) {
		t.Errorf("sinks %v", s)
	}
	mustOrder(t, g, 4, 0, 2, 1, 3)
}

func mustOrder(t *testing.T, g api.Graph, want ...int) {
	t.Helper()
	order, ok := graph.Of(g).Order()
	if !ok || !slices.Equal(order, want) {
		t.Errorf("Order of %v: %v, %v, want %v", g, order, ok, want)
	}
}

// P2.2: the least vertex that may come does, not the one that may come the longest.
func TestOrder(t *testing.T) {
	mustOrder(t, of(1), 0)
	mustOrder(t, of(3), 0, 1, 2)
	mustOrder(t, of(4, 3, 0, 0, 1), 2, 3, 0, 1)
	mustOrder(t, of(4, 1, 0, 2, 3), 1, 0, 2, 3)
	mustOrder(t, of(3, 2, 0, 2, 0, 0, 1), 2, 0, 1)
	for _, g := range []api.Graph{of(1, 0, 0), of(2, 0, 1, 1, 0), of(4, 0, 1, 1, 2, 2, 3, 3, 1)} {
		if order, ok := graph.Of(g).Order(); ok || len(order) != 0 {
			t.Errorf("Order of %v: %v, %v", g, order, ok)
		}
	}
}

// P2.2: a graph that may not be has the view of one without anything.
func TestViewOfNotOne(t *testing.T) {
	for _, g := range notOnes() {
		v := graph.Of(g)
		order, ok := v.Order()
		if v.Vertices != 0 || len(v.Edges) != 0 || len(order) != 0 || !ok {
			t.Errorf("Of(%v): %v, order %v, %v", g, v.Graph, order, ok)
		}
		if len(v.Sources()) != 0 || len(v.Sinks()) != 0 || len(v.Outs(0)) != 0 || len(v.Ins(0)) != 0 {
			t.Errorf("Of(%v) has something", g)
		}
	}
}

// P2.2 with rule 4: a view keeps nothing of the graph it was made of, and hands out nothing of its own.
func TestViewKeepsToItself(t *testing.T) {
	g := of(3, 0, 1, 0, 2)
	v := graph.Of(g)
	g.Edges[0] = api.Edge{Tail: 2, Head: 0}
	if v.Edges[0] != (api.Edge{Tail: 0, Head: 1}) {
		t.Error("the view's edges are those that were handed in")
	}
	v.Edges[1] = api.Edge{Tail: 1, Head: 1}
	if g.Edges[1] != (api.Edge{Tail: 0, Head: 2}) {
		t.Error("what was handed in is changed through the view")
	}
	order, _ := v.Order()
	for _, list := range [][]int{v.Outs(0), v.Ins(1), v.Sources(), v.Sinks(), order} {
		for i := range list {
			list[i] = 77
		}
	}
	order, ok := v.Order()
	if !slices.Equal(v.Outs(0), []int{0, 1}) || !slices.Equal(v.Ins(1), []int{0}) || !slices.Equal(v.Sources(), []int{0}) || !slices.Equal(v.Sinks(), []int{1, 2}) || !slices.Equal(order, []int{0, 1, 2}) || !ok {
		t.Error("what was answered is the view's own memory")
	}
}

// P2.3: vertices called anew, edges in another order.
func TestRename(t *testing.T) {
	g := of(4, 0, 1, 1, 2, 3, 3, 1, 2)
	names, order := []int{2, 0, 3, 1}, []int{2, 0, 3, 1}
	got, e := graph.Rename(g, names, order)
	if want := of(4, 1, 1, 2, 0, 0, 3, 0, 3); e != api.OK || got.Vertices != 4 || !slices.Equal(got.Edges, want.Edges) {
		t.Errorf("%v, %v, want %v", got, e, want)
	}
	if want := of(4, 0, 1, 1, 2, 3, 3, 1, 2); !slices.Equal(g.Edges, want.Edges) || !slices.Equal(names, []int{2, 0, 3, 1}) || !slices.Equal(order, []int{2, 0, 3, 1}) {
		t.Error("what was handed in is changed")
	}
	same, _ := graph.Rename(g, []int{0, 1, 2, 3}, []int{0, 1, 2, 3})
	same.Edges[0].Tail = 3
	if g.Edges[0].Tail != 0 {
		t.Error("the answer is what was handed in")
	}
	if got, e := graph.Rename(of(1), []int{0}, nil); e != api.OK || got.Vertices != 1 || len(got.Edges) != 0 {
		t.Errorf("%v, %v", got, e)
	}
}

// P2.3: lists that aren't what they should be.
func TestRenameWrong(t *testing.T) {
	refuse := func(g api.Graph, names, order []int) {
		t.Helper()
		if got, e := graph.Rename(g, names, order); e != api.ErrArg || got.Vertices != 0 || len(got.Edges) != 0 {
			t.Errorf("Rename(%v, %v, %v) = %v, %v", g, names, order, got, e)
		}
	}
	g := of(3, 0, 1, 1, 2)
	names, order := []int{0, 1, 2}, []int{0, 1}
	for _, wrong := range [][]int{nil, {0, 1}, {0, 1, 2, 3}, {0, 1, 2, 2}, {0, 1, 1}, {1, 2, 3}, {0, 1, -1}, {math.MaxInt, 0, 1}} {
		refuse(g, wrong, order)
	}
	for _, wrong := range [][]int{nil, {0}, {0, 1, 2}, {1, 1}, {1, 2}, {-1, 0}, {math.MinInt, 0}} {
		refuse(g, names, wrong)
	}
	refuse(of(0), nil, nil)
	refuse(of(2, 0, 2), []int{0, 1}, []int{0})
}
