package graph_test

import (
	"slices"
	"testing"

	"arbor/api"
	"arbor/graph"
)

// What follows tells the faults and the order once more, by the words of the chapter taken one by one, and holds Check and Order against it on all small graphs.

// left takes away, in rounds, all vertices at once to which no edge goes from one that is left.
func left(g api.Graph) []int {
	var stay []int
	for x := range g.Vertices {
		stay = append(stay, x)
	}
	for {
		var next []int
		for _, x := range stay {
			if slices.ContainsFunc(g.Edges, func(e api.Edge) bool { return e.Head == x && slices.Contains(stay, e.Tail) }) {
				next = append(next, x)
			}
		}
		if len(next) == len(stay) {
			return stay
		}
		stay = next
	}
}

// back tells the vertices from the first visit of the one that is met again on, backwards.
func back(g api.Graph, stay []int) []int {
	visit := map[int]int{}
	var way []int
	for x := stay[0]; ; {
		if first, met := visit[x]; met {
			return way[first:]
		}
		visit[x] = len(way)
		way = append(way, x)
		var tails []int
		for _, e := range g.Edges {
			if e.Head == x && slices.Contains(stay, e.Tail) {
				tails = append(tails, e.Tail)
			}
		}
		x = slices.Min(tails)
	}
}

func expectFault(g api.Graph) api.Fault {
	for i, e := range g.Edges {
		if e.Tail == e.Head {
			return api.Fault{Code: api.ErrLoop, At: i}
		}
	}
	for i := range g.Edges {
		for j := range i {
			if g.Edges[i] == g.Edges[j] {
				return api.Fault{Code: api.ErrTwice, At: i}
			}
		}
	}
	if stay := left(g); len(stay) > 0 {
		c := back(g, stay)
		slices.Reverse(c)
		for c[0] != slices.Min(c) {
			c = append(c[1:], c[0])
		}
		return api.Fault{Code: api.ErrCycle, Vertices: c}
	}
	var sources []int
	for x := range g.Vertices {
		if !slices.ContainsFunc(g.Edges, func(e api.Edge) bool { return e.Head == x }) {
			sources = append(sources, x)
		}
	}
	if len(sources) > 1 {
		return api.Fault{Code: api.ErrSource, Vertices: sources[:2]}
	}
	return api.Fault{}
}

func expectOrder(g api.Graph) ([]int, bool) {
	var order []int
	for len(order) < g.Vertices {
		x := 0
		for ; x < g.Vertices; x++ {
			late := func(e api.Edge) bool { return e.Head == x && !slices.Contains(order, e.Tail) }
			if !slices.Contains(order, x) && !slices.ContainsFunc(g.Edges, late) {
				break
			}
		}
		if x == g.Vertices {
			return nil, false
		}
		order = append(order, x)
	}
	return order, true
}

func hold(t *testing.T, g api.Graph) {
	t.Helper()
	got, want := graph.Check(g), expectFault(g)
	if got.Code != want.Code || got.At != want.At || !slices.Equal(got.Vertices, want.Vertices) {
		t.Errorf("Check(%v) = %+v, want %+v", g, got, want)
	}
	order, ok := graph.Of(g).Order()
	wantOrder, wantOk := expectOrder(g)
	if ok != wantOk || !slices.Equal(order, wantOrder) {
		t.Errorf("Order of %v: %v, %v, want %v, %v", g, order, ok, wantOrder, wantOk)
	}
}

// P2.1 and P2.2 on all lists of at most four edges between at most three vertices.
func TestAllLists(t *testing.T) {
	for n := 1; n <= 3; n++ {
		var grow func(edges []api.Edge)
		grow = func(edges []api.Edge) {
			hold(t, api.Graph{Vertices: n, Edges: edges})
			if len(edges) == 4 {
				return
			}
			for k := range n * n {
				grow(append(slices.Clip(edges), api.Edge{Tail: k / n, Head: k % n}))
			}
		}
		grow(nil)
	}
}

// P2.1 and P2.2 on all sets of edges between four vertices, without loops.
func TestAllSets(t *testing.T) {
	var pairs []api.Edge
	for k := range 16 {
		if k/4 != k%4 {
			pairs = append(pairs, api.Edge{Tail: k / 4, Head: k % 4})
		}
	}
	for set := range 1 << len(pairs) {
		g := api.Graph{Vertices: 4}
		for k, e := range pairs {
			if set>>k&1 == 1 {
				g.Edges = append(g.Edges, e)
			}
		}
		hold(t, g)
	}
}
