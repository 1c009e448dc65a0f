package sweep_test

import (
	"math"
	"slices"
	"testing"

	"arbor/api"
	"arbor/sweep"
)

// of gives a graph by its edges' tails and heads.
func of(vertices int, ends ...int) api.Graph {
	g := api.Graph{Vertices: vertices}
	for i := 0; i < len(ends); i += 2 {
		g.Edges = append(g.Edges, api.Edge{Tail: ends[i], Head: ends[i+1]})
	}
	return g
}

// items gives items by their edges, tails and heads.
func items(numbers ...int) []api.Item {
	var list []api.Item
	for i := 0; i < len(numbers); i += 3 {
		list = append(list, api.Item{Edge: numbers[i], Tail: numbers[i+1], Head: numbers[i+2]})
	}
	return list
}

// upTo gives the numbers below n.
func upTo(n int) []int {
	var list []int
	for i := range n {
		list = append(list, i)
	}
	return list
}

// copied gives a plan with lists of its own.
func copied(p api.Plan) api.Plan {
	c := api.Plan{Order: slices.Clone(p.Order)}
	for _, outs := range p.Outs {
		c.Outs = append(c.Outs, slices.Clone(outs))
	}
	return c
}

func samePlans(a, b api.Plan) bool {
	return slices.Equal(a.Order, b.Order) && slices.EqualFunc(a.Outs, b.Outs, slices.Equal)
}

// mustRun holds what comes of a plan that runs against what is wanted.
func mustRun(t *testing.T, g api.Graph, p api.Plan, ends [][]api.Item, last []api.Item) {
	t.Helper()
	gotEnds, gotLast, f := sweep.Run(g, p)
	if f.Code != api.OK || f.At != 0 || len(f.Vertices) > 0 {
		t.Fatalf("Run(%v, %v): fault %v", g, p, f)
	}
	if !slices.EqualFunc(gotEnds, ends, slices.Equal) || !slices.Equal(gotLast, last) {
		t.Fatalf("Run(%v, %v) = %v, %v, want %v, %v", g, p, gotEnds, gotLast, ends, last)
	}
}

// mustFault holds Run against a fault, beside which nothing is told.
func mustFault(t *testing.T, g api.Graph, p api.Plan, code api.Errno, at int) {
	t.Helper()
	kept := copied(p)
	ends, last, f := sweep.Run(g, p)
	if f.Code != code || f.At != at || len(f.Vertices) > 0 || len(ends) > 0 || len(last) > 0 {
		t.Fatalf("Run(%v, %v) = %v, %v, fault %v, want error %d at %d", g, p, ends, last, f, code, at)
	}
	if !samePlans(p, kept) {
		t.Fatalf("%v became %v", kept, p)
	}
}

// mustFind holds Find and Upward against whether a graph is upward: a plan that is found must run.
func mustFind(t *testing.T, g api.Graph, upward bool) api.Plan {
	t.Helper()
	kept := slices.Clone(g.Edges)
	p, e := sweep.Find(g)
	if got := sweep.Upward(g); got != upward || (e == api.OK) != upward {
		t.Fatalf("%v: Upward is %v, Find has error %d, want %v", g, got, e, upward)
	}
	if !slices.Equal(g.Edges, kept) {
		t.Fatalf("the edges %v became %v", kept, g.Edges)
	}
	if !upward {
		if e != api.ErrNone || len(p.Order)+len(p.Outs) > 0 {
			t.Fatalf("Find(%v) = %v, error %d", g, p, e)
		}
		return p
	}
	if _, _, f := sweep.Run(g, p); f.Code != api.OK {
		t.Fatalf("Find(%v) = %v, which has the fault %v", g, p, f)
	}
	return p
}

// notGood gives graphs that aren't good.
func notGood() []api.Graph {
	many := of(2)
	for range api.MaxEdges + 1 {
		many.Edges = append(many.Edges, api.Edge{Tail: 0, Head: 1})
	}
	return []api.Graph{
		{}, of(-1), of(math.MinInt), of(65), of(math.MaxInt), of(0, 0, 0), of(1, 0, 1), of(2, 0, 2), of(2, 2, 0), of(2, -1, 1), of(2, 0, math.MinInt), many,
		of(1, 0, 0), of(2, 0, 1, 1, 1), // loops
		of(2, 0, 1, 0, 1), of(3, 0, 1, 1, 2, 0, 1), // twice
		of(2, 0, 1, 1, 0), of(4, 0, 1, 1, 2, 2, 3, 3, 1), // cycles
		of(2), of(3, 0, 2, 1, 2), of(4, 0, 1, 2, 3), // more than one source
	}
}

// P10.1 and P10.2: of graphs that aren't good there are no plans.
func TestNotGood(t *testing.T) {
	for _, g := range notGood() {
		p, e := sweep.Find(g)
		if e != api.ErrArg || len(p.Order)+len(p.Outs) > 0 || sweep.Upward(g) {
			t.Errorf("Find(%v) = %v, error %d; Upward is %v", g, p, e, sweep.Upward(g))
		}
		n := max(0, min(g.Vertices, 70))
		p = api.Plan{Order: upTo(n), Outs: make([][]int, n)}
		for i, e := range g.Edges {
			if 0 <= e.Tail && e.Tail < n {
				p.Outs[e.Tail] = append(p.Outs[e.Tail], i)
			}
		}
		mustFault(t, g, p, api.ErrArg, 0)
		mustFault(t, g, api.Plan{}, api.ErrArg, 0)
	}
}

// P10.1: a lone vertex; one edge; the chapter's example, either way round.
func TestRunSmallest(t *testing.T) {
	mustRun(t, of(1), api.Plan{Order: []int{0}, Outs: [][]int{nil}}, [][]api.Item{nil}, items(-1, 0, -1))
	mustRun(t, of(2, 1, 0), api.Plan{Order: []int{1, 0}, Outs: [][]int{nil, {0}}}, [][]api.Item{items(0, 1, 0), nil}, items(-1, 0, -1))
	g := of(3, 0, 1, 1, 2, 0, 2)
	mustRun(t, g, api.Plan{Order: []int{0, 1, 2}, Outs: [][]int{{0, 2}, {1}, nil}}, [][]api.Item{nil, items(0, 0, 1), items(1, 1, 2, 2, 0, 2)}, items(-1, 2, -1))
	mustRun(t, g, api.Plan{Order: []int{0, 1, 2}, Outs: [][]int{{2, 0}, {1}, nil}}, [][]api.Item{nil, items(0, 0, 1), items(2, 0, 2, 1, 1, 2)}, items(-1, 2, -1))
	mustFault(t, g, api.Plan{Order: []int{0, 2, 1}, Outs: [][]int{{2, 0}, {1}, nil}}, api.ErrNone, 1)
}

// P10.1: loose ends end at what is placed above them, or stay to the end.
func TestRunLooseEnds(t *testing.T) {
	// 0 to 1 .. 5; of these 3 and 5 are sinks; from 2 and 4 to 6; 1 to 7
	g := of(8, 0, 1, 0, 2, 0, 3, 0, 4, 0, 5, 2, 6, 4, 6, 1, 7)
	outs := [][]int{{4, 1, 2, 3, 0}, {7}, {5}, nil, {6}, nil, nil, nil}
	ends := [][]api.Item{
		nil, items(0, 0, 1), items(1, 0, 2), items(2, 0, 3), items(3, 0, 4), items(4, 0, 5),
		items(5, 2, 6, -1, 3, -1, 6, 4, 6), items(7, 1, 7),
	}
	last := items(-1, 5, -1, -1, 6, -1, -1, 7, -1)
	mustRun(t, g, api.Plan{Order: []int{0, 5, 3, 2, 4, 6, 1, 7}, Outs: outs}, ends, last)
	mustRun(t, g, api.Plan{Order: []int{0, 1, 7, 4, 2, 3, 6, 5}, Outs: outs}, ends, last)
	mustFault(t, g, api.Plan{Order: []int{0, 1, 7, 4, 2, 6, 3, 5}, Outs: outs}, api.ErrNone, 5) // 3 stands between
	mustFault(t, g, api.Plan{Order: []int{0, 7, 1, 4, 2, 3, 6, 5}, Outs: outs}, api.ErrNone, 1)
	mustFault(t, g, api.Plan{Order: []int{6, 0, 1, 7, 4, 2, 3, 5}, Outs: outs}, api.ErrNone, 0)
	outs[0] = []int{4, 1, 0, 2, 3}
	ends[6] = items(5, 2, 6, -1, 7, -1, -1, 3, -1, 6, 4, 6)
	mustRun(t, g, api.Plan{Order: []int{0, 5, 3, 2, 4, 1, 7, 6}, Outs: outs}, ends, items(-1, 5, -1, -1, 6, -1))
	mustFault(t, g, api.Plan{Order: []int{0, 5, 3, 2, 4, 1, 6, 7}, Outs: outs}, api.ErrNone, 6) // the edge to 7 stands between
}

// P10.1: what isn't a plan is told ahead of what doesn't run.
func TestNotPlans(t *testing.T) {
	g := of(4, 0, 1, 0, 2, 1, 3, 2, 3)
	order, outs := []int{0, 2, 1, 3}, [][]int{{1, 0}, {2}, {3}, nil}
	mustRun(t, g, api.Plan{Order: order, Outs: outs}, [][]api.Item{nil, items(0, 0, 1), items(1, 0, 2), items(3, 2, 3, 2, 1, 3)}, items(-1, 3, -1))
	for _, wrong := range [][]int{
		nil, {0}, {0, 2, 1}, {0, 2, 1, 1}, {0, 0, 0, 0}, {0, 2, 1, 3, 3}, {0, 2, 1, 3, 4}, {0, 2, 1, 4}, {-1, 0, 2, 1}, {0, 2, 1, 3, -1},
		{0, 2, 1, math.MaxInt}, {math.MinInt, 2, 1, 3}, {0, 1, 2, 3, 0, 1, 2, 3}, {3, 3, 0, 1}, {3, 1, 0},
	} {
		mustFault(t, g, api.Plan{Order: wrong, Outs: outs}, api.ErrArg, 0)
	}
	for _, wrong := range [][][]int{
		nil, {{1, 0}, {2}, {3}}, {{1, 0}, {2}, {3}, nil, nil}, {nil, nil, nil, nil}, {{1}, {2}, {3}, nil}, {{1, 0, 0}, {2}, {3}, nil},
		{{1, 1}, {2}, {3}, nil}, {{1, 2}, {0}, {3}, nil}, {{1, 0}, {3}, {2}, nil}, {{1, 0}, {2}, {3}, {4}}, {{1, 0}, {2}, {3}, {3}},
		{{1, 0}, {2}, {3}, {-1}}, {{1, -1}, {2}, {3}, nil}, {{1, math.MaxInt}, {2}, {3}, nil}, {{math.MinInt, 0}, {2}, {3}, nil},
		{{2, 3}, {0}, {1}, nil}, {{1, 0, 2, 3}, nil, nil, nil}, {{0, 1}, {2, 2}, {3}, nil},
	} {
		mustFault(t, g, api.Plan{Order: order, Outs: wrong}, api.ErrArg, 0)
		mustFault(t, g, api.Plan{Order: []int{3, 0, 1, 2}, Outs: wrong}, api.ErrArg, 0)
	}
	mustFault(t, g, api.Plan{Order: []int{3, 0, 1, 2}, Outs: outs}, api.ErrNone, 0)
	mustFault(t, g, api.Plan{Order: []int{0, 3, 1, 2}, Outs: outs}, api.ErrNone, 1)
	mustFault(t, g, api.Plan{Order: []int{0, 1, 3, 2}, Outs: outs}, api.ErrNone, 2)
	mustFault(t, of(1), api.Plan{}, api.ErrArg, 0)
	mustFault(t, of(1), api.Plan{Order: []int{0}}, api.ErrArg, 0)
	mustFault(t, of(1), api.Plan{Outs: [][]int{nil}}, api.ErrArg, 0)
}

// P10.1 with rule 4: Run keeps nothing that is handed in, and no two of its lists share anything.
func TestRunKeepsNothing(t *testing.T) {
	g := of(4, 0, 1, 0, 2, 1, 3, 2, 3)
	p := api.Plan{Order: []int{0, 2, 1, 3}, Outs: [][]int{{1, 0}, {2}, {3}, nil}}
	first, last, _ := sweep.Run(g, p)
	for _, list := range append(first, last) {
		for i := range list {
			list[i] = api.Item{Edge: 7, Tail: 7, Head: 7}
		}
		_ = append(list, items(8, 8, 8)...)
	}
	for x, list := range first {
		if slices.ContainsFunc(list, func(it api.Item) bool { return it.Edge != 7 }) {
			t.Errorf("what ends at %d became %v", x, list)
		}
	}
	mustRun(t, g, p, [][]api.Item{nil, items(0, 0, 1), items(1, 0, 2), items(3, 2, 3, 2, 1, 3)}, items(-1, 3, -1))
}

// P10.3: of any plan, whether it is one of a graph or not.
func TestMirror(t *testing.T) {
	for _, c := range [][2]api.Plan{
		{{}, {}},
		{{Order: []int{0}, Outs: [][]int{nil}}, {Order: []int{0}, Outs: [][]int{nil}}},
		{{Order: []int{0, 2, 1}, Outs: [][]int{{1, 0}, {2}, nil}}, {Order: []int{0, 2, 1}, Outs: [][]int{{0, 1}, {2}, nil}}},
		{{Order: []int{5, -1, 5}, Outs: nil}, {Order: []int{5, -1, 5}}},
		{{Outs: [][]int{{3, 3, math.MinInt, 2}, nil, {math.MaxInt, 0}}}, {Outs: [][]int{{2, math.MinInt, 3, 3}, nil, {0, math.MaxInt}}}},
	} {
		kept := copied(c[0])
		m := sweep.Mirror(c[0])
		if !samePlans(m, c[1]) || !samePlans(c[0], kept) {
			t.Errorf("Mirror(%v) = %v; the plan became %v", kept, m, c[0])
		}
		if !samePlans(sweep.Mirror(m), kept) {
			t.Errorf("mirrored twice %v is %v", kept, sweep.Mirror(m))
		}
		for i := range m.Order {
			m.Order[i] = 99
		}
		for _, outs := range m.Outs {
			for i := range outs {
				outs[i] = 99
			}
		}
		if !samePlans(c[0], kept) {
			t.Errorf("%v became %v", kept, c[0])
		}
	}
}

// core gives edges of six vertices, from the one called bottom and five from more on, that can't be drawn upwards.
func core(bottom, more int) []api.Edge {
	a, b, c, d, e := more, more+1, more+2, more+3, more+4
	return of(0, bottom, a, bottom, b, a, c, b, c, a, d, b, d, c, e, d, e).Edges
}

// P10.2: the document's examples, and those of the chapter.
func TestFindExamples(t *testing.T) {
	mustFind(t, of(1), true)
	mustFind(t, of(2, 0, 1), true)
	mustFind(t, of(2, 1, 0), true)
	mustFind(t, of(3, 0, 1, 1, 2, 0, 2), true)
	mustFind(t, of(6, 0, 1, 0, 2, 0, 3, 0, 4, 1, 5, 2, 5, 3, 5, 4, 5), true)
	mustFind(t, api.Graph{Vertices: 6, Edges: core(0, 1)}, false)
	mustFind(t, api.Graph{Vertices: 5, Edges: pairs(5)}, false)
	mustFind(t, api.Graph{Vertices: 4, Edges: pairs(4)}, true)
}

// between gives a graph of some vertices between two others.
func between(n int) api.Graph {
	g := of(n + 2)
	for x := range n {
		g.Edges = append(g.Edges, api.Edge{Tail: n, Head: x}, api.Edge{Tail: x, Head: n + 1})
	}
	return g
}

// grid gives a graph of n times n vertices, each with edges to the one behind it and to the one above it.
func grid(n int) api.Graph {
	g := of(n * n)
	for x := range n * n {
		if x%n < n-1 {
			g.Edges = append(g.Edges, api.Edge{Tail: x, Head: x + 1})
		}
		if x < n*(n-1) {
			g.Edges = append(g.Edges, api.Edge{Tail: x, Head: x + n})
		}
	}
	return g
}

// fan gives a way of n vertices, to each of which an edge goes from one more.
func fan(n int) api.Graph {
	g := of(n + 1)
	for x := range n {
		g.Edges = append(g.Edges, api.Edge{Tail: n, Head: x})
		if x > 0 {
			g.Edges = append(g.Edges, api.Edge{Tail: x - 1, Head: x})
		}
	}
	return g
}

// with gives a graph with more vertices, and edges.
func with(g api.Graph, vertices int, edges ...api.Edge) api.Graph {
	return api.Graph{Vertices: g.Vertices + vertices, Edges: slices.Concat(g.Edges, edges)}
}

// P10.2 with as many vertices as can be: a way, a star, a grid.
func TestFindGreat(t *testing.T) {
	next := strew(1)
	chain, star := of(64), of(64)
	for x := range 63 {
		chain.Edges = append(chain.Edges, api.Edge{Tail: x, Head: x + 1})
		star.Edges = append(star.Edges, api.Edge{Tail: 63, Head: x})
	}
	mustFind(t, renamed(chain, next), true)
	mustFind(t, renamed(star, next), true)
	mustFind(t, renamed(grid(8), next), true)
	mustFind(t, renamed(with(grid(8), 0, api.Edge{Tail: 0, Head: 63}), next), true)
	mustFind(t, renamed(with(grid(8), 0, api.Edge{Tail: 7, Head: 56}), next), false) // two corners that both see the outer face alone
	mustFind(t, renamed(with(grid(8), 0, api.Edge{Tail: 9, Head: 54}), next), false)
}

// P10.2 with many edges at a vertex.
func TestFindMany(t *testing.T) {
	next := strew(2)
	mustFind(t, renamed(between(62), next), true)
	for _, n := range []int{3, 4, 5, 6, 7, 8, 9, 12, 15, 21} {
		mustFind(t, renamed(between(n), next), true)
		mustFind(t, renamed(with(between(n), 5, core(n, n+2)...), next), false)
		mustFind(t, renamed(with(with(between(n), 5, core(n, n+2)...), 0, api.Edge{Tail: n + 3, Head: n + 1}), next), false)
		mustFind(t, renamed(fan(n), next), true)
		mustFind(t, renamed(with(fan(n), 0, api.Edge{Tail: 0, Head: n - 1}), next), true)
	}
}

// P10.2: a block that isn't upward, above many that are.
func TestFindTower(t *testing.T) {
	g := of(1)
	for range 8 {
		top := g.Vertices - 1
		for range 5 {
			g = with(g, 1, api.Edge{Tail: top, Head: g.Vertices}, api.Edge{Tail: g.Vertices, Head: top + 6})
		}
		g.Vertices++
	}
	mustFind(t, g, true)
	for x := range g.Vertices {
		mustFind(t, with(g, 5, core(x, g.Vertices)...), false)
	}
}
