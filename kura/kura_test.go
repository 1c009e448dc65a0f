package kura_test

import (
	"math"
	"slices"
	"testing"

	"arbor/api"
	"arbor/kura"
	"arbor/planar"
)

// of makes a graph of its edges' ends, tail and head by turns.
func of(vertices int, ends ...int) api.Graph {
	g := api.Graph{Vertices: vertices}
	for i := 0; i < len(ends); i += 2 {
		g.Edges = append(g.Edges, api.Edge{Tail: ends[i], Head: ends[i+1]})
	}
	return g
}

// between gives the graph in which each two vertices for which tied holds have an edge.
func between(n int, tied func(x, y int) bool) api.Graph {
	g := api.Graph{Vertices: n}
	for y := range n {
		for x := range y {
			if tied(x, y) {
				g.Edges = append(g.Edges, api.Edge{Tail: x, Head: y})
			}
		}
	}
	return g
}

func full(n int) api.Graph { return between(n, func(x, y int) bool { return true }) }

// twoSides gives the graph of a vertices, each with an edge to each of b others.
func twoSides(a, b int) api.Graph {
	return between(a+b, func(x, y int) bool { return x < a && y >= a })
}

// simplest gives for each kind the graph in which each way is one edge.
func simplest() map[int]api.Graph { return map[int]api.Graph{5: full(5), 33: twoSides(3, 3)} }

// net gives 8 rows of 8 vertices, each with an edge to the next one and to the one above.
func net() api.Graph {
	return between(64, func(x, y int) bool { return y-x == 8 || y-x == 1 && y%8 != 0 })
}

// without gives a graph less one edge.
func without(g api.Graph, i int) api.Graph {
	return api.Graph{Vertices: g.Vertices, Edges: slices.Delete(slices.Clone(g.Edges), i, i+1)}
}

// with gives a graph with more edges.
func with(g api.Graph, ends ...int) api.Graph {
	return api.Graph{Vertices: g.Vertices, Edges: slices.Concat(g.Edges, of(0, ends...).Edges)}
}

// turned gives the graph with each edge the other way round that a rule names.
func turned(g api.Graph, rule func(i int) bool) api.Graph {
	t := api.Graph{Vertices: g.Vertices}
	for i, e := range g.Edges {
		if rule(i) {
			e.Tail, e.Head = e.Head, e.Tail
		}
		t.Edges = append(t.Edges, e)
	}
	return t
}

// stretched gives a graph with one more vertex, on an edge of it.
func stretched(g api.Graph, at int) api.Graph {
	e := g.Edges[at]
	s := with(without(g, at), e.Tail, g.Vertices, g.Vertices, e.Head)
	s.Vertices++
	return s
}

// upTo gives the numbers below n.
func upTo(n int) []int {
	var list []int
	for i := range n {
		list = append(list, i)
	}
	return list
}

// all gives the numbers of all edges.
func all(g api.Graph) []int { return upTo(len(g.Edges)) }

// mustBe holds What against the kind of edges; and that it changes nothing, and tells the same again.
func mustBe(t *testing.T, g api.Graph, edges []int, want int) {
	t.Helper()
	keptGraph, kept := slices.Clone(g.Edges), slices.Clone(edges)
	for range 2 {
		if got := kura.What(g, edges); got != want {
			t.Errorf("What(%v, %v) = %d, want %d", g, edges, got, want)
		}
	}
	if !slices.Equal(g.Edges, keptGraph) || !slices.Equal(edges, kept) {
		t.Fatalf("%v, %v became %v, %v", keptGraph, kept, g.Edges, edges)
	}
}

// mustFind holds Find against the edges that are left, and their kind; and that it changes nothing, and tells the same again.
func mustFind(t *testing.T, g api.Graph, kind int, want ...int) {
	t.Helper()
	kept := slices.Clone(g.Edges)
	for range 2 {
		if got, e := kura.Find(g); e != api.OK || !slices.Equal(got, want) {
			t.Errorf("Find(%v) = %v, error %d, want %v", g, got, e, want)
		}
	}
	if !slices.Equal(g.Edges, kept) {
		t.Fatalf("the edges %v became %v", kept, g.Edges)
	}
	mustBe(t, g, want, kind)
}

// mustRefuse holds Find against an error, beside which there is nothing.
func mustRefuse(t *testing.T, g api.Graph, want api.Errno) {
	t.Helper()
	if got, e := kura.Find(g); e != want || len(got) != 0 {
		t.Errorf("Find(%v) = %v, error %d, want error %d", g, got, e, want)
	}
}

// P8.1: the two kinds without any vertices on ways, whichever the directions and the numbers' order.
func TestKinds(t *testing.T) {
	for set := range 1 << 10 {
		rule := func(i int) bool { return set>>i&1 == 1 }
		mustBe(t, turned(full(5), rule), all(full(5)), 5)
		mustBe(t, turned(twoSides(3, 3), rule), all(twoSides(3, 3)), 33)
	}
	mustBe(t, full(5), []int{9, 0, 3, 7, 1, 8, 2, 4, 6, 5}, 5)
	mustBe(t, twoSides(3, 3), []int{4, 8, 0, 2, 1, 7, 3, 6, 5}, 33)
	mustBe(t, between(6, func(x, y int) bool { return (y-x)%2 == 1 }), upTo(9), 33)
}

// P8.1: only the edges that are named count.
func TestSomeEdges(t *testing.T) {
	mustBe(t, full(6), upTo(10), 5)
	mustBe(t, full(6), upTo(11), 0)
	mustBe(t, full(6), upTo(15), 0)
	g := with(of(9), 8, 8, 2, 7, 0, 99, -1, 4, 7, 2) // none of these is named
	for _, e := range full(5).Edges {
		g = with(g, 2*e.Head, 2*e.Tail)
	}
	mustBe(t, g, upTo(15)[5:], 5)
	for i := range 5 {
		mustBe(t, g, append(upTo(15)[5:], i), 0)
		mustBe(t, g, append(upTo(15)[6:], i), 0)
	}
}

// P8.1: vertices on ways, one or several, on any of them.
func TestStretched(t *testing.T) {
	for i := range 10 {
		g := stretched(full(5), i)
		mustBe(t, g, all(g), 5)
		for k := range g.Edges {
			h := stretched(g, k)
			mustBe(t, h, all(h), 5)
			mustBe(t, without(h, k), upTo(11), 0)
		}
	}
	for i := range 9 {
		g := stretched(twoSides(3, 3), i)
		mustBe(t, g, all(g), 33)
		for k := range g.Edges {
			h := stretched(g, k)
			mustBe(t, h, all(h), 33)
			mustBe(t, without(h, k), upTo(10), 0)
		}
	}
}

// P8.1: fewer edges, or other ones, are of neither kind.
func TestFewer(t *testing.T) {
	mustBe(t, full(5), nil, 0)
	mustBe(t, full(5), []int{}, 0)
	mustBe(t, of(1), nil, 0)
	for i := range 10 {
		mustBe(t, full(5), slices.Delete(upTo(10), i, i+1), 0)
		mustBe(t, full(5), []int{i}, 0)
	}
	for i := range 9 {
		mustBe(t, twoSides(3, 3), slices.Delete(upTo(9), i, i+1), 0)
	}
	for n := 1; n < 17; n++ {
		if n != 5 {
			mustBe(t, full(n), all(full(n)), 0)
		}
		if n != 3 {
			mustBe(t, twoSides(3, n), all(twoSides(3, n)), 0)
			mustBe(t, twoSides(2, n), all(twoSides(2, n)), 0)
		}
	}
}

// P8.1: five vertices, or six, at each of which as many edges end as should, but whose ways lead elsewhere.
func TestOtherWays(t *testing.T) {
	neither := func(g api.Graph) {
		t.Helper()
		mustBe(t, g, all(g), 0)
	}
	ring := []int{0, 1, 1, 2, 2, 3, 3, 4, 4, 0}
	neither(of(5, slices.Concat(ring, ring)...))
	neither(of(9, slices.Concat(ring, []int{0, 5, 5, 1, 1, 6, 6, 2, 2, 7, 7, 3, 3, 8, 8, 4, 4, 0})...))
	// of two ways one leads to where the other one does, and one to where it begins
	neither(of(5, 0, 1, 0, 1, 0, 2, 0, 3, 1, 4, 1, 4, 2, 3, 2, 3, 2, 4, 3, 4))
	neither(of(6, 0, 5, 5, 0, 0, 1, 0, 2, 1, 2, 1, 3, 1, 4, 2, 3, 2, 4, 3, 4, 3, 4))
	neither(of(10, 0, 5, 5, 0, 0, 5, 0, 5, 1, 6, 1, 6, 1, 6, 1, 6))
	neither(of(6, 0, 1, 1, 2, 2, 0, 3, 4, 4, 5, 5, 3, 0, 3, 1, 4, 2, 5)) // two triangles and what ties them
	neither(of(6, 0, 3, 0, 3, 0, 4, 1, 4, 1, 4, 1, 5, 2, 5, 2, 5, 2, 3)) // two sides, but twice
	neither(of(6, 0, 3, 0, 3, 0, 3, 1, 4, 1, 4, 1, 4, 2, 5, 2, 5, 2, 5)) // the same, in three parts
	neither(of(6, 0, 3, 0, 3, 0, 3, 1, 4, 1, 5, 1, 4, 2, 4, 2, 5, 2, 5)) // in two parts
	neither(of(8, 0, 1, 0, 2, 0, 3, 1, 2, 1, 3, 2, 3, 4, 5, 4, 5, 4, 5)) // the full one of four, and a bond
	neither(of(9, 0, 6, 6, 0, 0, 1, 1, 7, 7, 1, 2, 8, 8, 2, 2, 3, 3, 4, 3, 4, 4, 5, 5, 3))
	neither(between(6, func(x, y int) bool { return y-x != 3 })) // six with four edges each
}

// P8.1: each edge must be on a way, and nothing else.
func TestMore(t *testing.T) {
	for kind, g := range simplest() {
		n := g.Vertices
		g.Vertices = n + 6
		for _, more := range [][]int{
			{0, n},                             // an edge that hangs on
			{n, n + 1},                         // one by itself
			{0, 1},                             // one that is there, or whose ends are both on one side
			{0, 3},                             // likewise, or one that is there
			{3, 0},                             // the same, the other way
			{0, 0},                             // a loop at a head
			{n, n},                             // a loop by itself
			{n, n + 1, n + 1, n},               // a circle of two by itself
			{n, n + 1, n + 1, n + 2, n + 2, n}, // one of three
			{0, n, n, 0},                       // a circle of two that hangs on
			{0, n, n, 1},                       // one more way
			{n, n + 1, n + 1, n + 2, n + 2, n + 3, n + 3, n + 4, n + 4, n + 5, n + 5, n},
		} {
			h := with(g, more...)
			mustBe(t, h, all(h), 0)
			mustBe(t, h, all(g), kind)
		}
	}
}

// P8.1: a vertex of a way is once on this, and on no other one.
func TestMet(t *testing.T) {
	for kind, g := range simplest() {
		n := g.Vertices
		one := stretched(g, 0)
		for i := range g.Edges[1:] { // the first edge less: its halves are the last ones
			two := stretched(one, i)
			mustBe(t, two, all(two), kind)
			for k, e := range two.Edges {
				if e.Tail == n+1 {
					two.Edges[k].Tail = n
				}
				if e.Head == n+1 {
					two.Edges[k].Head = n
				}
			}
			mustBe(t, two, all(two), 0)
		}
		loop := with(one, n, n)
		mustBe(t, loop, all(loop), 0)
		circle := with(api.Graph{Vertices: n + 2, Edges: one.Edges}, n, n+1, n+1, n)
		mustBe(t, circle, all(circle), 0)
		twice := with(one, n, one.Edges[len(one.Edges)-1].Head)
		mustBe(t, twice, all(twice), 0)
	}
}

// P8.1: numbers that aren't ones of edges, or that are there twice.
func TestNumbers(t *testing.T) {
	g := full(5)
	for _, x := range []int{-1, 10, 11, math.MinInt, math.MaxInt} {
		mustBe(t, g, append(upTo(10), x), 0)
		for i := range 10 {
			list := upTo(10)
			list[i] = x
			mustBe(t, g, list, 0)
		}
		mustBe(t, of(0), []int{x}, 0)
	}
	for i := range 10 {
		mustBe(t, g, append(upTo(10), i), 0)
		list := upTo(10)
		list[i] = (i + 3) % 10
		mustBe(t, g, list, 0)
		mustBe(t, g, slices.Concat(upTo(10), upTo(10)), 0)
	}
}

// P8.1: an end that is no vertex, at one of the edges that are named.
func TestNoVertex(t *testing.T) {
	for _, n := range []int{4, 1, 0, -1, math.MinInt} {
		g := full(5)
		g.Vertices = n
		mustBe(t, g, all(g), 0)
	}
	for _, x := range []int{-1, 6, math.MinInt, math.MaxInt} {
		for i := range 10 {
			for _, e := range []api.Edge{{Tail: x, Head: 1}, {Tail: 1, Head: x}, {Tail: x, Head: x}} {
				g := full(5)
				g.Vertices = 6
				g.Edges[i] = e
				mustBe(t, g, all(g), 0)
			}
		}
		renamed := full(5) // of the kind, but for the name of a vertex
		renamed.Vertices = 6
		for i, e := range renamed.Edges {
			if e.Tail == 0 {
				renamed.Edges[i].Tail = x
			}
		}
		mustBe(t, renamed, all(renamed), 0)
	}
}

// P8.1 asks nothing else of the graph: it needn't be one that may be.
func TestBeyondLimits(t *testing.T) {
	g := full(5)
	for _, n := range []int{5, 64, 65, math.MaxInt} {
		g.Vertices = n
		mustBe(t, g, all(g), 5)
	}
	high := full(5)
	high.Vertices = math.MaxInt
	for i := range high.Edges {
		high.Edges[i].Tail = math.MaxInt - 1 - high.Edges[i].Tail
		high.Edges[i].Head = math.MaxInt - 1 - high.Edges[i].Head
	}
	mustBe(t, high, all(high), 5)
	many := full(17) // 136 edges
	mustBe(t, many, upTo(10), 5)
	mustBe(t, many, all(many), 0)
}

// P8.1: ways of very many edges.
func TestLongWays(t *testing.T) {
	const long = 20000
	for kind, g := range simplest() {
		edges := g.Edges
		g.Edges = nil
		for _, e := range edges {
			at := e.Tail
			for range long {
				g.Edges = append(g.Edges, api.Edge{Tail: g.Vertices, Head: at})
				at = g.Vertices
				g.Vertices++
			}
			g.Edges = append(g.Edges, api.Edge{Tail: e.Head, Head: at})
		}
		if got := kura.What(g, all(g)); got != kind {
			t.Errorf("long ways of the kind %d are told to be %d", kind, got)
		}
		if got := kura.What(g, all(g)[1:]); got != 0 {
			t.Errorf("long ways less an edge are told to be %d", got)
		}
	}
}

// P8.2: an error, and nothing, of a graph that isn't plain.
func TestNotPlain(t *testing.T) {
	for _, n := range []int{0, -1, 65, math.MinInt, math.MaxInt} {
		mustRefuse(t, of(n), api.ErrArg)
		g := full(5)
		g.Vertices = n
		mustRefuse(t, g, api.ErrArg)
	}
	for _, more := range [][]int{{0, 0}, {0, 1}, {1, 0}, {5, 5}, {4, 3}, {0, -1}, {6, 0}, {math.MaxInt, math.MinInt}} {
		g := full(5)
		g.Vertices = 6
		mustRefuse(t, with(g, more...), api.ErrArg)
		mustRefuse(t, with(of(6), append(more, 0, 1, 0, 1)...), api.ErrArg)
	}
	mustRefuse(t, full(17), api.ErrArg) // 136 edges
}

// P8.2: an error, and nothing, of one that can be laid.
func TestCanBeLaid(t *testing.T) {
	for _, g := range []api.Graph{of(1), of(64), of(2, 0, 1), full(4), twoSides(2, 62), net()} {
		mustRefuse(t, g, api.ErrNone)
	}
	for i := range 10 {
		mustRefuse(t, without(full(5), i), api.ErrNone)
	}
	for i := range 9 {
		mustRefuse(t, without(twoSides(3, 3), i), api.ErrNone)
	}
}

// P8.2: which edges are left hangs on their order: the last ones are left out first.
func TestFind(t *testing.T) {
	mustFind(t, full(5), 5, upTo(10)...)
	mustFind(t, full(6), 5, upTo(10)...)
	mustFind(t, full(16), 5, upTo(10)...)
	mustFind(t, twoSides(3, 3), 33, upTo(9)...)
	mustFind(t, twoSides(3, 40), 33, upTo(9)...)
	mustFind(t, twoSides(4, 4), 33, 0, 1, 2, 4, 5, 6, 8, 9, 10)
	// The two threes, ahead of the edges of each side, and behind them.
	sides := []int{0, 1, 0, 2, 1, 2, 3, 4, 3, 5, 4, 5}
	mustFind(t, with(twoSides(3, 3), sides...), 33, upTo(9)...)
	mustFind(t, with(of(6, sides...), 0, 3, 0, 4, 0, 5, 1, 3, 1, 4, 1, 5, 2, 3, 2, 4, 2, 5), 5, 0, 3, 4, 5, 6, 7, 8, 9, 10, 11)
	// The full one of five, and an edge that hangs on it, at the end or at the beginning.
	mustFind(t, of(6, 5, 1, 5, 2, 5, 3, 5, 4, 1, 2, 2, 3, 3, 4, 4, 1, 1, 3, 2, 4, 0, 5), 5, upTo(10)...)
	mustFind(t, of(6, 0, 5, 2, 4, 1, 3, 4, 1, 3, 4, 2, 3, 1, 2, 5, 4, 5, 3, 5, 2, 5, 1), 5, 1, 2, 3, 4, 5, 6, 7, 8, 9, 10)
	mustFind(t, of(7, 0, 1, 0, 2, 0, 3, 0, 4, 1, 2, 1, 3, 1, 4, 2, 3, 2, 4, 3, 5, 5, 4, 0, 6), 5, upTo(11)...)
	mustFind(t, of(6, 0, 3, 0, 4, 0, 5, 1, 3, 1, 4, 1, 5, 2, 3, 2, 4, 2, 5, 0, 1), 33, upTo(9)...)
}

// P8.2: of two, each by itself, the first one is left; wherever its vertices are.
func TestFindFirst(t *testing.T) {
	beside := func(a, b api.Graph) api.Graph {
		g := api.Graph{Vertices: a.Vertices + b.Vertices, Edges: slices.Clone(a.Edges)}
		for _, e := range b.Edges {
			g = with(g, e.Tail+a.Vertices, e.Head+a.Vertices)
		}
		return g
	}
	five, threes := full(5), twoSides(3, 3)
	mustFind(t, beside(five, threes), 5, upTo(10)...)
	mustFind(t, beside(threes, five), 33, upTo(9)...)
	mustFind(t, beside(full(4), five), 5, upTo(16)[6:]...)
	mustFind(t, beside(beside(full(4), threes), five), 33, upTo(15)[6:]...)
	flat := without(net(), 0) // 111 edges
	mustFind(t, with(flat, 27, 36, 28, 35, 0, 9), 33, findByWords(with(flat, 27, 36, 28, 35, 0, 9))...)
	mustRefuse(t, with(flat, 27, 36, 0, 9), api.ErrNone)
}

// findByWords leaves edges out as the chapter tells it.
func findByWords(g api.Graph) []int {
	out := map[int]bool{}
	left := func() ([]int, api.Graph) {
		var list []int
		h := of(g.Vertices)
		for i, e := range g.Edges {
			if !out[i] {
				list = append(list, i)
				h.Edges = append(h.Edges, e)
			}
		}
		return list, h
	}
	for i := len(g.Edges) - 1; i >= 0; i-- {
		out[i] = true
		if _, h := left(); planar.Is(h) {
			out[i] = false
		}
	}
	list, _ := left()
	return list
}

// P8.2: what was answered isn't kept, nor what was handed in.
func TestNotKept(t *testing.T) {
	g := full(6)
	list, _ := kura.Find(g)
	clear(list[:cap(list)])
	g.Edges[0] = api.Edge{Tail: 5, Head: 5}
	mustRefuse(t, g, api.ErrArg)
	mustFind(t, full(6), 5, upTo(10)...)
}
