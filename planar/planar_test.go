package planar_test

import (
	"math"
	"slices"
	"testing"

	"arbor/api"
	"arbor/planar"
	"arbor/rotation"
)

// of makes a graph of its edges' ends, tail and head by turns.
func of(vertices int, ends ...int) api.Graph {
	g := api.Graph{Vertices: vertices}
	for i := 0; i < len(ends); i += 2 {
		g.Edges = append(g.Edges, api.Edge{Tail: ends[i], Head: ends[i+1]})
	}
	return g
}

// between gives the graph in which each two vertices for which tied holds have an edge.
func between(n int, tied func(x, y int) bool) api.Graph {
	g := api.Graph{Vertices: n}
	for y := range n {
		for x := range y {
			if tied(x, y) {
				g.Edges = append(g.Edges, api.Edge{Tail: x, Head: y})
			}
		}
	}
	return g
}

func full(n int) api.Graph { return between(n, func(x, y int) bool { return true }) }

// twoSides gives the graph of a vertices, each with an edge to each of b others.
func twoSides(a, b int) api.Graph {
	return between(a+b, func(x, y int) bool { return x < a && y >= a })
}

// without gives a graph less one edge.
func without(g api.Graph, i int) api.Graph {
	return api.Graph{Vertices: g.Vertices, Edges: slices.Delete(slices.Clone(g.Edges), i, i+1)}
}

// beside gives two graphs as one, whose vertices from the number at on are those of the second one: fewer than the first one's vertices let them hang together.
func beside(a, b api.Graph, at int) api.Graph {
	g := api.Graph{Vertices: max(a.Vertices, at+b.Vertices), Edges: slices.Clone(a.Edges)}
	for _, e := range b.Edges {
		g.Edges = append(g.Edges, api.Edge{Tail: at + e.Tail, Head: at + e.Head})
	}
	return g
}

// turned gives the graph with each edge the other way round that a rule names.
func turned(g api.Graph, rule func(i int) bool) api.Graph {
	t := api.Graph{Vertices: g.Vertices}
	for i, e := range g.Edges {
		if rule(i) {
			e.Tail, e.Head = e.Head, e.Tail
		}
		t.Edges = append(t.Edges, e)
	}
	return t
}

// mustTell holds the calls of a plain graph against whether it can be laid; and that they change nothing, and tell the same again.
func mustTell(t *testing.T, g api.Graph, want bool) {
	t.Helper()
	kept := slices.Clone(g.Edges)
	if !planar.Plain(g) {
		t.Fatalf("Plain(%v) = false", g)
	}
	r, ok := planar.Embed(g)
	if ok != want || planar.Is(g) != want {
		t.Fatalf("Embed(%v) tells %v, Is %v, want %v", g, ok, planar.Is(g), want)
	}
	if !want && len(r) != 0 {
		t.Fatalf("Embed(%v) = %v beside false", g, r)
	}
	if n, e := rotation.Genus(g, r); want && (n != 0 || e != api.OK) {
		t.Fatalf("Embed(%v) = %v, with %d handles, error %d", g, r, n, e)
	}
	if again, _ := planar.Embed(g); !slices.EqualFunc(r, again, slices.Equal) {
		t.Fatalf("Embed(%v) = %v, then %v", g, r, again)
	}
	if !slices.Equal(g.Edges, kept) {
		t.Fatalf("the edges %v became %v", kept, g.Edges)
	}
}

// mustRefuse holds the calls against a graph that isn't plain.
func mustRefuse(t *testing.T, g api.Graph) {
	t.Helper()
	if planar.Plain(g) || planar.Is(g) {
		t.Errorf("%v: Plain tells %v, Is %v", g, planar.Plain(g), planar.Is(g))
	}
	if r, ok := planar.Embed(g); ok || len(r) != 0 {
		t.Errorf("Embed(%v) = %v, %v", g, r, ok)
	}
}

// P7.1: graphs of which it is known.
func TestKnown(t *testing.T) {
	mustTell(t, of(2, 0, 1), true)
	mustTell(t, of(3, 2, 1, 1, 0), true)
	mustTell(t, of(3, 0, 1, 1, 2, 2, 0), true)
	mustTell(t, full(4), true)
	mustTell(t, full(5), false)
	mustTell(t, full(6), false)
	mustTell(t, full(16), false) // 120 edges
	mustTell(t, twoSides(3, 3), false)
	mustTell(t, twoSides(1, 63), true)
	mustTell(t, twoSides(2, 62), true)
	mustTell(t, twoSides(3, 40), false)
	for i := range 10 {
		mustTell(t, without(full(5), i), true)
	}
	for i := range 9 {
		mustTell(t, without(twoSides(3, 3), i), true)
	}
	circle := func(x, y int) bool { return y-x == 1 || y-x == 63 }
	mustTell(t, between(64, circle), true)
	across := func(x, y int) bool { return circle(x, y) || y-x == 32 && x < 3 }
	mustTell(t, between(64, across), false)
	besides := func(x, y int) bool { return circle(x, y) || x+y == 64 }
	mustTell(t, between(64, besides), true)
}

// P7.1: five vertices in a ring inside another one, tied across (Petersen), and straight.
func TestRings(t *testing.T) {
	tied := func(step int) api.Graph {
		g := api.Graph{Vertices: 10}
		for i := range 5 {
			g.Edges = append(g.Edges, api.Edge{Tail: i, Head: (i + 1) % 5}, api.Edge{Tail: i, Head: 5 + i}, api.Edge{Tail: 5 + i, Head: 5 + (i+step)%5})
		}
		return g
	}
	mustTell(t, tied(1), true)
	mustTell(t, tied(2), false)
}

// P7.1: vertices without edges have lists without elements.
func TestWithoutEdges(t *testing.T) {
	for _, n := range []int{1, 2, 64} {
		mustTell(t, of(n), true)
		if r, _ := planar.Embed(of(n)); len(r) != n {
			t.Errorf("%d vertices have %d lists", n, len(r))
		}
	}
	mustTell(t, of(5, 3, 1), true)
}

// P7.1: all blocks and all parts must be such that they can be laid, wherever they are.
func TestPutTogether(t *testing.T) {
	for _, bad := range []api.Graph{full(5), twoSides(3, 3)} {
		n := bad.Vertices
		for _, at := range []int{n, n - 1} {
			mustTell(t, beside(bad, full(4), at), false)
			mustTell(t, beside(bad, bad, at), false)
			mustTell(t, beside(beside(bad, of(2, 0, 1), at), full(4), at+1), false)
			good := without(bad, len(bad.Edges)-1)
			mustTell(t, beside(good, full(4), at), true)
			mustTell(t, beside(good, good, at), true)
			mustTell(t, beside(beside(good, of(2, 0, 1), at), good, at+1), true)
		}
		for _, at := range []int{3, 4, 5, 58} {
			mustTell(t, beside(full(4), bad, at), false)
			mustTell(t, beside(full(4), without(bad, 0), at), true)
		}
	}
}

// P7.1: the edges' directions don't matter, nor whether these make a directed cycle or many sources.
func TestDirections(t *testing.T) {
	for set := range 1 << 6 {
		mustTell(t, turned(full(4), func(i int) bool { return set>>i&1 == 1 }), true)
	}
	for set := range 1 << 10 {
		rule := func(i int) bool { return set>>i&1 == 1 }
		mustTell(t, turned(full(5), rule), false)
		mustTell(t, turned(twoSides(3, 3), rule), false)
		mustTell(t, turned(without(full(5), set%10), rule), true)
	}
}

// P7.1: what is handed in and what was answered isn't kept.
func TestNotKept(t *testing.T) {
	g := full(4)
	r, _ := planar.Embed(g)
	want := rotation.Mirror(rotation.Mirror(r))
	g.Edges[0] = api.Edge{Tail: 3, Head: 3}
	for _, list := range r {
		clear(list)
	}
	if again, ok := planar.Embed(full(4)); !ok || !slices.EqualFunc(again, want, slices.Equal) {
		t.Errorf("Embed told %v, and then %v", want, again)
	}
}

// P7.1: no two lists of an answer share memory.
func TestListsApart(t *testing.T) {
	g := full(4)
	r, _ := planar.Embed(g)
	kept := rotation.Mirror(rotation.Mirror(r))
	for x, list := range r {
		_ = append(list, -1, -1, -1)
		if !slices.EqualFunc(r, kept, slices.Equal) {
			t.Errorf("what is put behind the list of %d stands in another one: %v, once %v", x, r, kept)
		}
	}
}

// P7.1: a graph that may not be isn't plain.
func TestMayNotBe(t *testing.T) {
	for _, n := range []int{0, -1, 65, math.MinInt, math.MaxInt} {
		mustRefuse(t, of(n))
		mustRefuse(t, of(n, 0, 1))
	}
	for _, x := range []int{-1, 3, 64, math.MinInt, math.MaxInt} {
		mustRefuse(t, of(3, 0, 1, x, 1))
		mustRefuse(t, of(3, 0, 1, 1, x))
		mustRefuse(t, of(3, x, x))
	}
}

// P7.1: one with a loop, or with two edges between two vertices, isn't plain, whichever way these go.
func TestNotPlain(t *testing.T) {
	mustRefuse(t, of(1, 0, 0))
	mustRefuse(t, of(3, 0, 1, 1, 2, 2, 2))
	mustRefuse(t, of(3, 1, 1, 0, 1, 1, 2))
	mustRefuse(t, of(2, 0, 1, 0, 1))
	mustRefuse(t, of(2, 0, 1, 1, 0))
	mustRefuse(t, of(4, 3, 2, 0, 1, 1, 2, 2, 3))
	mustRefuse(t, of(4, 2, 3, 0, 1, 1, 2, 2, 3))
	mustTell(t, of(4, 2, 3, 0, 1, 1, 2, 3, 1), true)
	for i, e := range full(16).Edges {
		g := full(16)
		g.Edges = append(g.Edges, e)
		mustRefuse(t, g)
		mustRefuse(t, turned(g, func(k int) bool { return k == i }))
	}
}

// P7.1 at the limits: 64 vertices, 128 edges; one more of either isn't plain.
func TestLimits(t *testing.T) {
	net := between(64, func(x, y int) bool { return y-x == 8 || y-x == 1 && y%8 != 0 }) // 8 rows of 8
	mustTell(t, net, true)
	for y := 1; y < 8; y++ {
		for x := 1; x < 8 && len(net.Edges) < api.MaxEdges; x++ {
			net.Edges = append(net.Edges, api.Edge{Tail: 8*y + x, Head: 8*y + x - 9})
		}
	}
	mustTell(t, net, true)
	more := api.Graph{Vertices: 64, Edges: append(slices.Clone(net.Edges), api.Edge{Tail: 63, Head: 54})}
	if len(more.Edges) != api.MaxEdges+1 {
		t.Fatalf("%d edges", len(more.Edges))
	}
	mustRefuse(t, more)
	net.Vertices = 65
	mustRefuse(t, net)
	crossed := between(64, func(x, y int) bool { return y-x == 8 || y-x == 1 && y%8 != 0 })
	crossed.Edges = append(crossed.Edges, api.Edge{Tail: 27, Head: 36}, api.Edge{Tail: 28, Head: 35})
	mustTell(t, crossed, false)
}
