package reach_test

import (
	"slices"
	"testing"

	"arbor/api"
	"arbor/reach"
)

// What follows tells once more, by the words of the chapter and without sets of bits, what can be reached and what hangs together, and holds the calls against it on all small graphs and on some great ones.

// ties tells for each two vertices whether there is a way of edges between them, those on the edges' list only, and both ways if so asked.
func ties(vertices int, edges []api.Edge, bothWays bool) [][]bool {
	tied := make([][]bool, vertices)
	for x := range tied {
		tied[x] = make([]bool, vertices)
		tied[x][x] = true
	}
	for _, e := range edges {
		tied[e.Tail][e.Head] = true
		if bothWays {
			tied[e.Head][e.Tail] = true
		}
	}
	for by := range vertices {
		for x := range vertices {
			for y := range vertices {
				tied[x][y] = tied[x][y] || tied[x][by] && tied[by][y]
			}
		}
	}
	return tied
}

func listed(row []bool) []int {
	var list []int
	for x, there := range row {
		if there {
			list = append(list, x)
		}
	}
	return list
}

func expectSkips(g api.Graph) []int {
	var list []int
	for i, e := range g.Edges {
		others := slices.Delete(slices.Clone(g.Edges), i, i+1)
		if ties(g.Vertices, others, false)[e.Tail][e.Head] {
			list = append(list, i)
		}
	}
	return list
}

func expectParts(g api.Graph, without reach.Set) [][]int {
	gone := func(x int) bool { return uint64(without)&(uint64(1)<<x) != 0 }
	edges := slices.DeleteFunc(slices.Clone(g.Edges), func(e api.Edge) bool { return gone(e.Tail) || gone(e.Head) })
	tied := ties(g.Vertices, edges, true)
	var parts [][]int
	for x, row := range tied {
		if part := listed(row); !gone(x) && part[0] == x {
			parts = append(parts, part)
		}
	}
	return parts
}

func holdWays(t *testing.T, g api.Graph) {
	t.Helper()
	from, tied := reach.From(g), ties(g.Vertices, g.Edges, false)
	if len(from) != g.Vertices {
		t.Fatalf("From(%v): %d sets", g, len(from))
	}
	for x, s := range from {
		if got, want := s.All(), listed(tied[x]); !slices.Equal(got, want) {
			t.Errorf("From(%v), at %d: %v, want %v", g, x, got, want)
		}
	}
	if got, want := reach.Transitive(g), expectSkips(g); !slices.Equal(got, want) {
		t.Errorf("Transitive(%v) = %v, want %v", g, got, want)
	}
}

func holdParts(t *testing.T, g api.Graph, without reach.Set) {
	t.Helper()
	var got [][]int
	for _, s := range reach.Parts(g, without) {
		got = append(got, s.All())
	}
	if want := expectParts(g, without); !slices.EqualFunc(got, want, slices.Equal) {
		t.Errorf("Parts(%v, %b) = %v, want %v", g, without, got, want)
	}
}

// P3.2 and P3.3 on all lists of at most four edges between at most three vertices.
func TestAllLists(t *testing.T) {
	for n := 1; n <= 3; n++ {
		var grow func(edges []api.Edge)
		grow = func(edges []api.Edge) {
			g := api.Graph{Vertices: n, Edges: edges}
			holdWays(t, g)
			for without := range reach.Set(1) << n {
				holdParts(t, g, without)
			}
			if len(edges) == 4 {
				return
			}
			for k := range n * n {
				grow(append(slices.Clip(edges), api.Edge{Tail: k / n, Head: k % n}))
			}
		}
		grow(nil)
	}
}

// P3.2 and P3.3 on all sets of edges between four vertices, without loops.
func TestAllSets(t *testing.T) {
	var pairs []api.Edge
	for k := range 16 {
		if k/4 != k%4 {
			pairs = append(pairs, api.Edge{Tail: k / 4, Head: k % 4})
		}
	}
	for set := range 1 << len(pairs) {
		g := api.Graph{Vertices: 4}
		for k, e := range pairs {
			if set>>k&1 == 1 {
				g.Edges = append(g.Edges, e)
			}
		}
		holdWays(t, g)
		for without := range reach.Set(16) {
			holdParts(t, g, without)
		}
	}
}

// P3.2 and P3.3 on graphs up to the limits, whose edges are strewn by a fixed rule.
func TestStrewn(t *testing.T) {
	state := uint64(1)
	next := func() uint64 {
		state = state*6364136223846793005 + 1442695040888963407
		return state >> 32
	}
	for _, edges := range []int{8, 32, 64, 90, 128} {
		for _, n := range []int{7, 33, 63, 64} {
			g := api.Graph{Vertices: n}
			for range edges {
				g.Edges = append(g.Edges, api.Edge{Tail: int(next() % uint64(n)), Head: int(next() % uint64(n))})
			}
			holdWays(t, g)
			holdParts(t, g, 0)
			holdParts(t, g, reach.Set(next()<<32&(next()<<32)|next()&next()))
		}
	}
}
