package reach_test

import (
	"math"
	"slices"
	"testing"

	"arbor/api"
	"arbor/reach"
)

// of makes a graph of its edges' ends, tail and head by turns.
func of(vertices int, ends ...int) api.Graph {
	g := api.Graph{Vertices: vertices}
	for i := 0; i < len(ends); i += 2 {
		g.Edges = append(g.Edges, api.Edge{Tail: ends[i], Head: ends[i+1]})
	}
	return g
}

// many gives a graph with n edges of which all are the same.
func many(vertices, n int, e api.Edge) api.Graph {
	g := api.Graph{Vertices: vertices}
	for range n {
		g.Edges = append(g.Edges, e)
	}
	return g
}

// down gives the chain of 64 vertices in which each has an edge to the one below it.
func down() api.Graph {
	g := api.Graph{Vertices: 64}
	for x := 63; x > 0; x-- {
		g.Edges = append(g.Edges, api.Edge{Tail: x, Head: x - 1})
	}
	return g
}

// notOnes are graphs that may not be.
func notOnes() []api.Graph {
	return []api.Graph{
		{},
		of(-1),
		of(math.MinInt),
		of(65),
		of(math.MaxInt),
		of(0, 0, 0),
		of(2, 0, 2),
		of(2, 2, 0),
		of(2, -1, 0),
		of(2, 0, -1),
		of(2, 0, 1, 0, 1, 1, math.MaxInt),
		of(2, math.MinInt, 1),
		many(64, 129, api.Edge{Tail: 0, Head: 63}),
	}
}

// P3.1: the bit of the value 2^x is for x.
func TestSetBits(t *testing.T) {
	for x := range 64 {
		s := reach.Of(x)
		if s != 1<<x {
			t.Errorf("Of(%d) = %x", x, uint64(s))
		}
		for y := range 64 {
			if s.Has(y) != (x == y) || (^s).Has(y) != (x != y) {
				t.Errorf("Of(%d), and all but it, have %d: %v, %v", x, y, s.Has(y), (^s).Has(y))
			}
		}
		if all := s.All(); !slices.Equal(all, []int{x}) {
			t.Errorf("All of Of(%d): %v", x, all)
		}
	}
}

// P3.1: what no set has, Has denies and Of leaves out.
func TestSetWrong(t *testing.T) {
	for _, x := range []int{-1, -64, 64, 65, 127, 128, 1 << 32, math.MinInt, math.MaxInt} {
		if reach.Set(math.MaxUint64).Has(x) || reach.Set(0).Has(x) {
			t.Errorf("a set has %d", x)
		}
		if s := reach.Of(x); s != 0 {
			t.Errorf("Of(%d) = %x", x, uint64(s))
		}
		if s := reach.Of(5, x, 9); s != 1<<5|1<<9 {
			t.Errorf("Of(5, %d, 9) = %x", x, uint64(s))
		}
	}
}

// P3.1: All is rising, whatever the order in which they came, and how often.
func TestSetAll(t *testing.T) {
	if s := reach.Of(); s != 0 || len(s.All()) != 0 {
		t.Errorf("Of() = %x, all %v", uint64(s), s.All())
	}
	list := []int{63, 7, 0, 7, 32, 31, 63, -1, 64}
	if all := reach.Of(list...).All(); !slices.Equal(all, []int{0, 7, 31, 32, 63}) {
		t.Errorf("All: %v", all)
	}
	if !slices.Equal(list, []int{63, 7, 0, 7, 32, 31, 63, -1, 64}) {
		t.Errorf("Of changed its list to %v", list)
	}
	full := reach.Set(math.MaxUint64).All()
	if len(full) != 64 || reach.Of(full...) != math.MaxUint64 || !slices.IsSorted(full) {
		t.Errorf("All of the full set: %v", full)
	}
}

func mustReach(t *testing.T, g api.Graph, want ...reach.Set) {
	t.Helper()
	if got := reach.From(g); !slices.Equal(got, want) {
		t.Errorf("From(%v) = %b, want %b", g, got, want)
	}
}

// P3.2: each vertex reaches itself, and along edges only from tails to heads.
func TestFrom(t *testing.T) {
	mustReach(t, of(1), 1)
	mustReach(t, of(1, 0, 0), 1)
	mustReach(t, of(3), 1, 2, 4)
	mustReach(t, of(2, 1, 0), 1, 3)
	mustReach(t, of(4, 0, 1, 1, 2, 3, 2), 7, 6, 4, 12)
	mustReach(t, of(4, 2, 1, 1, 0, 0, 2), 7, 7, 7, 8)
	mustReach(t, of(4, 0, 1, 1, 0, 2, 0, 2, 0, 1, 3), 11, 11, 15, 8)
}

// P3.2: ways of 63 edges, and the vertex 63.
func TestFromLong(t *testing.T) {
	got := reach.From(down())
	if len(got) != 64 {
		t.Fatalf("%d sets", len(got))
	}
	for x, s := range got {
		if want := reach.Set(math.MaxUint64) >> (63 - x); s != want {
			t.Errorf("from %d: %x, want %x", x, uint64(s), uint64(want))
		}
	}
}

func mustSkip(t *testing.T, g api.Graph, want ...int) {
	t.Helper()
	if got := reach.Transitive(g); !slices.Equal(got, want) {
		t.Errorf("Transitive(%v) = %v, want %v", g, got, want)
	}
}

// P3.2: edges beside which there is another way.
func TestTransitive(t *testing.T) {
	mustSkip(t, of(1))
	mustSkip(t, of(2, 0, 1))
	mustSkip(t, of(3, 0, 1, 1, 2, 0, 2), 2)
	mustSkip(t, of(3, 0, 2, 1, 2, 0, 1), 0)
	mustSkip(t, of(3, 2, 0, 1, 2, 0, 1)) // a cycle: no way around any of its edges
	mustSkip(t, of(4, 0, 1, 0, 2, 1, 3, 2, 3))
	mustSkip(t, of(4, 0, 3, 0, 1, 1, 2, 2, 3, 0, 2, 1, 3), 0, 4, 5)
	mustSkip(t, of(3, 0, 1, 2, 1, 0, 2), 0)
}

// P3.2: another edge between the same ends is a way, so all of them are told; the one that goes back is none.
func TestTransitiveTwice(t *testing.T) {
	mustSkip(t, of(2, 0, 1, 0, 1), 0, 1)
	mustSkip(t, of(2, 0, 1, 1, 0, 0, 1), 0, 2)
	mustSkip(t, of(2, 0, 1, 1, 0))
	all := reach.Transitive(many(64, 128, api.Edge{Tail: 63, Head: 0}))
	if len(all) != 128 || all[0] != 0 || all[127] != 127 || !slices.IsSorted(all) {
		t.Errorf("%v", all)
	}
}

// P3.2: from a vertex to itself there is a way of no edges.
func TestTransitiveLoops(t *testing.T) {
	mustSkip(t, of(1, 0, 0), 0)
	mustSkip(t, of(3, 0, 1, 1, 1, 1, 2, 2, 2), 1, 3)
}

// P3.2: 0 reaches 2, and 2 reaches 1, but only back by 0 and by the edge itself.
func TestTransitiveCycle(t *testing.T) {
	mustSkip(t, of(3, 0, 1, 0, 2, 2, 0))
	mustSkip(t, of(4, 0, 1, 0, 2, 2, 0, 2, 3, 3, 1), 0)
}

// P3.2: the longest way there is, beside one edge.
func TestTransitiveLong(t *testing.T) {
	g := down()
	mustSkip(t, g)
	g.Edges = append(g.Edges, api.Edge{Tail: 63, Head: 0}, api.Edge{Tail: 0, Head: 63})
	mustSkip(t, g, 63)
}

func mustFall(t *testing.T, g api.Graph, without reach.Set, want ...reach.Set) {
	t.Helper()
	if got := reach.Parts(g, without); !slices.Equal(got, want) {
		t.Errorf("Parts(%v, %b) = %b, want %b", g, without, got, want)
	}
}

// P3.3: parts hang together whichever way edges go, and come by their least vertices.
func TestParts(t *testing.T) {
	mustFall(t, of(1), 0, 1)
	mustFall(t, of(1, 0, 0), 0, 1)
	mustFall(t, of(3), 0, 1, 2, 4)
	mustFall(t, of(3, 0, 2, 1, 2), 0, 7)
	mustFall(t, of(3, 2, 0, 2, 1), 0, 7)
	mustFall(t, of(5, 4, 0, 3, 1), 0, 17, 10, 4)
	mustFall(t, of(6, 5, 4, 3, 5, 0, 2), 0, 5, 2, 56)
	mustFall(t, down(), 0, math.MaxUint64)
}

// P3.3: those without are in no part, and tie nothing together.
func TestPartsWithout(t *testing.T) {
	star := of(4, 0, 1, 2, 0, 0, 3)
	mustFall(t, star, 1, 2, 4, 8)
	mustFall(t, star, 2, 13)
	mustFall(t, star, 3, 4, 8)
	mustFall(t, star, 15)
	mustFall(t, of(1), 1)
	mustFall(t, of(1, 0, 0), 1)
	mustFall(t, down(), reach.Of(0, 31, 63), reach.Set(1<<31-2), reach.Set(1<<63-1<<32))
	mustFall(t, down(), math.MaxUint64)
}

// P3.3: those without may be vertices that there aren't.
func TestPartsWithoutOthers(t *testing.T) {
	mustFall(t, of(3, 0, 1, 1, 2), reach.Of(3, 40, 63), 7)
	mustFall(t, of(3, 0, 1, 1, 2), math.MaxUint64-1, 1)
	mustFall(t, of(3, 0, 1, 1, 2), math.MaxUint64)
}

// P3.2 and P3.3: of a graph that may not be, nothing is told.
func TestNotOnes(t *testing.T) {
	for _, g := range notOnes() {
		if sets := reach.From(g); len(sets) != 0 {
			t.Errorf("From(%v) = %v", g, sets)
		}
		if edges := reach.Transitive(g); len(edges) != 0 {
			t.Errorf("Transitive(%v) = %v", g, edges)
		}
		for _, without := range []reach.Set{0, 1, math.MaxUint64} {
			if sets := reach.Parts(g, without); len(sets) != 0 {
				t.Errorf("Parts(%v, %x) = %v", g, uint64(without), sets)
			}
		}
	}
}

// P2 with rule 4: what is handed in stays as it is, with what lies behind it, and what is answered is new memory each time.
func TestKeepsToItself(t *testing.T) {
	whole := of(4, 0, 1, 1, 2, 0, 2, 2, 3, 3, 0)
	g := api.Graph{Vertices: 4, Edges: whole.Edges[:4]}
	before := slices.Clone(whole.Edges)
	from, skip, parts := reach.From(g), reach.Transitive(g), reach.Parts(g, 1)
	if !slices.Equal(whole.Edges, before) {
		t.Errorf("the edges are changed to %v", whole.Edges)
	}
	from[0], skip[0], parts[0] = 77, 77, 77
	mustReach(t, g, 15, 14, 12, 8)
	mustSkip(t, g, 2)
	mustFall(t, g, 1, 14)
}
