package planar_test

import (
	"math/bits"
	"slices"
	"testing"

	"arbor/api"
	"arbor/rotation"
)

// What follows holds the calls against other ways to tell whether a graph can be laid: by all of its rotations; by what it can be shrunk to (Wagner); by how it was made.

// setOf gives the edges of a full graph that a set has.
func setOf(all api.Graph, set int) api.Graph {
	g := api.Graph{Vertices: all.Vertices}
	for k, e := range all.Edges {
		if set>>k&1 == 1 {
			g.Edges = append(g.Edges, e)
		}
	}
	return g
}

// orders gives all orders of a list in which its first one stays the first.
func orders(list []int) [][]int {
	if len(list) < 2 {
		return [][]int{list}
	}
	var all [][]int
	last := list[len(list)-1]
	for _, o := range orders(list[:len(list)-1]) {
		for at := 1; at <= len(o); at++ {
			all = append(all, slices.Insert(slices.Clone(o), at, last))
		}
	}
	return all
}

// someRotation tells whether any rotation at all of a graph has no handles.
func someRotation(g api.Graph) bool {
	r := make(rotation.Rotation, g.Vertices)
	for i, e := range g.Edges {
		r[e.Tail] = append(r[e.Tail], 2*i)
		r[e.Head] = append(r[e.Head], 2*i+1)
	}
	var choose func(x int) bool
	choose = func(x int) bool {
		if x == len(r) {
			n, e := rotation.Genus(g, r)
			return n == 0 && e == api.OK
		}
		list := r[x]
		for _, o := range orders(list) {
			r[x] = o
			if choose(x + 1) {
				return true
			}
		}
		r[x] = list
		return false
	}
	return choose(0)
}

// P7.1 by the words of the chapter: on all sets of edges between at most five vertices there is an answer just if some rotation has no handles.
func TestAllRotations(t *testing.T) {
	for n := 1; n <= 5; n++ {
		all := full(n)
		for set := range 1 << len(all.Edges) {
			g := setOf(all, set)
			mustTell(t, g, someRotation(g))
		}
	}
	mustTell(t, twoSides(3, 3), someRotation(twoSides(3, 3)))
}

// net is for each vertex the set of those that it has an edge with.
type net [8]uint8

func netOf(g api.Graph) net {
	var n net
	for _, e := range g.Edges {
		n[e.Tail] |= 1 << e.Head
		n[e.Head] |= 1 << e.Tail
	}
	return n
}

// shrunk gives the net in which y has come to x.
func (n net) shrunk(x, y int) net {
	n[x] |= n[y]
	n[y] = 0
	for z := range n {
		if n[z]>>y&1 == 1 {
			n[z] = n[z]&^(1<<y) | 1<<x
		}
	}
	n[x] &^= 1 << x
	return n
}

// hasFive tells whether there are five vertices each two of which have an edge.
func (n net) hasFive() bool {
	for set := range 256 {
		if bits.OnesCount(uint(set)) != 5 {
			continue
		}
		all := true
		for x := range n {
			if set>>x&1 == 1 {
				all = all && set&^int(n[x]) == 1<<x
			}
		}
		if all {
			return true
		}
	}
	return false
}

// hasThrees tells whether there are three vertices each of which has an edge with three others that are the same.
func (n net) hasThrees() bool {
	for x := range n {
		for y := range x {
			for z := range y {
				if bits.OnesCount8(n[x]&n[y]&n[z]) >= 3 {
					return true
				}
			}
		}
	}
	return false
}

// canBeLaid tells whether however a net is shrunk it never has one of the two.
func (n net) canBeLaid(known map[net]bool) bool {
	if is, ok := known[n]; ok {
		return is
	}
	is := !n.hasFive() && !n.hasThrees()
	for x := range n {
		for y := range x {
			if is && n[x]>>y&1 == 1 {
				is = n.shrunk(x, y).canBeLaid(known)
			}
		}
	}
	known[n] = is
	return is
}

// P7.1 on all sets of edges between six vertices, whose number is known.
func TestSix(t *testing.T) {
	known := map[net]bool{}
	all, count := full(6), 0
	for set := range 1 << len(all.Edges) {
		g := setOf(all, set)
		want := netOf(g).canBeLaid(known)
		mustTell(t, g, want)
		if want {
			count++
		}
	}
	if count != 32071 {
		t.Errorf("%d graphs of six vertices can be laid", count)
	}
}

// strew gives a rule by which numbers below n come, always the same ones.
func strew(state uint64) func(n int) int {
	return func(n int) int {
		state = state*6364136223846793005 + 1442695040888963407
		return int(state >> 33 % uint64(n))
	}
}

// shuffled gives a graph with its vertices called anew, its edges in another order, and some of them turned round.
func shuffled(g api.Graph, next func(n int) int) api.Graph {
	names := make([]int, g.Vertices)
	for i := range names {
		k := next(i + 1)
		names[i], names[k] = names[k], i
	}
	s := api.Graph{Vertices: g.Vertices}
	for _, e := range g.Edges {
		e = api.Edge{Tail: names[e.Tail], Head: names[e.Head]}
		if next(2) == 0 {
			e.Tail, e.Head = e.Head, e.Tail
		}
		s.Edges = slices.Insert(s.Edges, next(len(s.Edges)+1), e)
	}
	return s
}

// P7.1 on strewn graphs of seven and eight vertices, some of which can be laid and some not.
func TestSevenAndEight(t *testing.T) {
	known := map[net]bool{}
	next := strew(7)
	var count [2]int
	for range 6000 {
		all := shuffled(full(7+next(2)), next)
		all.Edges = all.Edges[:9+next(10)]
		want := netOf(all).canBeLaid(known)
		mustTell(t, all, want)
		if want {
			count[1]++
		} else {
			count[0]++
		}
	}
	if min(count[0], count[1]) < 1000 {
		t.Errorf("%d can't be laid, %d can", count[0], count[1])
	}
}

// tiles are triangles that are all the faces of a graph laid in the plane, each clockwise.
type tiles struct {
	n     int
	three [][3]int
}

func (s *tiles) graph() api.Graph {
	return between(s.n, s.tied)
}

func (s *tiles) tied(x, y int) bool {
	return slices.ContainsFunc(s.three, func(a [3]int) bool { return slices.Contains(a[:], x) && slices.Contains(a[:], y) })
}

// put lays one more vertex in a triangle.
func (s *tiles) put(at int) {
	a := s.three[at]
	x := s.n
	s.n++
	s.three[at] = [3]int{a[0], a[1], x}
	s.three = append(s.three, [3]int{a[1], a[2], x}, [3]int{a[2], a[0], x})
}

// turn takes the edge of the first two of a triangle away, and lays the other one across the gap, if that isn't there.
func (s *tiles) turn(at int) {
	a, b, c := s.three[at][0], s.three[at][1], s.three[at][2]
	for k, o := range s.three {
		for i := range 3 {
			d := o[(i+2)%3]
			if o[i] == b && o[(i+1)%3] == a && !s.tied(c, d) {
				s.three[at], s.three[k] = [3]int{b, c, d}, [3]int{c, a, d}
				return
			}
		}
	}
	s.three[at] = [3]int{b, c, a}
}

// tiled gives a graph of n vertices to which no edge can be added in the plane.
func tiled(n int, next func(n int) int) api.Graph {
	s := &tiles{n: 3, three: [][3]int{{0, 1, 2}, {2, 1, 0}}}
	for s.n < n {
		s.put(next(len(s.three)))
		for range next(9) {
			s.turn(next(len(s.three)))
		}
	}
	return s.graph()
}

// added gives a graph with one more edge, between two vertices that have none.
func added(g api.Graph, next func(n int) int) api.Graph {
	for {
		x, y := next(g.Vertices), next(g.Vertices)
		e, back := api.Edge{Tail: x, Head: y}, api.Edge{Tail: y, Head: x}
		if x != y && !slices.Contains(g.Edges, e) && !slices.Contains(g.Edges, back) {
			return api.Graph{Vertices: g.Vertices, Edges: append(slices.Clone(g.Edges), e)}
		}
	}
}

// P7.1 on graphs made of triangles, up to the limits: they can be laid, and so can what is left of them; with one edge more none of them can.
func TestTiled(t *testing.T) {
	next := strew(1)
	for round := range 160 {
		n := 5 + round%40 // 44 have 126 edges
		g := tiled(n, next)
		if len(g.Edges) != 3*n-6 {
			t.Fatalf("%d vertices with %d edges", n, len(g.Edges))
		}
		mustTell(t, shuffled(g, next), true)
		mustTell(t, shuffled(added(g, next), next), false)
		left := shuffled(g, next)
		left.Edges = left.Edges[:len(left.Edges)-next(len(left.Edges))]
		mustTell(t, left, true)
	}
}

// P7.1 on what is left, with 128 edges at most, of graphs made of triangles of up to 64 vertices.
func TestThinned(t *testing.T) {
	next := strew(3)
	for range 60 {
		g := shuffled(tiled(45+next(20), next), next)
		g.Edges = g.Edges[:90+next(api.MaxEdges-90+1)]
		mustTell(t, g, true)
	}
}

// P7.1 on graphs of many blocks, each of which hangs at a vertex of those ahead of it, or is a part by itself; one that can't be laid spoils all.
func TestStrewnBlocks(t *testing.T) {
	next := strew(9)
	for range 100 {
		g, spoilt := of(1), full(5)
		for g.Vertices < 40 {
			b := tiled(3+next(6), next)
			b.Edges = b.Edges[:len(b.Edges)-next(3)]
			g = shuffled(beside(g, b, g.Vertices-next(2)), next)
		}
		if next(2) == 0 {
			spoilt = twoSides(3, 3)
		}
		if len(g.Edges)+len(spoilt.Edges) > api.MaxEdges {
			t.Fatalf("%d edges", len(g.Edges))
		}
		mustTell(t, g, true)
		mustTell(t, shuffled(beside(g, spoilt, g.Vertices-next(2)), next), false)
		mustTell(t, shuffled(beside(spoilt, g, spoilt.Vertices-next(2)), next), false)
	}
}

// stretched gives a graph with one more vertex, on an edge of it.
func stretched(g api.Graph, at int) api.Graph {
	s := without(g, at)
	e := g.Edges[at]
	s.Edges = append(s.Edges, api.Edge{Tail: e.Tail, Head: s.Vertices}, api.Edge{Tail: s.Vertices, Head: e.Head})
	s.Vertices++
	return s
}

// P7.1: vertices on edges don't matter: stretched to 64 vertices, of the full graph of five and of the two threes no edge can be spared, and whatever else is beside them they can't be laid.
func TestStretched(t *testing.T) {
	next := strew(5)
	for round := range 60 {
		g := full(5)
		if round%2 == 0 {
			g = twoSides(3, 3)
		}
		for g.Vertices < api.MaxVertices-round%7 {
			g = stretched(g, next(len(g.Edges)))
		}
		mustTell(t, shuffled(g, next), false)
		spared := without(g, next(len(g.Edges)))
		mustTell(t, shuffled(spared, next), true)
		for range 1 + next(50) {
			g = added(g, next)
		}
		mustTell(t, shuffled(g, next), false)
	}
}
