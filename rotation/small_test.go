package rotation_test

import (
	"slices"
	"testing"

	"arbor/api"
	"arbor/rotation"
)

// What follows tells rotations, faces and handles once more, by the words of the chapter, and holds the calls against it on all rotations of small graphs, and on strewn ones up to the limits.

// end gives the vertex at which a half edge stands.
func end(g api.Graph, h int) int {
	if h%2 == 0 {
		return g.Edges[h/2].Tail
	}
	return g.Edges[h/2].Head
}

// behind gives what comes behind a half edge along its face.
func behind(g api.Graph, r rotation.Rotation, h int) int {
	twin := h + 1 - 2*(h%2)
	list := r[end(g, twin)]
	at := slices.Index(list, twin)
	if at == len(list)-1 {
		return list[0]
	}
	return list[at+1]
}

// expectFaces walks around from each half edge, and keeps what begins at its least one.
func expectFaces(g api.Graph, r rotation.Rotation) [][]int {
	var faces [][]int
	for h := range 2 * len(g.Edges) {
		face := []int{h}
		for x := behind(g, r, h); x != h; x = behind(g, r, x) {
			face = append(face, x)
		}
		if slices.Min(face) == h {
			faces = append(faces, face)
		}
	}
	return faces
}

// parts counts what hangs together, by giving all vertices of a part the least number in it.
func parts(g api.Graph) int {
	name := upTo(g.Vertices)
	for range g.Vertices {
		for _, e := range g.Edges {
			least := min(name[e.Tail], name[e.Head])
			name[e.Tail], name[e.Head] = least, least
		}
	}
	count := 0
	for x, n := range name {
		if x == n {
			count++
		}
	}
	return count
}

func hold(t *testing.T, g api.Graph, r rotation.Rotation) int {
	t.Helper()
	want := expectFaces(g, r)
	twice := 2*parts(g) - g.Vertices + len(g.Edges) - len(want)
	for _, list := range r {
		if len(list) == 0 {
			twice--
		}
	}
	if twice < 0 || twice%2 != 0 {
		t.Fatalf("%v, %v: %d is told as twice the handles", g, r, twice)
	}
	mustHave(t, g, r, twice/2, want...)
	mirrored := rotation.Mirror(r)
	if n, e := rotation.Genus(g, mirrored); n != twice/2 || e != api.OK {
		t.Errorf("mirrored, %v has %d handles, else %d", g, n, twice/2)
	}
	if !rotation.Same(r, begunElsewhere(r)) || !alike(rotation.Faces(g, begunElsewhere(r)), want) {
		t.Errorf("where the lists of %v begin matters", r)
	}
	return twice / 2
}

// begunElsewhere gives a rotation whose lists begin with their second one.
func begunElsewhere(r rotation.Rotation) rotation.Rotation {
	var turned rotation.Rotation
	for _, list := range r {
		if len(list) > 1 {
			list = append(slices.Clone(list[1:]), list[0])
		}
		turned = append(turned, list)
	}
	return turned
}

// orders gives all orders of a list in which its first one stays the first.
func orders(list []int) [][]int {
	if len(list) < 2 {
		return [][]int{list}
	}
	var all [][]int
	last := list[len(list)-1]
	for _, o := range orders(list[:len(list)-1]) {
		for at := 1; at <= len(o); at++ {
			all = append(all, slices.Insert(slices.Clone(o), at, last))
		}
	}
	return all
}

// eachRotation calls a function with all rotations of a graph, no two of them the same.
func eachRotation(g api.Graph, call func(rotation.Rotation)) {
	r := plain(g)
	var choose func(x int)
	choose = func(x int) {
		if x == len(r) {
			call(r)
			return
		}
		list := r[x]
		for _, o := range orders(list) {
			r[x] = o
			choose(x + 1)
		}
		r[x] = list
	}
	choose(0)
}

// mustCount holds how many rotations of a graph have 0 handles, 1 handle, and so on against what is known.
func mustCount(t *testing.T, g api.Graph, want ...int) {
	t.Helper()
	got := make([]int, len(want))
	eachRotation(g, func(r rotation.Rotation) {
		if n := hold(t, g, r); n < len(got) {
			got[n]++
		} else {
			t.Errorf("%v has %d handles on %v", r, n, g)
		}
	})
	if !slices.Equal(got, want) {
		t.Errorf("%v: rotations by handles %v, want %v", g, got, want)
	}
}

// between gives the graph in which each two vertices for which tied holds have an edge.
func between(n int, tied func(x, y int) bool) api.Graph {
	g := api.Graph{Vertices: n}
	for y := range n {
		for x := range y {
			if tied(x, y) {
				g.Edges = append(g.Edges, api.Edge{Tail: x, Head: y})
			}
		}
	}
	return g
}

// P5.2 against the known numbers of rotations by handles: of complete graphs, of two threes, of bundles, and of loops.
func TestKnownCounts(t *testing.T) {
	all := func(x, y int) bool { return true }
	mustCount(t, between(4, all), 2, 14)
	mustCount(t, between(5, all), 0, 462, 4974, 2340)
	mustCount(t, between(6, func(x, y int) bool { return x < 3 && y >= 3 }), 0, 40, 24)
	mustCount(t, many(2, 3, api.Edge{Tail: 1, Head: 0}), 2, 2)
	mustCount(t, many(2, 4, api.Edge{Tail: 0, Head: 1}), 6, 30)
	mustCount(t, many(1, 2, api.Edge{}), 4, 2)
	mustCount(t, many(1, 3, api.Edge{}), 40, 80)
}

// P5.1 and P5.2 on all rotations of all lists of at most three edges between at most three vertices.
func TestAllLists(t *testing.T) {
	for n := 1; n <= 3; n++ {
		var grow func(edges []api.Edge)
		grow = func(edges []api.Edge) {
			g := api.Graph{Vertices: n, Edges: edges}
			eachRotation(g, func(r rotation.Rotation) { hold(t, g, r) })
			if len(edges) == 3 {
				return
			}
			for k := range n * n {
				grow(append(slices.Clip(edges), api.Edge{Tail: k / n, Head: k % n}))
			}
		}
		grow(nil)
	}
}

// P5.1 on all pairs of lists of at most three numbers: right are those with just what stands at each vertex.
func TestAllTries(t *testing.T) {
	for _, g := range []api.Graph{of(2, 0, 1), of(2, 1, 0), of(2, 1, 1), of(2, 0, 1, 1, 0)} {
		var lists [][]int
		var grow func(list []int)
		grow = func(list []int) {
			lists = append(lists, list)
			if len(list) == 3 {
				return
			}
			for h := -1; h <= 2*len(g.Edges); h++ {
				grow(append(slices.Clip(list), h))
			}
		}
		grow(nil)
		should := plain(g)
		for _, a := range lists {
			for _, b := range lists {
				want := slices.Equal(slices.Sorted(slices.Values(a)), should[0]) && slices.Equal(slices.Sorted(slices.Values(b)), should[1])
				if got := rotation.Right(g, rotation.Rotation{a, b}); got != want {
					t.Errorf("Right(%v, %v, %v) = %v", g, a, b, got)
				}
			}
		}
	}
}

// P5.1 and P5.2 on strewn graphs and rotations, up to the limits.
func TestStrewn(t *testing.T) {
	seed := uint32(1)
	below := func(n int) int {
		seed = seed*1664525 + 1013904223
		return int(seed>>8) % n
	}
	for range 400 {
		g := api.Graph{Vertices: 1 + below(api.MaxVertices)}
		for range below(api.MaxEdges + 1) {
			g.Edges = append(g.Edges, api.Edge{Tail: below(g.Vertices), Head: below(g.Vertices)})
		}
		r := plain(g)
		for _, list := range r {
			for i := range list {
				k := below(i + 1)
				list[i], list[k] = list[k], list[i]
			}
		}
		hold(t, g, r)
	}
}
