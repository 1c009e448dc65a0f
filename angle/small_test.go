package angle_test

import (
	"slices"
	"testing"

	"arbor/angle"
	"arbor/api"
	"arbor/rotation"
)

// What follows tells angles and great ones once more, by the words of the chapter, and holds the calls against it: on all rotations of small graphs by trying all choices, on greater ones by a flow.

// end gives the vertex at which a half edge stands.
func end(g api.Graph, h int) int {
	if h%2 == 0 {
		return g.Edges[h/2].Tail
	}
	return g.Edges[h/2].Head
}

// isSpokenOf tells whether the chapter speaks of a graph and its rotation.
func isSpokenOf(g api.Graph, r rotation.Rotation) bool {
	handles, e := rotation.Genus(g, r)
	return e == api.OK && handles == 0 && hangsTogether(g) && hasNoCycle(g)
}

func hangsTogether(g api.Graph) bool {
	name := make([]int, g.Vertices)
	for x := range name {
		name[x] = x
	}
	for range g.Vertices {
		for _, e := range g.Edges {
			least := min(name[e.Tail], name[e.Head])
			name[e.Tail], name[e.Head] = least, least
		}
	}
	return slices.Max(name) == 0
}

// hasNoCycle lifts heads above tails: with a cycle that has no end.
func hasNoCycle(g api.Graph) bool {
	height := make([]int, g.Vertices)
	for range g.Vertices {
		for _, e := range g.Edges {
			height[e.Head] = max(height[e.Head], height[e.Tail]+1)
		}
	}
	return slices.Max(height) < g.Vertices
}

func expectAngles(g api.Graph, r rotation.Rotation) []angle.Angle {
	faces := rotation.Faces(g, r)
	var angles []angle.Angle
	for h := range 2 * len(g.Edges) {
		x := end(g, h)
		behind := r[x][0]
		if at := slices.Index(r[x], h); at < len(r[x])-1 {
			behind = r[x][at+1]
		}
		twin := h + 1 - 2*(h%2)
		a := angle.Angle{Half: h, Vertex: x}
		a.Face = slices.IndexFunc(faces, func(face []int) bool { return slices.Contains(face, twin) })
		if h%2 == 0 && behind%2 == 0 {
			a.Kind = 1
		} else if h%2 == 1 && behind%2 == 1 {
			a.Kind = 2
		}
		angles = append(angles, a)
	}
	return angles
}

func expectBimodal(g api.Graph, angles []angle.Angle) bool {
	for x := range g.Vertices {
		plain := 0
		for _, a := range angles {
			if a.Vertex == x && a.Kind == 0 {
				plain++
			}
		}
		if plain > 2 {
			return false
		}
	}
	return true
}

// isEnd tells whether a vertex is a source or a sink.
func isEnd(g api.Graph, x int) bool {
	to := slices.ContainsFunc(g.Edges, func(e api.Edge) bool { return e.Head == x })
	from := slices.ContainsFunc(g.Edges, func(e api.Edge) bool { return e.Tail == x })
	return !to || !from
}

// fits tells whether great angles, by their half edges for each vertex, fit with that outer face.
func fits(g api.Graph, angles []angle.Angle, faces int, great []int, outer int) bool {
	if len(great) != g.Vertices {
		return false
	}
	spare := make([]int, faces) // great ones, less those that are High
	for _, a := range angles {
		if a.Kind == 2 {
			spare[a.Face]--
		}
	}
	for x, h := range great {
		if !isEnd(g, x) {
			if h != -1 {
				return false
			}
			continue
		}
		if h < 0 || h >= len(angles) || angles[h].Vertex != x {
			return false
		}
		spare[angles[h].Face]++
	}
	for f, n := range spare {
		if f == outer && n != 1 || f != outer && n != -1 {
			return false
		}
	}
	return true
}

// outersByTrying gives all faces with which some great angles fit, by trying all choices.
func outersByTrying(g api.Graph, angles []angle.Angle, faces int) []int {
	can := make([]bool, faces)
	great := make([]int, g.Vertices)
	var try func(x int)
	try = func(x int) {
		if x == g.Vertices {
			for f := range can {
				can[f] = can[f] || fits(g, angles, faces, great, f)
			}
			return
		}
		great[x] = -1
		if !isEnd(g, x) {
			try(x + 1)
			return
		}
		for _, a := range angles {
			if a.Vertex == x {
				great[x] = a.Half
				try(x + 1)
			}
		}
	}
	try(0)
	return where(can)
}

func where(can []bool) []int {
	var list []int
	for i, c := range can {
		if c {
			list = append(list, i)
		}
	}
	return list
}

// outersByFlow gives them by flows: from the first node to each source and sink, on to faces, and to the last node, from a face as much as it has great angles.
func outersByFlow(g api.Graph, angles []angle.Angle, faces int) []int {
	can := make([]bool, faces)
	for f := range can {
		nodes := g.Vertices + faces + 2
		room := make([][]int, nodes)
		for i := range room {
			room[i] = make([]int, nodes)
		}
		want := 0
		for x := range g.Vertices {
			if isEnd(g, x) {
				room[0][1+x] = 1
				want++
			}
		}
		for face := range faces {
			room[1+g.Vertices+face][nodes-1] = -1
		}
		room[1+g.Vertices+f][nodes-1] = 1
		for _, a := range angles {
			room[1+a.Vertex][1+g.Vertices+a.Face] = 1
			if a.Kind == 2 {
				room[1+g.Vertices+a.Face][nodes-1]++
			}
		}
		total := 0
		for face := range faces {
			total += room[1+g.Vertices+face][nodes-1]
		}
		can[f] = total == want && flow(room) == want
	}
	return where(can)
}

// flow gives how much flows from the first node to the last one.
func flow(room [][]int) int {
	total := 0
	for {
		from := make([]int, len(room))
		for i := range from {
			from[i] = -1
		}
		next := []int{0}
		for len(next) > 0 && from[len(room)-1] < 0 {
			at := next[0]
			next = next[1:]
			for to, n := range room[at] {
				if n > 0 && to != 0 && from[to] < 0 {
					from[to] = at
					next = append(next, to)
				}
			}
		}
		if from[len(room)-1] < 0 {
			return total
		}
		for at := len(room) - 1; at != 0; at = from[at] {
			room[from[at]][at]--
			room[at][from[at]]++
		}
		total++
	}
}

// hold holds all three calls against the words, and gives whether great angles fit.
func hold(t *testing.T, g api.Graph, r rotation.Rotation, outers func(api.Graph, []angle.Angle, int) []int) bool {
	t.Helper()
	if !isSpokenOf(g, r) {
		mustTellNothing(t, g, r)
		return false
	}
	angles := expectAngles(g, r)
	mustHaveAngles(t, g, r, angles...)
	bimodal := expectBimodal(g, angles)
	mustBeBimodal(t, g, r, bimodal)
	if len(g.Edges) == 0 {
		mustAssign(t, g, r, 0, -1)
		return true
	}
	faces := len(rotation.Faces(g, r))
	can := outers(g, angles, faces)
	if !bimodal || len(can) == 0 {
		mustNotFit(t, g, r)
		return false
	}
	outer, great, ok := angle.Assign(g, r)
	if !ok || outer != can[0] || !fits(g, angles, faces, great, outer) {
		t.Errorf("Assign(%v, %v) = %d, %v, %v; %v can be the outer one", g, r, outer, great, ok, can)
	}
	return true
}

// orders gives all orders of a list in which its first one stays the first.
func orders(list []int) [][]int {
	if len(list) < 2 {
		return [][]int{list}
	}
	var all [][]int
	last := list[len(list)-1]
	for _, o := range orders(list[:len(list)-1]) {
		for at := 1; at <= len(o); at++ {
			all = append(all, slices.Insert(slices.Clone(o), at, last))
		}
	}
	return all
}

// eachRotation calls a function with all rotations of a graph, no two of them the same.
func eachRotation(g api.Graph, call func(rotation.Rotation)) {
	r := rising(g)
	var choose func(x int)
	choose = func(x int) {
		if x == len(r) {
			call(r)
			return
		}
		list := r[x]
		for _, o := range orders(list) {
			r[x] = o
			choose(x + 1)
		}
		r[x] = list
	}
	choose(0)
}

// eachUpwards calls a function with all graphs of n vertices that hang together, have no edge twice, and edges to greater vertices alone.
func eachUpwards(n int, call func(api.Graph)) {
	var pairs []api.Edge
	for y := range n {
		for x := range y {
			pairs = append(pairs, api.Edge{Tail: x, Head: y})
		}
	}
	for chosen := range 1 << len(pairs) {
		g := api.Graph{Vertices: n}
		for i, e := range pairs {
			if chosen>>i&1 == 1 {
				g.Edges = append(g.Edges, e)
			}
		}
		if hangsTogether(g) {
			call(g)
		}
	}
}

// P6.1 and P6.2 on all rotations of all lists of at most four edges between at most three vertices: loops, cycles and what is apart too.
func TestAllLists(t *testing.T) {
	for n := 1; n <= 3; n++ {
		var grow func(edges []api.Edge)
		grow = func(edges []api.Edge) {
			g := api.Graph{Vertices: n, Edges: edges}
			eachRotation(g, func(r rotation.Rotation) { hold(t, g, r, outersByTrying) })
			if len(edges) == 4 {
				return
			}
			for k := range n * n {
				grow(append(slices.Clip(edges), api.Edge{Tail: k / n, Head: k % n}))
			}
		}
		grow(nil)
	}
}

// P6.1 and P6.2 on all rotations without handles of all graphs of at most five vertices, but for their vertices' names: some fit, and some don't.
func TestAllSmall(t *testing.T) {
	fit, not := 0, 0
	for n := 1; n <= 5; n++ {
		eachUpwards(n, func(g api.Graph) {
			eachRotation(g, func(r rotation.Rotation) {
				if handles, _ := rotation.Genus(g, r); handles > 0 {
					return
				}
				if hold(t, g, r, outersByTrying) {
					fit++
				} else {
					not++
				}
			})
		})
	}
	if fit == 0 || not == 0 {
		t.Errorf("%d fit, %d don't", fit, not)
	}
}
