package angle_test

import (
	"math"
	"slices"
	"testing"

	"arbor/angle"
	"arbor/api"
	"arbor/rotation"
)

// of makes a graph of its edges' ends, tail and head by turns.
func of(vertices int, ends ...int) api.Graph {
	g := api.Graph{Vertices: vertices}
	for i := 0; i < len(ends); i += 2 {
		g.Edges = append(g.Edges, api.Edge{Tail: ends[i], Head: ends[i+1]})
	}
	return g
}

// many gives a graph with n edges of which all are the same.
func many(vertices, n int, e api.Edge) api.Graph {
	g := api.Graph{Vertices: vertices}
	for range n {
		g.Edges = append(g.Edges, e)
	}
	return g
}

// rising gives the rotation of a graph in which all lists rise; of one that may not be, of what of it can be listed.
func rising(g api.Graph) rotation.Rotation {
	if g.Vertices < 0 || g.Vertices > 1000 {
		return nil
	}
	r := make(rotation.Rotation, g.Vertices)
	for i, e := range g.Edges {
		for k, x := range []int{e.Tail, e.Head} {
			if 0 <= x && x < g.Vertices {
				r[x] = append(r[x], 2*i+k)
			}
		}
	}
	return r
}

func mustHaveAngles(t *testing.T, g api.Graph, r rotation.Rotation, want ...angle.Angle) {
	t.Helper()
	if got := angle.Angles(g, r); !slices.Equal(got, want) {
		t.Errorf("Angles(%v, %v) = %v, want %v", g, r, got, want)
	}
}

func mustBeBimodal(t *testing.T, g api.Graph, r rotation.Rotation, want bool) {
	t.Helper()
	if got := angle.Bimodal(g, r); got != want {
		t.Errorf("Bimodal(%v, %v) = %v", g, r, got)
	}
}

func mustAssign(t *testing.T, g api.Graph, r rotation.Rotation, wantOuter int, wantGreat ...int) {
	t.Helper()
	mustBeBimodal(t, g, r, true)
	outer, great, ok := angle.Assign(g, r)
	if outer != wantOuter || !slices.Equal(great, wantGreat) || !ok {
		t.Errorf("Assign(%v, %v) = %d, %v, %v, want %d, %v", g, r, outer, great, ok, wantOuter, wantGreat)
	}
}

// mustNotFit holds that no great angles fit.
func mustNotFit(t *testing.T, g api.Graph, r rotation.Rotation) {
	t.Helper()
	if outer, great, ok := angle.Assign(g, r); outer != 0 || len(great) != 0 || ok {
		t.Errorf("Assign(%v, %v) = %d, %v, %v", g, r, outer, great, ok)
	}
}

// mustTellNothing holds that they aren't such as the chapter speaks of.
func mustTellNothing(t *testing.T, g api.Graph, r rotation.Rotation) {
	t.Helper()
	mustBeBimodal(t, g, r, false)
	mustHaveAngles(t, g, r)
	mustNotFit(t, g, r)
}

// The kinds have the numbers that the chapter gives them.
func TestKinds(t *testing.T) {
	if angle.Plain != 0 || angle.Low != 1 || angle.High != 2 {
		t.Errorf("Plain %d, Low %d, High %d", angle.Plain, angle.Low, angle.High)
	}
}

// P6.1 and P6.2: the chapter's example; a half edge that is the only one of its vertex makes an angle with itself.
func TestEdgeAlone(t *testing.T) {
	g, r := of(2, 0, 1), rotation.Rotation{{0}, {1}}
	mustHaveAngles(t, g, r, angle.Angle{Half: 0, Kind: angle.Low}, angle.Angle{Half: 1, Vertex: 1, Kind: angle.High})
	mustAssign(t, g, r, 0, 0, 1)
	g, r = of(2, 1, 0), rotation.Rotation{{1}, {0}}
	mustHaveAngles(t, g, r, angle.Angle{Half: 0, Vertex: 1, Kind: angle.Low}, angle.Angle{Half: 1, Kind: angle.High})
	mustAssign(t, g, r, 0, 1, 0)
}

// P6.2: a graph without edges.
func TestVertexAlone(t *testing.T) {
	for _, r := range []rotation.Rotation{{nil}, {{}}} {
		mustHaveAngles(t, of(1), r)
		mustAssign(t, of(1), r, 0, -1)
	}
	mustTellNothing(t, of(1), nil)
	mustTellNothing(t, of(1), rotation.Rotation{nil, nil})
	mustTellNothing(t, of(1), rotation.Rotation{{0}})
}

// P6.1 and P6.2: a way of two edges, whose middle has no great angle; and two edges that end, or begin, at one vertex.
func TestTwoEdges(t *testing.T) {
	r := rotation.Rotation{{0}, {1, 2}, {3}}
	way := of(3, 0, 1, 1, 2)
	mustHaveAngles(t, way, r,
		angle.Angle{Half: 0, Vertex: 0, Kind: angle.Low},
		angle.Angle{Half: 1, Vertex: 1, Kind: angle.Plain},
		angle.Angle{Half: 2, Vertex: 1, Kind: angle.Plain},
		angle.Angle{Half: 3, Vertex: 2, Kind: angle.High})
	mustAssign(t, way, r, 0, 0, -1, 3)
	// Here one of the middle's two angles is great, whichever.
	for _, g := range []api.Graph{of(3, 0, 1, 2, 1), of(3, 1, 0, 1, 2)} {
		outer, great, ok := angle.Assign(g, rising(g))
		if outer != 0 || !ok || len(great) != 3 || great[1]/2 > 1 || great[1] < 0 {
			t.Errorf("Assign(%v) = %d, %v, %v", g, outer, great, ok)
		}
	}
}

// P6.1: the face of an angle is that of the other half edge of its half edge, and where a list begins doesn't matter.
func TestTriangle(t *testing.T) {
	g := of(3, 1, 2, 0, 2, 0, 1)
	for _, r := range []rotation.Rotation{{{2, 4}, {0, 5}, {3, 1}}, {{4, 2}, {5, 0}, {1, 3}}} {
		// The faces: 0, 3, 4 around one side; 1, 5, 2 around the other one.
		mustHaveAngles(t, g, r,
			angle.Angle{Half: 0, Vertex: 1, Face: 1, Kind: angle.Plain},
			angle.Angle{Half: 1, Vertex: 2, Face: 0, Kind: angle.High},
			angle.Angle{Half: 2, Vertex: 0, Face: 0, Kind: angle.Low},
			angle.Angle{Half: 3, Vertex: 2, Face: 1, Kind: angle.High},
			angle.Angle{Half: 4, Vertex: 0, Face: 1, Kind: angle.Low},
			angle.Angle{Half: 5, Vertex: 1, Face: 0, Kind: angle.Plain})
		mustAssign(t, g, r, 0, 2, -1, 1)
	}
}

// P6.1 and P6.2: edges that are there twice may be.
func TestTwice(t *testing.T) {
	g, r := of(2, 0, 1, 0, 1), rotation.Rotation{{0, 2}, {1, 3}}
	mustHaveAngles(t, g, r,
		angle.Angle{Half: 0, Vertex: 0, Face: 1, Kind: angle.Low},
		angle.Angle{Half: 1, Vertex: 1, Face: 0, Kind: angle.High},
		angle.Angle{Half: 2, Vertex: 0, Face: 0, Kind: angle.Low},
		angle.Angle{Half: 3, Vertex: 1, Face: 1, Kind: angle.High})
	mustAssign(t, g, r, 0, 2, 1)
}

// P6.1: edges to and from a vertex, by turns and side by side; more than two Plain angles are four at least.
func TestBimodal(t *testing.T) {
	g := of(7, 0, 6, 1, 6, 2, 6, 6, 3, 6, 4, 6, 5)
	for _, c := range []struct {
		around []int
		want   bool
	}{
		{[]int{1, 3, 5, 6, 8, 10}, true},
		{[]int{3, 5, 6, 8, 10, 1}, true},
		{[]int{10, 5, 1, 3, 8, 6}, true},
		{[]int{1, 3, 6, 8, 5, 10}, false},
		{[]int{1, 3, 6, 5, 8, 10}, false},
		{[]int{1, 6, 3, 8, 5, 10}, false},
	} {
		r := rotation.Rotation{{0}, {2}, {4}, {7}, {9}, {11}, c.around}
		mustBeBimodal(t, g, r, c.want)
		if n := len(angle.Angles(g, r)); n != 12 {
			t.Errorf("%d angles of %v", n, r)
		}
		if _, _, ok := angle.Assign(g, r); ok != c.want {
			t.Errorf("Assign of %v: %v", r, ok)
		}
	}
	// Two edges to a vertex or from it are side by side however they stand.
	mustBeBimodal(t, of(4, 0, 3, 1, 3, 3, 2), rotation.Rotation{{0}, {2}, {5}, {1, 4, 3}}, true)
}

// P6.2 and P6.3: each vertex of it is bimodal whatever stands around it, and yet it can't be drawn upwards (the document's sixth example).
func TestDoesNotFit(t *testing.T) {
	g := of(6, 0, 1, 0, 2, 1, 3, 2, 3, 1, 4, 2, 4, 3, 5, 4, 5)
	laid := 0
	eachRotation(g, func(r rotation.Rotation) {
		if handles, _ := rotation.Genus(g, r); handles > 0 {
			mustTellNothing(t, g, r)
			return
		}
		laid++
		mustBeBimodal(t, g, r, true)
		if n := len(angle.Angles(g, r)); n != 16 {
			t.Errorf("%d angles of %v", n, r)
		}
		mustNotFit(t, g, r)
	})
	if laid == 0 {
		t.Error("it is laid nowhere")
	}
}

// P6.2: the outer face is the least one that can be, also where the face 0 can't be it.
func TestLeastOuter(t *testing.T) {
	// An edge from 3 to the least vertex of a triangle is on its outer side.
	g := of(4, 0, 1, 1, 2, 0, 2, 3, 0)
	for outer, around := range [][]int{{0, 4, 7}, {0, 7, 4}} {
		r := rotation.Rotation{around, {1, 2}, {3, 5}, {6}}
		if got := rotation.Faces(g, r); !slices.Contains(got[outer], 6) {
			t.Errorf("faces %v", got)
		}
		mustAssign(t, g, r, outer, -1, -1, 3+2*outer, 6)
	}
}

// P6.1 and P6.2 of what the chapter does not speak of: loops, cycles, what doesn't hang together, handles, what is no rotation.
func TestNothing(t *testing.T) {
	for _, g := range []api.Graph{
		of(1, 0, 0),
		of(2, 0, 1, 1, 1),
		of(2, 0, 0, 0, 1),
		of(2, 0, 1, 1, 0),
		of(3, 0, 1, 1, 2, 2, 0),
		of(4, 0, 1, 1, 2, 2, 3, 3, 1),
		of(2),
		of(3, 0, 1),
		of(4, 0, 1, 2, 3),
		of(64, 0, 63),
	} {
		r := rising(g)
		if handles, e := rotation.Genus(g, r); handles != 0 || e != api.OK {
			t.Errorf("%v has %d handles, %v", g, handles, e)
		}
		mustTellNothing(t, g, r)
	}
	// Three edges side by side, around both ends in one order: a handle.
	bundle := many(2, 3, api.Edge{Tail: 0, Head: 1})
	mustTellNothing(t, bundle, rotation.Rotation{{0, 2, 4}, {1, 3, 5}})
	mustBeBimodal(t, bundle, rotation.Rotation{{0, 2, 4}, {1, 5, 3}}, true)
	g := of(3, 0, 1, 2, 1)
	mustBeBimodal(t, g, rotation.Rotation{{0}, {1, 3}, {2}}, true)
	for _, r := range []rotation.Rotation{
		nil,
		{},
		{nil, nil, nil},
		{{0}, {1, 3}},
		{{0}, {1, 3}, {2}, nil},
		{{0}, {1}, {2}},
		{{0}, {1, 3, 1}, {2}},
		{{0}, {1, 1}, {2}},
		{{1}, {0, 3}, {2}},
		{{0}, {1, 3}, {2, 4}},
		{{0}, {1, -1}, {2}},
		{{math.MinInt}, {1, 3}, {math.MaxInt}},
	} {
		mustTellNothing(t, g, r)
	}
}

// P6.1 and P6.2: a graph that may not be has no rotation.
func TestNotOnes(t *testing.T) {
	for _, g := range []api.Graph{
		{},
		of(-1),
		of(math.MinInt),
		of(65),
		of(math.MaxInt),
		of(0, 0, 0),
		of(2, 0, 2),
		of(2, 2, 0),
		of(2, -1, 0),
		of(2, 0, 1, 1, math.MaxInt),
		many(64, 129, api.Edge{Tail: 0, Head: 63}),
	} {
		mustTellNothing(t, g, rising(g))
		mustTellNothing(t, g, nil)
		mustTellNothing(t, g, rotation.Rotation{{0}, {1}})
	}
}

// P6.1 and P6.2 at the limits: a way along 64 vertices whose last two have 66 edges between them, 128 in all.
func TestLimits(t *testing.T) {
	g := api.Graph{Vertices: api.MaxVertices}
	for x := range api.MaxVertices - 1 {
		g.Edges = append(g.Edges, api.Edge{Tail: x, Head: x + 1})
	}
	for len(g.Edges) < api.MaxEdges {
		g.Edges = append(g.Edges, api.Edge{Tail: 62, Head: 63})
	}
	r := rising(g)
	slices.Reverse(r[63])
	mustBeBimodal(t, g, r, true)
	if n := len(angle.Angles(g, r)); n != 2*api.MaxEdges {
		t.Errorf("%d angles", n)
	}
	outer, great, ok := angle.Assign(g, r)
	if outer != 0 || !ok || len(great) != api.MaxVertices || great[0] != 0 {
		t.Errorf("%d, %v, %v", outer, great, ok)
	}
}

// Rule 4 and P2: what is handed in stays as it is, what is answered is new memory, and answers stay the same.
func TestKeepsToItself(t *testing.T) {
	g := of(5, 0, 1, 0, 2, 1, 3, 2, 3, 4, 3)
	r := rotation.Rotation{{0, 2}, {1, 4}, {3, 6}, {7, 9, 5}, {8}}
	edges := slices.Clone(g.Edges)
	var lists rotation.Rotation
	for _, list := range r {
		lists = append(lists, slices.Clone(list))
	}
	wantAngles := slices.Clone(angle.Angles(g, r))
	wantOuter, first, ok := angle.Assign(g, r)
	wantGreat := slices.Clone(first)
	if !ok {
		t.Fatal("no great angles fit")
	}
	for range 3 {
		angles := angle.Angles(g, r)
		outer, great, ok := angle.Assign(g, r)
		if !slices.Equal(angles, wantAngles) || outer != wantOuter || !slices.Equal(great, wantGreat) || !ok || !angle.Bimodal(g, r) {
			t.Error("what was answered once is answered otherwise later")
		}
		for i := range angles {
			angles[i] = angle.Angle{Half: 77, Vertex: 77, Face: 77, Kind: 77}
		}
		for i := range great {
			great[i] = 77
		}
		if !slices.Equal(g.Edges, edges) || !slices.EqualFunc(r, lists, slices.Equal[[]int]) {
			t.Error("what was handed in is changed")
		}
	}
}
