package rotation_test

import (
	"math"
	"slices"
	"testing"

	"arbor/api"
	"arbor/rotation"
)

// of makes a graph of its edges' ends, tail and head by turns.
func of(vertices int, ends ...int) api.Graph {
	g := api.Graph{Vertices: vertices}
	for i := 0; i < len(ends); i += 2 {
		g.Edges = append(g.Edges, api.Edge{Tail: ends[i], Head: ends[i+1]})
	}
	return g
}

// many gives a graph with n edges of which all are the same.
func many(vertices, n int, e api.Edge) api.Graph {
	g := api.Graph{Vertices: vertices}
	for range n {
		g.Edges = append(g.Edges, e)
	}
	return g
}

// plain gives the rotation of a graph in which all lists rise; of one that may not be, of what of it can be listed.
func plain(g api.Graph) rotation.Rotation {
	if g.Vertices < 0 || g.Vertices > 1000 {
		return nil
	}
	r := make(rotation.Rotation, g.Vertices)
	for i, e := range g.Edges {
		for k, x := range []int{e.Tail, e.Head} {
			if 0 <= x && x < g.Vertices {
				r[x] = append(r[x], 2*i+k)
			}
		}
	}
	return r
}

// upTo gives the numbers below n.
func upTo(n int) []int {
	var list []int
	for x := range n {
		list = append(list, x)
	}
	return list
}

// alike tells whether two lists of lists are the same, element by element.
func alike(a, b [][]int) bool { return slices.EqualFunc(a, b, slices.Equal[[]int]) }

func copied(lists [][]int) [][]int {
	var all [][]int
	for _, list := range lists {
		all = append(all, slices.Clone(list))
	}
	return all
}

func mustHave(t *testing.T, g api.Graph, r rotation.Rotation, genus int, faces ...[]int) {
	t.Helper()
	if !rotation.Right(g, r) {
		t.Errorf("Right(%v, %v) is false", g, r)
	}
	if got := rotation.Faces(g, r); !alike(got, faces) {
		t.Errorf("Faces(%v, %v) = %v, want %v", g, r, got, faces)
	}
	if n, e := rotation.Genus(g, r); n != genus || e != api.OK {
		t.Errorf("Genus(%v, %v) = %d, %v, want %d", g, r, n, e, genus)
	}
}

// mustRefuse holds that it is no rotation, and that nothing else is told of it.
func mustRefuse(t *testing.T, g api.Graph, r rotation.Rotation) {
	t.Helper()
	if rotation.Right(g, r) {
		t.Errorf("Right(%v, %v) is true", g, r)
	}
	if got := rotation.Faces(g, r); len(got) != 0 {
		t.Errorf("Faces(%v, %v) = %v", g, r, got)
	}
	if n, e := rotation.Genus(g, r); n != 0 || e != api.ErrArg {
		t.Errorf("Genus(%v, %v) = %d, %v", g, r, n, e)
	}
}

// P5.1 and P5.2: the chapter's example, and other small graphs whose faces can be seen.
func TestSmall(t *testing.T) {
	mustHave(t, of(2, 0, 1), rotation.Rotation{{0}, {1}}, 0, []int{0, 1})
	mustHave(t, of(2, 1, 0), rotation.Rotation{{1}, {0}}, 0, []int{0, 1})
	// A way of two edges, and a star: one face around them.
	mustHave(t, of(3, 0, 1, 1, 2), rotation.Rotation{{0}, {2, 1}, {3}}, 0, []int{0, 2, 3, 1})
	mustHave(t, of(4, 0, 1, 0, 2, 0, 3), rotation.Rotation{{4, 2, 0}, {1}, {3}, {5}}, 0, []int{0, 1, 4, 5, 2, 3})
	// A triangle has an inner and an outer face.
	mustHave(t, of(3, 0, 1, 1, 2, 2, 0), rotation.Rotation{{0, 5}, {1, 2}, {4, 3}}, 0, []int{0, 2, 4}, []int{1, 5, 3})
	// A least half edge that isn't the first of its vertex's list, nor its edge's first.
	mustHave(t, of(2, 0, 1, 1, 0), rotation.Rotation{{3, 0}, {2, 1}}, 0, []int{0, 2}, []int{1, 3})
}

// P5.1 and P5.2: vertices without edges have an empty list, and no half edge around them.
func TestAlone(t *testing.T) {
	mustHave(t, of(1), rotation.Rotation{nil}, 0)
	mustHave(t, of(1), rotation.Rotation{{}}, 0)
	mustHave(t, of(64), make(rotation.Rotation, 64), 0)
	mustHave(t, of(4, 3, 1), rotation.Rotation{nil, {1}, {}, {0}}, 0, []int{0, 1})
}

// P5.1 and P5.2: several parts, each with faces of its own.
func TestParts(t *testing.T) {
	mustHave(t, of(5, 3, 4, 1, 0), rotation.Rotation{{3}, {2}, nil, {0}, {1}}, 0, []int{0, 1}, []int{2, 3})
	mustHave(t, of(6, 0, 1, 0, 1, 0, 1, 2, 3, 2, 3, 2, 3), rotation.Rotation{{0, 2, 4}, {1, 3, 5}, {6, 8, 10}, {7, 9, 11}, nil, nil}, 2, []int{0, 3, 4, 1, 2, 5}, []int{6, 9, 10, 7, 8, 11})
}

// P5.1 and P5.2: loops and edges that are there twice may be.
func TestLoops(t *testing.T) {
	mustHave(t, of(1, 0, 0), rotation.Rotation{{0, 1}}, 0, []int{0}, []int{1})
	mustHave(t, of(1, 0, 0), rotation.Rotation{{1, 0}}, 0, []int{0}, []int{1})
	mustHave(t, of(1, 0, 0, 0, 0), rotation.Rotation{{0, 1, 2, 3}}, 0, []int{0, 2}, []int{1}, []int{3})
	mustHave(t, of(1, 0, 0, 0, 0), rotation.Rotation{{0, 2, 1, 3}}, 1, []int{0, 3, 1, 2})
	mustHave(t, of(2, 0, 1, 0, 1), rotation.Rotation{{0, 2}, {1, 3}}, 0, []int{0, 3}, []int{1, 2})
}

// P5.1 and P5.2 at the limits: 128 edges, all in one bundle, or all loops.
func TestLimits(t *testing.T) {
	bundle := many(64, 128, api.Edge{Tail: 0, Head: 63})
	r := plain(bundle)
	slices.Reverse(r[63])
	faces := [][]int{{0, 255}}
	for h := 1; h < 255; h += 2 {
		faces = append(faces, []int{h, h + 1})
	}
	mustHave(t, bundle, r, 0, faces...)
	loops := many(64, 128, api.Edge{Tail: 7, Head: 7})
	apart := make(rotation.Rotation, 64)
	apart[7] = upTo(256)
	if n, e := rotation.Genus(loops, apart); n != 0 || e != api.OK || len(rotation.Faces(loops, apart)) != 129 {
		t.Errorf("loops side by side: %d, %v", n, e)
	}
	// By twos they cross, a handle for each two.
	for i := 0; i < 256; i += 4 {
		apart[7][i+1], apart[7][i+2] = i+2, i+1
	}
	if n, e := rotation.Genus(loops, apart); n != 64 || e != api.OK || len(rotation.Faces(loops, apart)) != 1 {
		t.Errorf("loops that cross: %d, %v", n, e)
	}
}

// P5.1 and P5.2: what isn't a rotation.
func TestWrong(t *testing.T) {
	g := of(3, 0, 1, 2, 1)
	mustHave(t, g, rotation.Rotation{{0}, {1, 3}, {2}}, 0, []int{0, 3, 2, 1})
	for _, r := range []rotation.Rotation{
		nil,
		{},
		{nil, nil, nil},
		{{0}, {1, 3}},                  // a list is missing
		{{0}, {1, 3}, {2}, nil},        // one too many
		{{0}, {1}, {2}},                // a half edge is missing
		{{0}, {1, 3}, nil},             // the same
		{{0}, {1, 3, 1}, {2}},          // one is there twice
		{{0, 0}, {1, 3}, {2}},          // the same
		{{0}, {1, 1}, {2}},             // twice, in place of another one
		{{0}, {1, 2}, {3}},             // at the wrong vertex
		{{1}, {0, 3}, {2}},             // at the wrong end
		{{0}, {1, 3, 2}, {2}},          // at its vertex, and at another one
		{{0}, {1, 3}, {2, 4}},          // no edge has it
		{{0}, {1, 3}, {2, -1}},         // the same
		{{0}, {1, 4}, {2}},             // the same, in place of another one
		{{0}, {1, -1}, {2}},            // the same
		{{math.MinInt}, {1, 3}, {2}},   // the same
		{{0}, {1, 3}, {math.MaxInt}},   // the same
		{{0}, {1, 3}, {2 + 1<<32}},     // the same
		{upTo(4), upTo(4), upTo(4)},    // all at each
		{{0}, upTo(100000), upTo(300)}, // longer than any may be
	} {
		mustRefuse(t, g, r)
	}
	mustRefuse(t, of(1), nil)
	mustRefuse(t, of(1), rotation.Rotation{nil, nil})
	mustRefuse(t, of(1), rotation.Rotation{{0}})
	mustRefuse(t, of(1, 0, 0), rotation.Rotation{{0}})
	mustRefuse(t, of(1, 0, 0), rotation.Rotation{{0, 0}})
}

// P5.1 and P5.2: a graph that may not be has no rotation.
func TestNotOnes(t *testing.T) {
	for _, g := range []api.Graph{
		{},
		of(-1),
		of(math.MinInt),
		of(65),
		of(math.MaxInt),
		of(0, 0, 0),
		of(2, 0, 2),
		of(2, 2, 0),
		of(2, -1, 0),
		of(2, 0, 1, 1, math.MaxInt),
		many(64, 129, api.Edge{Tail: 0, Head: 63}),
	} {
		mustRefuse(t, g, plain(g))
		mustRefuse(t, g, nil)
		mustRefuse(t, g, rotation.Rotation{{0}, {1}})
	}
}

// P5.3: each list the other way round, whatever it lists.
func TestMirror(t *testing.T) {
	for _, pair := range [][2]rotation.Rotation{
		{nil, nil},
		{{}, nil},
		{{nil, {}}, {nil, nil}},
		{{{0, 2, 4}, {1}, nil, {5, 3}}, {{4, 2, 0}, {1}, nil, {3, 5}}},
		{{{7, 7, -1, math.MaxInt}}, {{math.MaxInt, -1, 7, 7}}},
	} {
		if got := rotation.Mirror(pair[0]); !alike(got, pair[1]) {
			t.Errorf("Mirror(%v) = %v", pair[0], got)
		}
		if got := rotation.Mirror(rotation.Mirror(pair[0])); !alike(got, pair[0]) {
			t.Errorf("mirrored twice, %v is %v", pair[0], got)
		}
	}
}

// P5.3: lists that are one, begun elsewhere.
func TestSame(t *testing.T) {
	for _, pair := range [][2]rotation.Rotation{
		{nil, nil},
		{nil, {}},
		{{nil}, {{}}},
		{{{5}}, {{5}}},
		{{{0, 1, 2, 3}}, {{0, 1, 2, 3}}},
		{{{0, 1, 2, 3}}, {{1, 2, 3, 0}}},
		{{{0, 1, 2, 3}}, {{2, 3, 0, 1}}},
		{{{0, 1, 2, 3}}, {{3, 0, 1, 2}}},
		{{{0, 1}, nil, {2, 3, 4}}, {{1, 0}, {}, {4, 2, 3}}},
		{{{7, 7, 8, 7, 7, 9}}, {{7, 7, 9, 7, 7, 8}}}, // begun at another one of the 7s
		{{{-1, math.MaxInt}}, {{math.MaxInt, -1}}},
	} {
		if !rotation.Same(pair[0], pair[1]) || !rotation.Same(pair[1], pair[0]) {
			t.Errorf("%v and %v are not the same", pair[0], pair[1])
		}
	}
}

// P5.3: lists that differ by more than where they begin.
func TestNotSame(t *testing.T) {
	for _, pair := range [][2]rotation.Rotation{
		{nil, {nil}},
		{{nil}, {nil, nil}},
		{{{0}}, {nil}},
		{{{0}}, {{1}}},
		{{{0}}, {{0, 0}}},
		{{{0, 1, 2}}, {{0, 2, 1}}},
		{{{0, 1, 2}}, {{2, 1, 0}}},
		{{{0, 1, 2}}, {{0, 1}}},
		{{{0, 1, 2}}, {{0, 1, 2, 0, 1, 2}}},
		{{{0, 1, 2}}, {{0, 1, 2}, {}}},
		{{{0, 1}, {2, 3}}, {{2, 3}, {0, 1}}},
		{{{0, 1}, {2, 3, 4}}, {{0, 1}, {2, 4, 3}}},
		{{{0, 1, 2}, {3, 4}}, {{0, 2, 1}, {3, 4}}},
		{{{7, 7, 8, 8}}, {{7, 8, 7, 8}}},
	} {
		if rotation.Same(pair[0], pair[1]) || rotation.Same(pair[1], pair[0]) {
			t.Errorf("%v and %v are the same", pair[0], pair[1])
		}
	}
}

// P2 with rule 4: nothing that is handed in is changed or kept, no two lists that are answered share memory, and what was answered changes no later answer.
func TestKeepsToItself(t *testing.T) {
	g := of(4, 0, 1, 1, 2, 2, 0, 1, 3)
	r := rotation.Rotation{{5, 0}, {2, 1, 6}, {4, 3}, {7}}
	edges, lists := slices.Clone(g.Edges), copied(r)
	wantFaces, wantMirror := copied(rotation.Faces(g, r)), copied(rotation.Mirror(r))
	for range 3 {
		for _, answer := range [][][]int{rotation.Faces(g, r), rotation.Mirror(r)} {
			before := copied(answer)
			for i, list := range answer {
				answer[i] = append(list, 77)
				if i+1 < len(answer) && !slices.Equal(answer[i+1], before[i+1]) {
					t.Error("lists of one answer share memory")
				}
				for k := range list {
					list[k] = 77
				}
			}
		}
		if n, e := rotation.Genus(g, r); n != 0 || e != api.OK || !rotation.Right(g, r) || !rotation.Same(r, lists) || rotation.Same(r, rotation.Mirror(r)) {
			t.Error("what was asked once is answered otherwise later")
		}
		if !alike(rotation.Faces(g, r), wantFaces) || !alike(rotation.Mirror(r), wantMirror) {
			t.Error("what was answered once is answered otherwise later")
		}
		if !slices.Equal(g.Edges, edges) || !alike(r, lists) {
			t.Error("what was handed in is changed")
		}
	}
}
