package front_test

import (
	"math"
	"slices"
	"testing"

	"arbor/api"
	"arbor/front"
)

// of makes a graph of its edges' ends, tail and head by turns.
func of(vertices int, ends ...int) api.Graph {
	g := api.Graph{Vertices: vertices}
	for i := 0; i < len(ends); i += 2 {
		g.Edges = append(g.Edges, api.Edge{Tail: ends[i], Head: ends[i+1]})
	}
	return g
}

// items makes items of their three numbers.
func items(numbers ...int) []api.Item {
	var list []api.Item
	for i := 0; i < len(numbers); i += 3 {
		list = append(list, api.Item{Edge: numbers[i], Tail: numbers[i+1], Head: numbers[i+2]})
	}
	return list
}

// mustStart gives the front of a good graph.
func mustStart(t *testing.T, g api.Graph) *front.Front {
	t.Helper()
	f, e := front.New(g)
	if e != api.OK || f == nil {
		t.Fatalf("New(%v): error %d", g, e)
	}
	return f
}

// mustPlace places a vertex that is ready, and holds what ends at it against what is wanted.
func mustPlace(t *testing.T, f *front.Front, x int, outs []int, want ...int) {
	t.Helper()
	kept := slices.Clone(outs)
	ends, e := f.Place(x, outs...)
	if e != api.OK || !slices.Equal(ends, items(want...)) {
		t.Fatalf("Place(%d, %v) = %v, error %d, want %v", x, outs, ends, e, items(want...))
	}
	if !slices.Equal(outs, kept) {
		t.Fatalf("%v became %v", kept, outs)
	}
}

// mustStand holds what a front tells against what is wanted; twice, as telling changes nothing.
func mustStand(t *testing.T, f *front.Front, row []api.Item, placed, ready []int, done bool) {
	t.Helper()
	for range 2 {
		if got := f.Row(); !slices.Equal(got, row) {
			t.Fatalf("the row is %v, want %v", got, row)
		}
		if got := f.Placed(); !slices.Equal(got, placed) {
			t.Fatalf("placed are %v, want %v", got, placed)
		}
		if got := f.Ready(); !slices.Equal(got, ready) {
			t.Fatalf("ready are %v, want %v", got, ready)
		}
		if f.Done() != done {
			t.Fatalf("Done is %v", !done)
		}
	}
}

// mustRefuse holds Place against an error, beside which nothing is told, and after which all is as it was.
func mustRefuse(t *testing.T, f *front.Front, want api.Errno, x int, outs ...int) {
	t.Helper()
	row, placed, ready, done, tangled := f.Row(), f.Placed(), f.Ready(), f.Done(), f.Tangled()
	kept := slices.Clone(outs)
	if ends, e := f.Place(x, outs...); e != want || len(ends) != 0 {
		t.Fatalf("Place(%d, %v) = %v, error %d, want error %d", x, outs, ends, e, want)
	}
	mustStand(t, f, row, placed, ready, done)
	if f.Tangled() != tangled {
		t.Fatalf("Tangled became %v", !tangled)
	}
	if !slices.Equal(outs, kept) {
		t.Fatalf("%v became %v", kept, outs)
	}
}

// P9.1: graphs that aren't good have no front.
func TestNotGood(t *testing.T) {
	many := of(2)
	for range api.MaxEdges + 1 {
		many.Edges = append(many.Edges, api.Edge{Tail: 0, Head: 1})
	}
	for _, g := range []api.Graph{
		{}, of(-1), of(math.MinInt), of(65), of(math.MaxInt), of(0, 0, 0), of(1, 0, 1), of(2, 0, 2), of(2, 2, 0), of(2, -1, 1), of(2, 0, math.MinInt), many,
		of(1, 0, 0), of(2, 0, 1, 1, 1), // loops
		of(2, 0, 1, 0, 1), of(3, 0, 1, 1, 2, 0, 1), // twice
		of(2, 0, 1, 1, 0), of(4, 0, 1, 1, 2, 2, 3, 3, 1), // cycles
		of(2), of(3, 0, 2, 1, 2), of(4, 0, 1, 2, 3), // more than one source
	} {
		if f, e := front.New(g); e != api.ErrArg || f != nil {
			t.Errorf("New(%v) = %v, error %d", g, f, e)
		}
	}
}

// P9.1 and P9.2: of a lone vertex the row at the end is its loose end.
func TestLoneVertex(t *testing.T) {
	f := mustStart(t, of(1))
	mustStand(t, f, nil, nil, []int{0}, false)
	mustRefuse(t, f, api.ErrArg, 0, 0)
	mustRefuse(t, f, api.ErrNone, 1)
	mustPlace(t, f, 0, nil)
	mustStand(t, f, items(-1, 0, -1), []int{0}, nil, true)
	mustRefuse(t, f, api.ErrNone, 0)
}

// P9.1 and P9.2: the chapter's example, with the source not called 0, and either order of its edges.
func TestTriangle(t *testing.T) {
	g := of(3, 0, 1, 2, 1, 2, 0)
	f := mustStart(t, g)
	mustStand(t, f, nil, nil, []int{2}, false)
	mustPlace(t, f, 2, []int{1, 2})
	mustStand(t, f, items(1, 2, 1, 2, 2, 0), []int{2}, []int{0}, false)
	mustPlace(t, f, 0, []int{0}, 2, 2, 0)
	mustStand(t, f, items(1, 2, 1, 0, 0, 1), []int{2, 0}, []int{1}, false)
	mustPlace(t, f, 1, nil, 1, 2, 1, 0, 0, 1)
	mustStand(t, f, items(-1, 1, -1), []int{2, 0, 1}, nil, true)
	f = mustStart(t, g)
	mustPlace(t, f, 2, []int{2, 1})
	mustPlace(t, f, 0, []int{0}, 2, 2, 0)
	mustPlace(t, f, 1, []int{}, 0, 0, 1, 1, 2, 1)
	mustStand(t, f, items(-1, 1, -1), []int{2, 0, 1}, nil, true)
}

// P9.1: edges to another vertex keep one from being ready, wherever they come from, and so do edges to it that don't stand in the row yet.
func TestNotReady(t *testing.T) {
	// 0 to 1, 2, 3; from 1 and 3 to 4, from 2 to 5
	g := of(6, 0, 1, 0, 2, 0, 3, 1, 4, 3, 4, 2, 5)
	f := mustStart(t, g)
	mustPlace(t, f, 0, []int{0, 1, 2})
	mustStand(t, f, items(0, 0, 1, 1, 0, 2, 2, 0, 3), []int{0}, []int{1, 2, 3}, false)
	mustPlace(t, f, 1, []int{3}, 0, 0, 1)
	mustStand(t, f, items(3, 1, 4, 1, 0, 2, 2, 0, 3), []int{0, 1}, []int{2, 3}, false) // of 4 one edge lacks
	mustPlace(t, f, 3, []int{4}, 2, 0, 3)
	mustStand(t, f, items(3, 1, 4, 1, 0, 2, 4, 3, 4), []int{0, 1, 3}, []int{2}, false) // between them stands one to 2
	mustRefuse(t, f, api.ErrNone, 4)
	mustPlace(t, f, 2, []int{5}, 1, 0, 2)
	mustStand(t, f, items(3, 1, 4, 5, 2, 5, 4, 3, 4), []int{0, 1, 3, 2}, []int{5}, false) // and now one to 5
	mustRefuse(t, f, api.ErrNone, 4)
	mustPlace(t, f, 5, nil, 5, 2, 5)
	mustStand(t, f, items(3, 1, 4, -1, 5, -1, 4, 3, 4), []int{0, 1, 3, 2, 5}, []int{4}, false)
	mustPlace(t, f, 4, nil, 3, 1, 4, -1, 5, -1, 4, 3, 4)
	mustStand(t, f, items(-1, 4, -1), []int{0, 1, 3, 2, 5, 4}, nil, true)
}

// P9.2: loose ends between the edges to a vertex end at it, those beside them stay; a new one comes where its vertex is.
func TestLooseEnds(t *testing.T) {
	// 0 to 1 .. 6; 1, 3, 4 and 6 are sinks; from 2 and 5 to 7
	g := of(8, 0, 1, 0, 2, 0, 3, 0, 4, 0, 5, 0, 6, 2, 7, 5, 7)
	f := mustStart(t, g)
	mustPlace(t, f, 0, []int{0, 1, 2, 3, 4, 5})
	mustPlace(t, f, 3, nil, 2, 0, 3)
	mustPlace(t, f, 1, nil, 0, 0, 1)
	mustPlace(t, f, 6, nil, 5, 0, 6)
	mustPlace(t, f, 5, []int{7}, 4, 0, 5)
	mustPlace(t, f, 2, []int{6}, 1, 0, 2)
	mustStand(t, f, items(-1, 1, -1, 6, 2, 7, -1, 3, -1, 3, 0, 4, 7, 5, 7, -1, 6, -1), []int{0, 3, 1, 6, 5, 2}, []int{4}, false)
	mustPlace(t, f, 4, nil, 3, 0, 4)
	mustPlace(t, f, 7, nil, 6, 2, 7, -1, 3, -1, -1, 4, -1, 7, 5, 7)
	mustStand(t, f, items(-1, 1, -1, -1, 7, -1, -1, 6, -1), []int{0, 3, 1, 6, 5, 2, 4, 7}, nil, true)
}

// P9.2: that a vertex isn't ready comes ahead of edges that aren't its own, and with either nothing changes.
func TestPlaceWrong(t *testing.T) {
	g := of(5, 0, 1, 0, 2, 0, 3, 1, 4, 2, 4)
	f := mustStart(t, g)
	for _, x := range []int{-1, 1, 4, 5, 64, math.MinInt, math.MaxInt} {
		mustRefuse(t, f, api.ErrNone, x)
		mustRefuse(t, f, api.ErrNone, x, 3)
		mustRefuse(t, f, api.ErrNone, x, -1, 99)
	}
	for _, outs := range [][]int{nil, {0}, {0, 1}, {0, 1, 1}, {0, 1, 3}, {0, 1, 2, 3}, {0, 1, 2, 2}, {2, 1, 0, -1}, {-1, 1, 2}, {0, 1, math.MaxInt}, {math.MinInt, 1, 2}, {3}} {
		mustRefuse(t, f, api.ErrArg, 0, outs...)
	}
	mustPlace(t, f, 0, []int{2, 0, 1})
	mustRefuse(t, f, api.ErrNone, 0, 0, 1, 2) // it is placed
	mustRefuse(t, f, api.ErrNone, 0)
	mustRefuse(t, f, api.ErrNone, 4)
	mustRefuse(t, f, api.ErrArg, 1)
	mustRefuse(t, f, api.ErrArg, 1, 0)
	mustRefuse(t, f, api.ErrArg, 1, 4)
	mustRefuse(t, f, api.ErrArg, 3, 2)
	mustPlace(t, f, 3, nil, 2, 0, 3)
	mustPlace(t, f, 1, []int{3}, 0, 0, 1)
	mustPlace(t, f, 2, []int{4}, 1, 0, 2)
	mustPlace(t, f, 4, nil, 3, 1, 4, 4, 2, 4)
	for x := -1; x < 6; x++ {
		mustRefuse(t, f, api.ErrNone, x)
		mustRefuse(t, f, api.ErrNone, x, 0)
	}
	mustStand(t, f, items(-1, 3, -1, -1, 4, -1), []int{0, 3, 1, 2, 4}, nil, true)
}

// P9.1: a clone and what it was made of go on by themselves, whichever goes first.
func TestClone(t *testing.T) {
	g := of(4, 0, 1, 0, 2, 0, 3, 1, 3)
	f := mustStart(t, g)
	first := f.Clone()
	mustPlace(t, f, 0, []int{0, 2, 1})
	second := f.Clone()
	mustPlace(t, second, 2, nil, 1, 0, 2)
	third := second.Clone()
	mustPlace(t, second, 1, []int{3}, 0, 0, 1)
	mustPlace(t, third, 1, []int{3}, 0, 0, 1)
	mustPlace(t, third, 3, nil, 3, 1, 3, 2, 0, 3)
	mustPlace(t, f, 1, []int{3}, 0, 0, 1)
	mustStand(t, first, nil, nil, []int{0}, false)
	mustStand(t, f, items(3, 1, 3, 2, 0, 3, 1, 0, 2), []int{0, 1}, []int{2, 3}, false)
	mustStand(t, second, items(3, 1, 3, 2, 0, 3, -1, 2, -1), []int{0, 2, 1}, []int{3}, false)
	mustStand(t, third, items(-1, 3, -1, -1, 2, -1), []int{0, 2, 1, 3}, nil, true)
	mustStand(t, third.Clone(), items(-1, 3, -1, -1, 2, -1), []int{0, 2, 1, 3}, nil, true)
	mustPlace(t, first, 0, []int{1, 0, 2})
	mustStand(t, first, items(1, 0, 2, 0, 0, 1, 2, 0, 3), []int{0}, []int{1, 2}, false)
}

// P9.1: the same at each step of a long way.
func TestCloneEachStep(t *testing.T) {
	star := of(40)
	for x := 1; x < 40; x++ {
		star.Edges = append(star.Edges, api.Edge{Tail: 0, Head: x})
	}
	f := mustStart(t, star)
	mustPlace(t, f, 0, upTo(39))
	for x := 1; x < 39; x++ {
		c := f.Clone()
		placed, row := f.Placed(), f.Row()
		mustPlace(t, f, x, nil, x-1, 0, x)
		mustPlace(t, c, 39, nil, 38, 0, 39)
		for k, each := range []*front.Front{f, c} {
			last := []int{x, 39}[k]
			want := slices.Clone(row)
			want[last-1] = api.Item{Edge: -1, Tail: last, Head: -1}
			if got := each.Placed(); !slices.Equal(got, append(slices.Clone(placed), last)) {
				t.Fatalf("placed are %v, want %v and %d", got, placed, last)
			}
			if got := each.Row(); !slices.Equal(got, want) {
				t.Fatalf("the row is %v, want %v", got, want)
			}
		}
	}
}

// P9.1 and P9.2 with rule 4: a front keeps nothing that is handed in, and hands out nothing of its own.
func TestKeepsToItself(t *testing.T) {
	g := of(4, 0, 1, 0, 2, 1, 3, 2, 3)
	kept := slices.Clone(g.Edges)
	f := mustStart(t, g)
	if !slices.Equal(g.Edges, kept) {
		t.Fatalf("the edges %v became %v", kept, g.Edges)
	}
	for i := range g.Edges {
		g.Edges[i] = api.Edge{Tail: 3, Head: 0}
	}
	outs := []int{0, 1}
	mustPlace(t, f, 0, outs)
	outs[0], outs[1] = 7, 7
	spoil := func() {
		for _, list := range [][]int{f.Placed(), f.Ready()} {
			for i := range list {
				list[i] = 77
			}
		}
		row := f.Row()
		for i := range row {
			row[i] = api.Item{Edge: 7, Tail: 7, Head: 7}
		}
		_ = append(f.Row(), api.Item{})
		_ = append(f.Placed(), 77)
	}
	spoil()
	mustStand(t, f, items(0, 0, 1, 1, 0, 2), []int{0}, []int{1, 2}, false)
	old := f.Clone()
	ends, _ := f.Place(2, 3)
	ends[0] = api.Item{Edge: 7, Tail: 7, Head: 7}
	spoil()
	mustStand(t, f, items(0, 0, 1, 3, 2, 3), []int{0, 2}, []int{1}, false)
	mustStand(t, old, items(0, 0, 1, 1, 0, 2), []int{0}, []int{1, 2}, false)
}

// P9.1 and P9.2 with as many vertices as can be: one upon the other, or all upon one.
func TestLimits(t *testing.T) {
	chain := of(64)
	for x := range 63 {
		chain.Edges = append(chain.Edges, api.Edge{Tail: x, Head: x + 1})
	}
	f := mustStart(t, chain)
	for x := range 63 {
		ends := items(x-1, x-1, x)
		if x == 0 {
			ends = nil
		}
		if got, e := f.Place(x, x); e != api.OK || !slices.Equal(got, ends) {
			t.Fatalf("Place(%d) = %v, error %d", x, got, e)
		}
	}
	mustPlace(t, f, 63, nil, 62, 62, 63)
	if !f.Done() {
		t.Error("the chain isn't done")
	}
	star := of(64)
	var outs []int
	for x := range 63 {
		star.Edges = append(star.Edges, api.Edge{Tail: 63, Head: x})
		outs = append(outs, 62-x)
	}
	f = mustStart(t, star)
	mustPlace(t, f, 63, outs)
	var row []api.Item
	for x := range 63 {
		if !slices.Equal(f.Ready(), upTo(63)[x:]) {
			t.Fatalf("ready are %v", f.Ready())
		}
		mustPlace(t, f, x, nil, x, 63, x)
		row = slices.Insert(row, 0, items(-1, x, -1)[0])
	}
	mustStand(t, f, row, slices.Concat([]int{63}, upTo(63)), nil, true)
}

// upTo gives the numbers below n.
func upTo(n int) []int {
	var list []int
	for i := range n {
		list = append(list, i)
	}
	return list
}
