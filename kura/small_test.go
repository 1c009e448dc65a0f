package kura_test

import (
	"math/bits"
	"slices"
	"testing"

	"arbor/api"
	"arbor/kura"
	"arbor/planar"
)

// What follows holds the calls against all edges of the two kinds that there are between six vertices, or seven, put together by the words of the chapter; and against edges of up to the limits, of which the vertices on ways are taken away one by one.

// setOf gives the numbers that a set has, rising.
func setOf(set int) []int {
	var list []int
	for i := range bits.Len(uint(set)) {
		if set>>i&1 == 1 {
			list = append(list, i)
		}
	}
	return list
}

// only gives a graph with some of its edges, in their order there.
func only(g api.Graph, edges []int) api.Graph {
	h := of(g.Vertices)
	for _, i := range edges {
		h.Edges = append(h.Edges, g.Edges[i])
	}
	return h
}

// lay puts the kind of each set of edges into kinds that is made of these ways, with some of the vertices from x on, that are on none, put on them, at all places.
func lay(all api.Graph, kind int, ways [][]int, x int, kinds map[int]int) {
	if x == all.Vertices {
		set := 0
		for _, way := range ways {
			for i, y := range way[1:] {
				e := api.Edge{Tail: min(way[i], y), Head: max(way[i], y)}
				set |= 1 << slices.Index(all.Edges, e)
			}
		}
		kinds[set] = kind
		return
	}
	lay(all, kind, ways, x+1, kinds)
	for k, way := range ways {
		if slices.Contains(slices.Concat(ways...), x) {
			break // a head
		}
		for at := 1; at < len(way); at++ {
			ways[k] = slices.Insert(slices.Clone(way), at, x)
			lay(all, kind, ways, x+1, kinds)
		}
		ways[k] = way
	}
}

// kindsOf gives for each set of edges of the full graph of n vertices that is of a kind which one it is.
func kindsOf(n int) map[int]int {
	kinds := map[int]int{}
	for heads := range 1 << n {
		list := setOf(heads)
		if len(list) == 5 {
			var ways [][]int
			for i, y := range list {
				for _, x := range list[:i] {
					ways = append(ways, []int{x, y})
				}
			}
			lay(full(n), 5, ways, 0, kinds)
		}
		for three := range 1 << len(list) {
			if len(list) != 6 || bits.OnesCount(uint(three)) != 3 {
				continue
			}
			var ways [][]int
			for _, x := range setOf(three) {
				for _, y := range setOf(63 &^ three) {
					ways = append(ways, []int{list[x], list[y]})
				}
			}
			lay(full(n), 33, ways, 0, kinds)
		}
	}
	return kinds
}

// P8.1 by the words of the chapter: on all sets of edges between six vertices, whose numbers of each kind are known.
func TestWhatSix(t *testing.T) {
	kinds := kindsOf(6)
	if len(kinds) != 6+60+10 {
		t.Fatalf("%d sets of edges are of a kind", len(kinds))
	}
	for set := range 1 << 15 {
		mustBe(t, full(6), setOf(set), kinds[set])
	}
}

// P8.1 on all sets of edges between seven vertices that are of a kind, and on those that differ from them by one edge, and some by two.
func TestWhatSeven(t *testing.T) {
	kinds := kindsOf(7)
	if len(kinds) != 21+420+2310+70+630 {
		t.Fatalf("%d sets of edges are of a kind", len(kinds))
	}
	all := full(7)
	for set, kind := range kinds {
		mustBe(t, all, setOf(set), kind)
		for i := range all.Edges {
			mustBe(t, all, setOf(set^1<<i), kinds[set^1<<i])
			for k := i % 4; k < i; k += 4 {
				other := set ^ 1<<i ^ 1<<k
				if got := kura.What(all, setOf(other)); got != kinds[other] {
					t.Fatalf("%v are told to be %d, want %d", setOf(other), got, kinds[other])
				}
			}
		}
	}
}

// strew gives a rule by which numbers below n come, always the same ones.
func strew(state uint64) func(n int) int {
	return func(n int) int {
		state = state*6364136223846793005 + 1442695040888963407
		return int(state >> 33 % uint64(n))
	}
}

// mixed gives the numbers below n in some order.
func mixed(n int, next func(n int) int) []int {
	list := make([]int, n)
	for i := range list {
		k := next(i + 1)
		list[i], list[k] = list[k], i
	}
	return list
}

// shuffled gives a graph with its vertices called anew, its edges in another order, and some of them turned round.
func shuffled(g api.Graph, next func(n int) int) api.Graph {
	names := mixed(g.Vertices, next)
	s := of(g.Vertices)
	for _, i := range mixed(len(g.Edges), next) {
		e := g.Edges[i]
		s.Edges = append(s.Edges, api.Edge{Tail: names[e.Tail], Head: names[e.Head]})
	}
	return turned(s, func(i int) bool { return next(2) == 0 })
}

// leastLeft gives, of the sets of edges of a kind that are all in a graph, the one that is left when the last ones are left out first: the least one as a number whose bits are the graph's edges; 0, if there is none.
func leastLeft(g api.Graph, kinds map[int]int) (least, kind int) {
	all := full(g.Vertices)
	place := make([]int, len(all.Edges)) // where an edge of the full graph is in g
	for k := range place {
		place[k] = -1
	}
	for i, e := range g.Edges {
		place[slices.Index(all.Edges, api.Edge{Tail: min(e.Tail, e.Head), Head: max(e.Tail, e.Head)})] = i
	}
sets:
	for set, what := range kinds {
		moved := 0
		for _, k := range setOf(set) {
			if place[k] < 0 {
				continue sets
			}
			moved |= 1 << place[k]
		}
		if least == 0 || moved < least {
			least, kind = moved, what
		}
	}
	return least, kind
}

// mustLeave holds Find, and whether the graph can be laid at all, against all sets of edges of a kind.
func mustLeave(t *testing.T, g api.Graph, kinds map[int]int) {
	t.Helper()
	least, kind := leastLeft(g, kinds)
	if planar.Is(g) != (least == 0) {
		t.Fatalf("%v: planar.Is tells %v, but %v are of a kind", g, planar.Is(g), setOf(least))
	}
	if least == 0 {
		mustRefuse(t, g, api.ErrNone)
	} else {
		mustFind(t, g, kind, setOf(least)...)
	}
}

// P8.2 and P8.3 on all sets of edges between six vertices, in one order, and in another one.
func TestFindSix(t *testing.T) {
	kinds, next := kindsOf(6), strew(6)
	for set := range 1 << 15 {
		g := only(full(6), setOf(set))
		mustLeave(t, g, kinds)
		if set%5 == 0 {
			mustLeave(t, shuffled(g, next), kinds)
		}
	}
}

// P8.2 and P8.3 on strewn graphs of seven vertices.
func TestFindSeven(t *testing.T) {
	kinds, next := kindsOf(7), strew(7)
	for range 400 {
		g := shuffled(full(7), next)
		g.Edges = g.Edges[:9+next(13)]
		mustLeave(t, g, kinds)
	}
}

// smoothed gives edges with the vertices on ways taken away one by one: where two different edges end at a vertex, one comes in their place.
func smoothed(g api.Graph) api.Graph {
	for x := 0; x < g.Vertices; x++ {
		var at, ends []int
		for i, e := range g.Edges {
			if e.Tail == x {
				at, ends = append(at, i), append(ends, e.Head)
			}
			if e.Head == x {
				at, ends = append(at, i), append(ends, e.Tail)
			}
		}
		if len(at) == 2 && at[0] != at[1] {
			g = with(without(without(g, at[1]), at[0]), ends...)
		}
	}
	return g
}

// kindBySmoothing tells of which kind all edges of a graph are.
func kindBySmoothing(g api.Graph) int {
	g = smoothed(g)
	tied := map[[2]int]bool{}
	var heads []int
	for _, e := range g.Edges {
		tied[[2]int{e.Tail, e.Head}], tied[[2]int{e.Head, e.Tail}] = true, true
		heads = append(heads, e.Tail, e.Head)
	}
	slices.Sort(heads)
	heads = slices.Compact(heads)
	apart := func(side []int) bool {
		for _, x := range side {
			for _, y := range side {
				if tied[[2]int{x, y}] {
					return false
				}
			}
		}
		return true
	}
	loop := slices.ContainsFunc(g.Edges, func(e api.Edge) bool { return e.Tail == e.Head })
	if len(g.Edges) == 10 && len(heads) == 5 && len(tied) == 20 && !loop {
		return 5
	}
	if len(g.Edges) != 9 || len(heads) != 6 || len(tied) != 18 || loop {
		return 0
	}
	for three := range 1 << 6 {
		var sides [2][]int
		for i, x := range heads {
			sides[three>>i&1] = append(sides[three>>i&1], x)
		}
		if len(sides[0]) == 3 && apart(sides[0]) && apart(sides[1]) {
			return 33
		}
	}
	return 0
}

// spoilt gives a graph in which one thing is other than it was.
func spoilt(g api.Graph, next func(n int) int) api.Graph {
	g = with(g)
	i := next(len(g.Edges))
	switch next(6) {
	case 0:
		return without(g, i)
	case 1:
		return with(g, next(g.Vertices), next(g.Vertices))
	case 2:
		g.Edges[i].Head = next(g.Vertices)
	case 3:
		g.Edges[i].Tail = next(g.Vertices)
	case 4: // what ends at one vertex ends at another one
		x, y := next(g.Vertices), next(g.Vertices)
		for k, e := range g.Edges {
			if e.Tail == x {
				g.Edges[k].Tail = y
			}
			if e.Head == x {
				g.Edges[k].Head = y
			}
		}
	case 5: // two edges change their heads
		k := next(len(g.Edges))
		g.Edges[i].Head, g.Edges[k].Head = g.Edges[k].Head, g.Edges[i].Head
	}
	return g
}

// P8.1 on edges with many vertices on ways, some of them spoilt: all kinds of edges with five or six heads are among them.
func TestWhatStrewn(t *testing.T) {
	next := strew(8)
	count := map[int]int{}
	for round := range 30000 {
		g := full(5)
		if round%2 == 0 {
			g = twoSides(3, 3)
		}
		for range next(8) {
			g = stretched(g, next(len(g.Edges)))
		}
		g.Vertices += next(3)
		for range next(4) {
			g = spoilt(g, next)
		}
		g = shuffled(g, next)
		want := kindBySmoothing(g)
		mustBe(t, g, mixed(len(g.Edges), next), want)
		count[want]++
	}
	if count[5] < 4000 || count[33] < 4000 || count[0] < 4000 {
		t.Errorf("of the kinds there are %v", count)
	}
}

// P8.2 and P8.3 on strewn graphs up to the limits: Find is what the words leave; it is of a kind; and no one of its edges can be spared.
func TestFindStrewn(t *testing.T) {
	next := strew(10)
	found := 0
	for range 60 {
		n := 8 + next(57)
		g := shuffled(full(min(n, 16)), next)
		g.Vertices = n
		for i := range g.Edges {
			if n > 16 {
				x, y := next(n), next(n)
				g.Edges[i] = api.Edge{Tail: min(x, y), Head: max(x, y)}
			}
		}
		slices.SortFunc(g.Edges, func(a, b api.Edge) int { return 64*(a.Tail-b.Tail) + a.Head - b.Head })
		g.Edges = slices.DeleteFunc(slices.Compact(g.Edges), func(e api.Edge) bool { return e.Tail == e.Head })
		g = shuffled(g, next)
		if planar.Is(g) {
			mustRefuse(t, g, api.ErrNone)
			continue
		}
		found++
		want := findByWords(g)
		kind := kindBySmoothing(only(g, want))
		if kind == 0 {
			t.Fatalf("%v of %v are of no kind", want, g)
		}
		mustFind(t, g, kind, want...)
		for i := range want {
			if h := only(g, slices.Delete(slices.Clone(want), i, i+1)); !planar.Is(h) {
				t.Fatalf("of %v of %v one can be spared", want, g)
			}
		}
	}
	if found < 40 {
		t.Errorf("only %d can't be laid", found)
	}
}

// P8.2 and P8.3 at the limits: 64 vertices, 128 edges.
func TestFindLimits(t *testing.T) {
	for kind, g := range simplest() {
		next := strew(uint64(kind))
		for g.Vertices < api.MaxVertices {
			g = stretched(g, next(len(g.Edges)))
		}
		mustFind(t, g, kind, all(g)...)
		mustRefuse(t, without(g, next(len(g.Edges))), api.ErrNone)
		first := len(g.Edges)
		for len(g.Edges) < api.MaxEdges {
			if h := with(g, next(64), next(64)); planar.Plain(h) {
				g = h
			}
		}
		mustFind(t, g, kind, upTo(first)...)
		slices.Reverse(g.Edges)
		mustFind(t, g, kura.What(g, findByWords(g)), findByWords(g)...)
		mustRefuse(t, with(g, 0, 0), api.ErrArg)
	}
}
