package sweep_test

import (
	"slices"
	"testing"

	"arbor/angle"
	"arbor/api"
	"arbor/front"
	"arbor/graph"
	"arbor/rotation"
	"arbor/sweep"
)

// What follows holds the calls against the words of the chapter: on all plans of small graphs, by rotations, by all ways to place vertices, and on graphs up to the limits of which it is known how they were made.

// pairs gives all edges from a lesser vertex to a greater one.
func pairs(n int) []api.Edge {
	var list []api.Edge
	for y := range n {
		for x := range y {
			list = append(list, api.Edge{Tail: x, Head: y})
		}
	}
	return list
}

// good gives all good graphs of n vertices in which each edge goes from a lesser vertex to a greater one.
func good(n int) []api.Graph {
	var list []api.Graph
	edges := pairs(n)
	for chosen := range 1 << len(edges) {
		g := of(n)
		for i, e := range edges {
			if chosen>>i&1 == 1 {
				g.Edges = append(g.Edges, e)
			}
		}
		if graph.Check(g).Code == api.OK {
			list = append(list, g)
		}
	}
	return list
}

// strew gives numbers below n that look strewn, the same ones each time.
func strew(state uint64) func(n int) int {
	return func(n int) int {
		state = state*6364136223846793005 + 1442695040888963407
		return int(state >> 33 % uint64(n))
	}
}

// mixed gives a list in some order.
func mixed[T any](list []T, next func(n int) int) []T {
	var m []T
	for i, x := range list {
		m = slices.Insert(m, next(i+1), x)
	}
	return m
}

// renamed gives a graph with its vertices called anew, and its edges in another order.
func renamed(g api.Graph, next func(n int) int) api.Graph {
	r, _ := graph.Rename(g, mixed(upTo(g.Vertices), next), mixed(upTo(len(g.Edges)), next))
	return r
}

// orders gives a list in all orders.
func orders(list []int) [][]int {
	if len(list) == 0 {
		return [][]int{nil}
	}
	var all [][]int
	for _, rest := range orders(list[1:]) {
		for i := range len(rest) + 1 {
			all = append(all, slices.Insert(slices.Clone(rest), i, list[0]))
		}
	}
	return all
}

// outsOf gives the edges from a vertex.
func outsOf(g api.Graph, x int) []int {
	var outs []int
	for i, e := range g.Edges {
		if e.Tail == x {
			outs = append(outs, i)
		}
	}
	return outs
}

// plans gives all plans of a graph.
func plans(g api.Graph) []api.Plan {
	all := [][][]int{nil}
	for x := range g.Vertices {
		var longer [][][]int
		for _, begun := range all {
			for _, outs := range orders(outsOf(g, x)) {
				longer = append(longer, append(slices.Clone(begun), outs))
			}
		}
		all = longer
	}
	var list []api.Plan
	for _, order := range orders(upTo(g.Vertices)) {
		for _, outs := range all {
			list = append(list, api.Plan{Order: order, Outs: outs})
		}
	}
	return list
}

// mustRunAsFront holds what Run tells of a plan against a front, and gives whether it runs.
func mustRunAsFront(t *testing.T, g api.Graph, p api.Plan) bool {
	t.Helper()
	f, _ := front.New(g)
	ends := make([][]api.Item, g.Vertices)
	for at, x := range p.Order {
		var e api.Errno
		if ends[x], e = f.Place(x, p.Outs[x]...); e != api.OK {
			mustFault(t, g, p, api.ErrNone, at)
			return false
		}
	}
	mustRun(t, g, p, ends, f.Row())
	return true
}

// turned gives items the other way round.
func turned(list []api.Item) []api.Item {
	r := slices.Clone(list)
	slices.Reverse(r)
	return r
}

// mustMirror holds the mirror of a plan that runs against the plan.
func mustMirror(t *testing.T, g api.Graph, p api.Plan) {
	t.Helper()
	ends, last, _ := sweep.Run(g, p)
	for x := range ends {
		ends[x] = turned(ends[x])
	}
	m := sweep.Mirror(p)
	if !slices.Equal(m.Order, p.Order) {
		t.Fatalf("Mirror(%v) = %v", p, m)
	}
	mustRun(t, g, m, ends, turned(last))
}

// P10.1 to P10.3 on all plans of all good graphs of at most four vertices.
func TestAllPlans(t *testing.T) {
	next := strew(3)
	for n := 1; n < 5; n++ {
		for _, g := range good(n) {
			g = renamed(g, next)
			runs := 0
			for _, p := range plans(g) {
				if mustRunAsFront(t, g, p) {
					mustMirror(t, g, p)
					runs++
				} else if _, _, f := sweep.Run(g, sweep.Mirror(p)); f.Code != api.ErrNone {
					t.Fatalf("%v doesn't run, but its mirror has the fault %v", p, f)
				}
			}
			mustFind(t, g, runs > 0)
		}
	}
}

// canBeDrawn tells by rotations and great angles whether a good graph can be drawn upwards.
func canBeDrawn(g api.Graph) bool {
	r := make(rotation.Rotation, g.Vertices)
	var choose func(x int) bool
	choose = func(x int) bool {
		if x == g.Vertices {
			_, _, ok := angle.Assign(g, r)
			return ok
		}
		var half []int
		for i, e := range g.Edges {
			if e.Tail == x {
				half = append(half, 2*i)
			}
			if e.Head == x {
				half = append(half, 2*i+1)
			}
		}
		if len(half) == 0 {
			return choose(x + 1)
		}
		return slices.ContainsFunc(orders(half[1:]), func(rest []int) bool {
			r[x] = append([]int{half[0]}, rest...)
			return choose(x + 1)
		})
	}
	return choose(0)
}

// P10.2 by rotations, on all good graphs of five vertices.
func TestByRotations(t *testing.T) {
	next := strew(4)
	for _, g := range good(5) {
		g = renamed(g, next)
		mustFind(t, g, canBeDrawn(g))
	}
}

// placer tells by all orders of edges whether all vertices can be placed; vain has the rows from which that failed.
type placer struct {
	g    api.Graph
	vain map[string]bool
}

func (p placer) canEnd(f *front.Front) bool {
	if f.Done() {
		return true
	}
	var name []byte
	for _, it := range f.Row() {
		name = append(name, byte(it.Edge), byte(it.Tail))
	}
	ready := f.Ready()
	if p.vain[string(name)] || f.Tangled() || len(ready) == 0 {
		return false
	}
	for _, outs := range orders(outsOf(p.g, ready[0])) {
		next := f.Clone()
		next.Place(ready[0], outs...)
		if p.canEnd(next) {
			return true
		}
	}
	p.vain[string(name)] = true
	return false
}

func canEnd(g api.Graph) bool {
	f, _ := front.New(g)
	return placer{g, map[string]bool{}}.canEnd(f)
}

// P10.2 by all orders of edges, on all good graphs of six vertices.
func TestAllOfSix(t *testing.T) {
	next := strew(5)
	for _, g := range good(6) {
		g = renamed(g, next)
		mustFind(t, g, canEnd(g))
	}
}

// strewn gives a good graph of n vertices, with some edges, among them those from the source to as many others as told.
func strewn(n, edges, many int, next func(n int) int) api.Graph {
	for {
		g := of(n)
		for x := range many {
			g.Edges = append(g.Edges, api.Edge{Tail: 0, Head: x + 1})
		}
		for _, e := range mixed(pairs(n), next) {
			if len(g.Edges) < edges && !slices.Contains(g.Edges, e) {
				g.Edges = append(g.Edges, e)
			}
		}
		if graph.Check(g).Code == api.OK {
			return renamed(g, next)
		}
	}
}

// P10.2 by all orders of edges, on strewn graphs of seven up to nine vertices; in some of them many edges go from the source.
func TestStrewn(t *testing.T) {
	next := strew(6)
	upward, all := 0, 0
	for k := range 250 {
		n, many := 7+next(3), 0
		if k%25 == 0 {
			many = 6
		}
		g := strewn(n, n+4+next(4), many, next)
		can := canEnd(g)
		mustFind(t, g, can)
		if can {
			upward++
		}
		all++
	}
	if upward < all/4 || upward > all*3/4 {
		t.Errorf("%d of %d graphs are upward: too few, or too many, to tell", upward, all)
	}
}

// grown gives a graph that grows out of a row: again and again some edges that stand side by side, or with loose ends between them, get a head, from which edges go. Its plan is how it grew.
func grown(vertices, edges, first int, next func(n int) int) (api.Graph, api.Plan) {
	g := of(1)
	plan := api.Plan{Order: []int{0}, Outs: [][]int{nil}}
	var row []int // edges without a head, and loose ends (-1)
	open := 0
	sprout := func(x, most int) []int {
		most = min(most, vertices-g.Vertices-open, edges-len(g.Edges)) // each edge may need a vertex of its own
		for range most {
			plan.Outs[x] = append(plan.Outs[x], len(g.Edges))
			g.Edges = append(g.Edges, api.Edge{Tail: x, Head: -1})
			open++
		}
		if len(plan.Outs[x]) == 0 {
			return []int{-1}
		}
		return plan.Outs[x]
	}
	row = append(row, sprout(0, 1+next(first))...)
	for open > 0 {
		x := g.Vertices
		g.Vertices++
		plan.Order = append(plan.Order, x)
		plan.Outs = append(plan.Outs, nil)
		from := next(len(row))
		for row[from] < 0 {
			from = next(len(row))
		}
		to := from
		var tails []int
		for i := from; i < len(row) && len(tails) < 1+next(4); i++ {
			if row[i] < 0 {
				continue
			}
			if slices.Contains(tails, g.Edges[row[i]].Tail) {
				break // else an edge would be there twice
			}
			g.Edges[row[i]].Head = x
			tails = append(tails, g.Edges[row[i]].Tail)
			open--
			to = i + 1
		}
		row = slices.Concat(row[:from], sprout(x, next(4)), row[to:])
	}
	return g, plan
}

// anyOrder gives a plan with the same orders of edges, but with any vertex as soon as it is ready.
func anyOrder(g api.Graph, p api.Plan, next func(n int) int) api.Plan {
	f, _ := front.New(g)
	for !f.Done() {
		ready := f.Ready()
		x := ready[next(len(ready))]
		f.Place(x, p.Outs[x]...)
	}
	return api.Plan{Order: f.Placed(), Outs: p.Outs}
}

// P10.1 to P10.4 on graphs up to the limits, as they grew: what grew runs, its mirror does, whichever ready vertex is first it comes to the same; and a plan is found, also of what is left without some edges.
func TestGrown(t *testing.T) {
	next := strew(7)
	greatest := 0
	for k := range 200 {
		g, plan := grown(2+next(63), 1+next(128), 4+k%3*4, next)
		greatest = max(greatest, len(g.Edges))
		if !mustRunAsFront(t, g, plan) {
			t.Fatalf("%v doesn't run of %v", plan, g)
		}
		mustMirror(t, g, plan)
		ends, last, _ := sweep.Run(g, plan)
		mustRun(t, g, anyOrder(g, plan, next), ends, last)
		found := mustFind(t, renamed(g, next), true)
		if len(found.Order) != g.Vertices {
			t.Fatalf("%v is no plan of %v", found, g)
		}
		found = mustFind(t, g, true)
		if again, _ := sweep.Find(g); !samePlans(found, again) {
			t.Fatalf("the plans %v and %v were found of %v", found, again, g)
		}
		mustMirror(t, g, found)
		ends, last, _ = sweep.Run(g, found)
		mustRun(t, g, anyOrder(g, found, next), ends, last)
		for len(g.Edges) > 0 && graph.Check(g).Code == api.OK {
			mustFind(t, g, true)
			i := next(len(g.Edges))
			g.Edges = slices.Delete(g.Edges, i, i+1)
		}
	}
	if greatest < 70 {
		t.Errorf("the greatest graph has %d edges: too few", greatest)
	}
}

// P10.4: without an edge, what was upward still is.
func TestLeaveOut(t *testing.T) {
	next := strew(8)
	for range 300 {
		g := strewn(8, 11, 0, next)
		if !sweep.Upward(g) {
			continue
		}
		for i := range g.Edges {
			less := api.Graph{Vertices: g.Vertices, Edges: slices.Delete(slices.Clone(g.Edges), i, i+1)}
			if graph.Check(less).Code == api.OK {
				mustFind(t, less, true)
			}
		}
	}
}

// P10.2 and P10.4: graphs up to the limits with something in them that isn't upward, some of whose edges are ways.
func TestSpoilt(t *testing.T) {
	next := strew(10)
	for k := range 100 {
		g, _ := grown(2+next(40), 1+next(80), 4+k%3*4, next)
		below := next(g.Vertices)
		at := g.Vertices
		g.Vertices += 5
		for _, e := range core(below, at) {
			if next(3) > 0 {
				g.Edges = append(g.Edges, e)
				continue
			}
			g.Edges = append(g.Edges, api.Edge{Tail: e.Tail, Head: g.Vertices}, api.Edge{Tail: g.Vertices, Head: e.Head})
			g.Vertices++
		}
		for range next(3) {
			e := api.Edge{Tail: next(at), Head: at + next(g.Vertices-at)}
			if !slices.Contains(g.Edges, e) {
				g.Edges = append(g.Edges, e)
			}
		}
		g = renamed(g, next)
		if graph.Check(g).Code != api.OK {
			t.Fatalf("%v isn't good", g)
		}
		mustFind(t, g, false)
	}
}
