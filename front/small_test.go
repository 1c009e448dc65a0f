package front_test

import (
	"slices"
	"testing"

	"arbor/angle"
	"arbor/api"
	"arbor/front"
	"arbor/graph"
	"arbor/rotation"
)

// What follows tells fronts once more, by the words of the chapter, and holds the calls against it: on all ways to place small graphs, and on graphs up to the limits that grow out of a row of their own.

// told is what is placed of a graph, and its row.
type told struct {
	g      api.Graph
	placed []int
	row    []api.Item
}

// place tells what comes of placing a vertex, what ends at it, and whether that can be.
func (w told) place(x int, outs []int) (told, []api.Item, bool) {
	if x < 0 || x >= w.g.Vertices || slices.Contains(w.placed, x) {
		return w, nil, false
	}
	from, to, ok := w.span(x)
	if !ok {
		return w, nil, false
	}
	laid := []api.Item{}
	for _, i := range outs {
		laid = append(laid, api.Item{Edge: i, Tail: x, Head: w.g.Edges[i].Head})
	}
	if len(outs) == 0 {
		laid = append(laid, api.Item{Edge: -1, Tail: x, Head: -1})
	}
	next := told{g: w.g, placed: append(slices.Clone(w.placed), x)}
	next.row = append(next.row, w.row[:from]...)
	next.row = append(next.row, laid...)
	next.row = append(next.row, w.row[to:]...)
	return next, w.row[from:to], true
}

// span tells from where to where in the row the edges to a vertex stand; false, if it lacks one, or there are others between them.
func (w told) span(x int) (from, to int, ok bool) {
	from, to = len(w.row), 0
	for i, e := range w.g.Edges {
		if e.Head != x {
			continue
		}
		at := slices.Index(w.row, api.Item{Edge: i, Tail: e.Tail, Head: x})
		if at < 0 {
			return 0, 0, false
		}
		from, to = min(from, at), max(to, at+1)
	}
	if from > to {
		return 0, 0, true // the source
	}
	other := func(it api.Item) bool { return it.Head != x && it.Edge >= 0 }
	return from, to, !slices.ContainsFunc(w.row[from:to], other)
}

func (w told) ready() []int {
	var ready []int
	for x := range w.g.Vertices {
		if _, _, ok := w.place(x, nil); ok {
			ready = append(ready, x)
		}
	}
	return ready
}

func (w told) tangled() bool {
	for a := range w.g.Vertices {
		for b := range w.g.Vertices {
			found := 0
			for _, it := range w.row {
				if a != b && (found%2 == 0 && it.Head == a || found%2 == 1 && it.Head == b) {
					found++
				}
			}
			if found >= 4 {
				return true
			}
		}
	}
	return false
}

// mustTell holds what a front tells against the words; and that what can't be placed isn't.
func mustTell(t *testing.T, f *front.Front, w told) {
	t.Helper()
	if !slices.Equal(f.Row(), w.row) || !slices.Equal(f.Placed(), w.placed) || f.Done() != (len(w.placed) == w.g.Vertices) {
		t.Fatalf("of %v: row %v, placed %v, done %v, want row %v, placed %v", w.g, f.Row(), f.Placed(), f.Done(), w.row, w.placed)
	}
	ready := w.ready()
	if !slices.Equal(f.Ready(), ready) || f.Tangled() != w.tangled() {
		t.Fatalf("of %v with row %v: ready %v, tangled %v, want ready %v", w.g, w.row, f.Ready(), f.Tangled(), ready)
	}
	for x := -1; x <= w.g.Vertices; x++ {
		want := api.ErrArg
		if !slices.Contains(ready, x) {
			want = api.ErrNone
		}
		if ends, e := f.Place(x, len(w.g.Edges)); e != want || len(ends) > 0 {
			t.Fatalf("of %v with row %v: %d is placed with %v, error %d", w.g, w.row, x, ends, e)
		}
	}
	if !slices.Equal(f.Row(), w.row) || !slices.Equal(f.Placed(), w.placed) {
		t.Fatalf("of %v: what wasn't placed changed the front", w.g)
	}
}

// mustGo places a vertex in a front, and by the words.
func mustGo(t *testing.T, f *front.Front, w told, x int, outs []int) told {
	t.Helper()
	next, want, ok := w.place(x, outs)
	ends, e := f.Place(x, outs...)
	if !ok || e != api.OK || !slices.Equal(ends, want) {
		t.Fatalf("of %v with row %v: Place(%d, %v) = %v, error %d, want %v, %v", w.g, w.row, x, outs, ends, e, want, ok)
	}
	return next
}

// outsOf gives the edges from a vertex.
func outsOf(g api.Graph, x int) []int {
	var outs []int
	for i, e := range g.Edges {
		if e.Tail == x {
			outs = append(outs, i)
		}
	}
	return outs
}

// orders gives a list in all orders.
func orders(list []int) [][]int {
	if len(list) == 0 {
		return [][]int{nil}
	}
	var all [][]int
	for _, rest := range orders(list[1:]) {
		for i := range len(rest) + 1 {
			all = append(all, slices.Insert(slices.Clone(rest), i, list[0]))
		}
	}
	return all
}

// canEnd tells whether all vertices can be placed from a front on, by all ways to do so. It holds each front against the words (P9.1, P9.2), no end against a tangled one (P9.3), and one end against each vertex that could have been first (P9.4).
func canEnd(t *testing.T, f *front.Front, w told) bool {
	mustTell(t, f, w)
	if f.Done() {
		return true
	}
	ends, firsts := 0, f.Ready()
	for _, x := range firsts {
		some := 0
		for _, outs := range orders(outsOf(w.g, x)) {
			next := f.Clone()
			if canEnd(t, next, mustGo(t, next, w, x, outs)) {
				some = 1
			}
		}
		ends += some
	}
	if ends > 0 && (ends < len(firsts) || f.Tangled()) {
		t.Fatalf("of %v with row %v: %d of the ready vertices %v lead to an end; tangled is %v", w.g, w.row, ends, firsts, f.Tangled())
	}
	return ends > 0
}

// canBeDrawn tells the same by rotations and great angles.
func canBeDrawn(g api.Graph) bool {
	r := make(rotation.Rotation, g.Vertices)
	var choose func(x int) bool
	choose = func(x int) bool {
		if x == g.Vertices {
			_, _, ok := angle.Assign(g, r)
			return ok
		}
		var half []int
		for i, e := range g.Edges {
			if e.Tail == x {
				half = append(half, 2*i)
			}
			if e.Head == x {
				half = append(half, 2*i+1)
			}
		}
		if len(half) == 0 {
			return choose(x + 1)
		}
		return slices.ContainsFunc(orders(half[1:]), func(rest []int) bool {
			r[x] = append([]int{half[0]}, rest...)
			return choose(x + 1)
		})
	}
	return choose(0)
}

// pairs gives all edges from a lesser vertex to a greater one.
func pairs(n int) []api.Edge {
	var list []api.Edge
	for y := range n {
		for x := range y {
			list = append(list, api.Edge{Tail: x, Head: y})
		}
	}
	return list
}

// renamed gives a graph with its vertices called anew, and its edges in another order.
func renamed(g api.Graph, next func(n int) int) api.Graph {
	r, _ := graph.Rename(g, mixed(upTo(g.Vertices), next), mixed(upTo(len(g.Edges)), next))
	return r
}

// strew gives numbers below n that look strewn, the same ones each time.
func strew(state uint64) func(n int) int {
	return func(n int) int {
		state = state*6364136223846793005 + 1442695040888963407
		return int(state >> 33 % uint64(n))
	}
}

// mixed gives a list in some order.
func mixed[T any](list []T, next func(n int) int) []T {
	var m []T
	for i, x := range list {
		m = slices.Insert(m, next(i+1), x)
	}
	return m
}

// mustAgree holds all ways to place a graph's vertices against its rotations, and gives whether it can be drawn upwards.
func mustAgree(t *testing.T, g api.Graph) bool {
	t.Helper()
	got := canEnd(t, mustStart(t, g), told{g: g})
	if got != canBeDrawn(g) {
		t.Fatalf("%v can be placed to the end: %v; but by its rotations that isn't so", g, got)
	}
	return got
}

// P9.1 to P9.4 on all good graphs of at most five vertices, with strewn names.
func TestAllSmall(t *testing.T) {
	next := strew(1)
	for n := 1; n < 6; n++ {
		edges := pairs(n)
		for chosen := range 1 << len(edges) {
			g := of(n)
			for i, e := range edges {
				if chosen>>i&1 == 1 {
					g.Edges = append(g.Edges, e)
				}
			}
			if graph.Check(g).Code == api.OK {
				mustAgree(t, renamed(g, next))
			}
		}
	}
}

// P9.1 to P9.4 on strewn graphs of six and seven vertices in which 1 and 2 both go to 3 and to 4: some of which can be drawn upwards, and some not.
func TestSixAndSeven(t *testing.T) {
	next := strew(2)
	can, cannot := 0, 0
	for can+cannot < 300 {
		n := 6 + next(20)/19
		g := of(n, 1, 3, 2, 3, 1, 4, 2, 4)
		for _, e := range mixed(pairs(n), next) {
			if len(g.Edges) < n+3+n%2 && !slices.Contains(g.Edges, e) {
				g.Edges = append(g.Edges, e)
			}
		}
		if graph.Check(g).Code != api.OK {
			continue
		}
		if mustAgree(t, renamed(g, next)) {
			can++
		} else {
			cannot++
		}
	}
	if can < 25 || cannot < 25 {
		t.Errorf("%d graphs can be drawn upwards, %d can't: too few to tell", can, cannot)
	}
}

// P9.4: the document's examples.
func TestExamples(t *testing.T) {
	for _, g := range []api.Graph{of(1), of(2, 0, 1), of(3, 0, 1, 0, 2, 1, 2), of(6, 0, 1, 0, 2, 0, 3, 0, 4, 1, 5, 2, 5, 3, 5, 4, 5)} {
		if !mustAgree(t, g) {
			t.Errorf("%v can't be placed to the end", g)
		}
	}
	for _, g := range []api.Graph{of(6, 0, 1, 0, 2, 1, 3, 2, 3, 1, 4, 2, 4, 3, 5, 4, 5), {Vertices: 5, Edges: pairs(5)}} {
		if mustAgree(t, g) {
			t.Errorf("%v can be placed to the end", g)
		}
	}
}

// grown gives a graph that grows out of a row: again and again some edges that stand side by side, or with loose ends between them, get a head, from which edges go. Its plan is how it grew.
func grown(vertices, edges int, next func(n int) int) (api.Graph, api.Plan) {
	g := of(1)
	plan := api.Plan{Order: []int{0}, Outs: [][]int{nil}}
	var row []int // edges without a head, and loose ends (-1)
	open := 0
	sprout := func(x, most int) []int {
		most = min(most, vertices-g.Vertices-open, edges-len(g.Edges)) // each edge may need a vertex of its own
		for range most {
			plan.Outs[x] = append(plan.Outs[x], len(g.Edges))
			g.Edges = append(g.Edges, api.Edge{Tail: x, Head: -1})
			open++
		}
		if len(plan.Outs[x]) == 0 {
			return []int{-1}
		}
		return plan.Outs[x]
	}
	row = append(row, sprout(0, 1+next(5))...)
	for open > 0 {
		x := g.Vertices
		g.Vertices++
		plan.Order = append(plan.Order, x)
		plan.Outs = append(plan.Outs, nil)
		from := next(len(row))
		for row[from] < 0 {
			from = next(len(row))
		}
		to := from
		var tails []int
		for i := from; i < len(row) && len(tails) < 1+next(4); i++ {
			if row[i] < 0 {
				continue
			}
			if slices.Contains(tails, g.Edges[row[i]].Tail) {
				break // else an edge would be there twice
			}
			g.Edges[row[i]].Head = x
			tails = append(tails, g.Edges[row[i]].Tail)
			open--
			to = i + 1
		}
		row = slices.Concat(row[:from], sprout(x, next(4)), row[to:])
	}
	return g, plan
}

// called gives a plan of a graph whose vertices are called anew.
func called(g api.Graph, plan api.Plan, names []int) (api.Graph, api.Plan) {
	c, _ := graph.Rename(g, names, upTo(len(g.Edges)))
	p := api.Plan{Outs: make([][]int, g.Vertices)}
	for _, x := range plan.Order {
		p.Order = append(p.Order, names[x])
		p.Outs[names[x]] = plan.Outs[x]
	}
	return c, p
}

// P9.1, P9.2 and P9.4 on graphs up to the limits, as they grew; and with the same orders of edges, but whichever ready vertex first.
func TestGrown(t *testing.T) {
	next := strew(3)
	greatest := 0
	for k := range 300 {
		g, plan := grown(2+next(63), 1+next(128), next)
		g, plan = called(g, plan, mixed(upTo(g.Vertices), next))
		greatest = max(greatest, len(g.Edges))
		f, w := mustStart(t, g), told{g: g}
		free := f.Clone()
		for _, x := range plan.Order {
			if k%10 == 0 {
				mustTell(t, f, w)
			}
			w = mustGo(t, f, w, x, plan.Outs[x])
		}
		mustTell(t, f, w)
		for !free.Done() {
			ready := free.Ready()
			if len(ready) == 0 || free.Tangled() {
				t.Fatalf("of %v by %v: nothing goes on from %v", g, plan, free.Placed())
			}
			x := ready[next(len(ready))]
			mustPlaceAny(t, free, x, plan.Outs[x])
		}
		if !slices.Equal(free.Row(), f.Row()) {
			t.Fatalf("of %v by %v: the rows at the end are %v and %v", g, plan, f.Row(), free.Row())
		}
	}
	if greatest < 70 {
		t.Errorf("the greatest graph has %d edges: too few", greatest)
	}
}

func mustPlaceAny(t *testing.T, f *front.Front, x int, outs []int) {
	t.Helper()
	if _, e := f.Place(x, outs...); e != api.OK {
		t.Fatalf("Place(%d, %v): error %d", x, outs, e)
	}
}

// P9.1 to P9.3 on strewn graphs up to the limits, placed by chance as long as it goes.
func TestStrewn(t *testing.T) {
	next := strew(4)
	tangled := 0
	for range 150 {
		n := 2 + next(63)
		g := of(n)
		for y := 1; y < n; y++ {
			g.Edges = append(g.Edges, api.Edge{Tail: max(0, y-1-next(8)), Head: y})
		}
		for range next(80) {
			y := 1 + next(n-1)
			e := api.Edge{Tail: max(0, y-1-next(8)), Head: y}
			if !slices.Contains(g.Edges, e) && len(g.Edges) < api.MaxEdges {
				g.Edges = append(g.Edges, e)
			}
		}
		g = renamed(g, next)
		f, w := mustStart(t, g), told{g: g}
		mustTell(t, f, w)
		for len(f.Ready()) > 0 {
			x := f.Ready()[next(len(f.Ready()))]
			w = mustGo(t, f, w, x, mixed(outsOf(g, x), next))
			mustTell(t, f, w)
		}
		if f.Tangled() {
			tangled++
			if f.Done() {
				t.Fatalf("%v is done, but tangled", g)
			}
		}
	}
	if tangled < 20 {
		t.Errorf("%d are tangled: too few", tangled)
	}
}
