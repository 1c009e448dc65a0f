package angle_test

import (
	"cmp"
	"math"
	"slices"
	"strconv"
	"strings"
	"testing"

	"arbor/angle"
	"arbor/api"
	"arbor/rotation"
)

// What follows holds the calls against drawings of straight lines, in which rotations, outer faces and great angles can be measured.

// turn tells by its sign on which side of the way from a to b the point c is: 1 left, -1 right, 0 neither.
func turn(a, b, c api.Point) int {
	return cmp.Compare((b.X-a.X)*(c.Y-a.Y)-(b.Y-a.Y)*(c.X-a.X), 0)
}

// meets tells whether two straight lines between points have a point in common that isn't an end of both.
func meets(a, b, c, d api.Point) bool {
	for _, p := range []api.Point{c, d} {
		if p != a && p != b && isOn(p, a, b) {
			return true
		}
	}
	for _, p := range []api.Point{a, b} {
		if p != c && p != d && isOn(p, c, d) {
			return true
		}
	}
	return turn(a, b, c)*turn(a, b, d) < 0 && turn(c, d, a)*turn(c, d, b) < 0
}

func isOn(p, a, b api.Point) bool {
	return turn(a, b, p) == 0 && min(a.X, b.X) <= p.X && p.X <= max(a.X, b.X) && min(a.Y, b.Y) <= p.Y && p.Y <= max(a.Y, b.Y)
}

// isDrawn tells whether no two lines of a graph meet, and none goes through another vertex.
func isDrawn(g api.Graph, points []api.Point) bool {
	for i, e := range g.Edges {
		if !isFree(g.Edges[:i], points, e) {
			return false
		}
	}
	return true
}

// isFree tells whether an edge's line meets no line of others, and no other vertex.
func isFree(others []api.Edge, points []api.Point, e api.Edge) bool {
	a, b := points[e.Tail], points[e.Head]
	for _, f := range others {
		if meets(a, b, points[f.Tail], points[f.Head]) {
			return false
		}
	}
	for x, p := range points {
		if x != e.Tail && x != e.Head && isOn(p, a, b) {
			return false
		}
	}
	return true
}

// direction gives the direction of a half edge's line from its vertex on, counterclockwise from the right, between -Pi and Pi.
func direction(g api.Graph, points []api.Point, h int) float64 {
	from, to := points[end(g, h)], points[end(g, h^1)]
	return math.Atan2(float64(to.Y-from.Y), float64(to.X-from.X))
}

// measured gives the rotation of a drawing, whose lists begin with their greatest directions.
func measured(g api.Graph, points []api.Point) rotation.Rotation {
	r := rising(g)
	for _, list := range r {
		slices.SortFunc(list, func(a, b int) int { return cmp.Compare(direction(g, points, b), direction(g, points, a)) })
	}
	return r
}

// measuredGreat gives the angles at sources and sinks that are wider than half a turn: those behind the last of a list of measured, whose directions fall by less than half a turn in all.
func measuredGreat(g api.Graph, r rotation.Rotation) []int {
	var great []int
	for x, list := range r {
		if isEnd(g, x) {
			great = append(great, list[len(list)-1])
		} else {
			great = append(great, -1)
		}
	}
	return great
}

// measuredOuter gives the face that is gone around clockwise, or is the only one.
func measuredOuter(g api.Graph, points []api.Point, faces [][]int) int {
	return slices.IndexFunc(faces, func(face []int) bool {
		area := 0
		for _, h := range face {
			from, to := points[end(g, h)], points[end(g, h^1)]
			area += from.X*to.Y - from.Y*to.X
		}
		return area <= 0
	})
}

// mustBeOfDrawing holds that what is measured in a drawing fits, and gives the rotation and its outer face.
func mustBeOfDrawing(t *testing.T, g api.Graph, points []api.Point) (rotation.Rotation, int) {
	t.Helper()
	r := measured(g, points)
	faces := rotation.Faces(g, r)
	outer := measuredOuter(g, points, faces)
	if !angle.Bimodal(g, r) || !fits(g, angle.Angles(g, r), len(faces), measuredGreat(g, r), outer) {
		t.Errorf("%v is drawn at %v, and its great angles don't fit", g, points)
	}
	if least, _, ok := angle.Assign(g, r); !ok || least > outer {
		t.Errorf("%v is drawn at %v, and Assign gives %d, %v", g, points, least, ok)
	}
	return r, outer
}

// name gives one text for all rotations that are the same.
func name(r rotation.Rotation) string {
	var s strings.Builder
	for _, list := range r {
		if len(list) > 0 {
			first := slices.Index(list, slices.Min(list))
			for i := range list {
				s.WriteString(strconv.Itoa(list[(first+i)%len(list)]) + " ")
			}
		}
	}
	return s.String()
}

// eachDrawing calls a function with all drawings of a graph whose vertices have different heights below n, and places below width.
func eachDrawing(g api.Graph, width int, call func([]api.Point)) {
	points := make([]api.Point, g.Vertices)
	var place func(x int)
	place = func(x int) {
		if x == g.Vertices {
			down := func(e api.Edge) bool { return points[e.Tail].Y > points[e.Head].Y }
			if !slices.ContainsFunc(g.Edges, down) && isDrawn(g, points) {
				call(points)
			}
			return
		}
		for y := range g.Vertices {
			if slices.ContainsFunc(points[:x], func(p api.Point) bool { return p.Y == y }) {
				continue
			}
			for column := range width {
				points[x] = api.Point{X: column, Y: y}
				place(x + 1)
			}
		}
	}
	place(0)
}

// P6.3 on all graphs of at most four vertices: those rotations are of drawings that Assign finds great angles for, and its outer face is the least of their drawings' ones.
func TestAllDrawings(t *testing.T) {
	for n := 2; n <= 4; n++ {
		eachUpwards(n, func(g api.Graph) {
			drawn := map[string]int{}
			eachDrawing(g, 7, func(points []api.Point) {
				r, outer := mustBeOfDrawing(t, g, points)
				if least, ok := drawn[name(r)]; !ok || outer < least {
					drawn[name(r)] = outer
				}
			})
			eachRotation(g, func(r rotation.Rotation) {
				outer, _, ok := angle.Assign(g, r)
				if least, can := drawn[name(r)]; can != ok || least != outer {
					t.Errorf("Assign(%v, %v) = %d, %v; drawings: %d, %v", g, r, outer, ok, least, can)
				}
			})
		})
	}
}

// strewn gives points, each at a height of its own, and lines between them that don't meet, up to a number of them, and of those at a point.
func strewn(below func(int) int, n, edges, atEach int) (api.Graph, []api.Point) {
	g := api.Graph{Vertices: n}
	var points []api.Point
	for _, y := range shuffled(below, n) {
		points = append(points, api.Point{X: below(1000), Y: y})
	}
	at := make([]int, n)
	for range 20 * edges {
		e := api.Edge{Tail: below(n), Head: below(n)}
		if points[e.Tail].Y >= points[e.Head].Y || slices.Contains(g.Edges, e) || len(g.Edges) == edges {
			continue
		}
		if at[e.Tail] < atEach && at[e.Head] < atEach && isFree(g.Edges, points, e) {
			g.Edges = append(g.Edges, e)
			at[e.Tail]++
			at[e.Head]++
		}
	}
	return hangingTogether(g, points)
}

// hangingTogether gives what hangs together with the first edge.
func hangingTogether(g api.Graph, points []api.Point) (api.Graph, []api.Point) {
	is := make([]bool, g.Vertices)
	is[g.Edges[0].Tail] = true
	for range g.Vertices {
		for _, e := range g.Edges {
			is[e.Tail], is[e.Head] = is[e.Tail] || is[e.Head], is[e.Tail] || is[e.Head]
		}
	}
	names := where(is)
	part := api.Graph{Vertices: len(names)}
	for _, e := range g.Edges {
		if is[e.Tail] {
			part.Edges = append(part.Edges, api.Edge{Tail: slices.Index(names, e.Tail), Head: slices.Index(names, e.Head)})
		}
	}
	var left []api.Point
	for _, x := range names {
		left = append(left, points[x])
	}
	return part, left
}

func shuffled(below func(int) int, n int) []int {
	var list []int
	for i := range n {
		list = slices.Insert(list, below(i+1), i)
	}
	return list
}

// rule gives numbers that look strewn, the same ones each time.
func rule(seed uint32) func(int) int {
	return func(n int) int {
		seed = seed*1664525 + 1013904223
		return int(seed>>8) % n
	}
}

// P6.1, P6.2 and one half of P6.3 on strewn drawings, up to the limits.
func TestStrewnDrawings(t *testing.T) {
	below := rule(1)
	for range 60 {
		n := 2 + below(api.MaxVertices-1)
		g, points := strewn(below, n, min(2*n, api.MaxEdges), n)
		r, _ := mustBeOfDrawing(t, g, points)
		if !hold(t, g, r, outersByFlow) {
			t.Errorf("no great angles fit %v, %v", g, r)
		}
	}
}

// P6.1 and P6.2 on strewn rotations whose edges go another way than they are drawn: with three edges at a vertex they are bimodal, and some fit while others don't.
func TestStrewnWays(t *testing.T) {
	below := rule(2)
	fit, not := 0, 0
	for k := range 600 {
		n := 2 + below(api.MaxVertices-1)
		g, points := strewn(below, n, min(2*n, api.MaxEdges), 3+k%2)
		r := measured(g, points)
		order := shuffled(below, g.Vertices)
		for i, e := range g.Edges {
			if order[e.Tail] < order[e.Head] {
				continue
			}
			g.Edges[i] = api.Edge{Tail: e.Head, Head: e.Tail}
			for _, list := range r {
				for at, h := range list {
					if h/2 == i {
						list[at] = h ^ 1
					}
				}
			}
		}
		if hold(t, g, r, outersByFlow) {
			fit++
		} else {
			not++
		}
	}
	if fit < 50 || not < 50 {
		t.Errorf("%d fit, %d don't", fit, not)
	}
}
