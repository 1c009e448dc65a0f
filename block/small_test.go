package block_test

import (
	"slices"
	"testing"

	"arbor/api"
	"arbor/block"
)

// What follows tells once more, by the words of the chapter, what blocks, cut vertices and the tree are, and holds the calls against it: by all circles on small graphs; on great ones, which have too many, edge by edge at each vertex.

// circles gives each circle of a graph as the numbers of its edges, maybe more than once.
func circles(g api.Graph) [][]int {
	var found [][]int
	var goOn func(vertices, edges []int)
	goOn = func(vertices, edges []int) {
		x := vertices[len(vertices)-1]
		for i, e := range g.Edges {
			if slices.Contains(edges, i) || e.Tail != x && e.Head != x {
				continue
			}
			y, way := e.Tail+e.Head-x, append(slices.Clip(edges), i)
			if y == vertices[0] {
				found = append(found, way)
			} else if !slices.Contains(vertices, y) {
				goOn(append(slices.Clip(vertices), y), way)
			}
		}
	}
	for x := range g.Vertices {
		goOn([]int{x}, nil)
	}
	return found
}

// byCircles tells for each two edges whether they are one or some circle has both.
func byCircles(g api.Graph) [][]bool {
	same := square(len(g.Edges))
	for _, c := range circles(g) {
		for _, i := range c {
			for _, k := range c {
				same[i][k] = true
			}
		}
	}
	return same
}

// byNeighbours tells the same: two edges at a vertex are on a circle just if their other ends hang together without it, and edges are in a block if they hang together by such pairs.
func byNeighbours(g api.Graph) [][]bool {
	same := square(len(g.Edges))
	for x := range g.Vertices {
		tied := square(g.Vertices)
		for _, e := range g.Edges {
			if e.Tail != x && e.Head != x {
				tied[e.Tail][e.Head], tied[e.Head][e.Tail] = true, true
			}
		}
		closeUp(tied)
		for i, e := range g.Edges {
			for k, f := range g.Edges {
				if (e.Tail == x || e.Head == x) && (f.Tail == x || f.Head == x) && tied[e.Tail+e.Head-x][f.Tail+f.Head-x] {
					same[i][k] = true
				}
			}
		}
	}
	closeUp(same)
	return same
}

// square gives n rows of n, in which each is tied to itself alone.
func square(n int) [][]bool {
	rows := make([][]bool, n)
	for i := range rows {
		rows[i] = make([]bool, n)
		rows[i][i] = true
	}
	return rows
}

// closeUp ties all that hang together.
func closeUp(tied [][]bool) {
	for by := range tied {
		for i := range tied {
			if tied[i][by] {
				for k, t := range tied[by] {
					tied[i][k] = tied[i][k] || t
				}
			}
		}
	}
}

func expectBlocks(same [][]bool) [][]int {
	var blocks [][]int
	for i, row := range same {
		var b []int
		for k, there := range row {
			if there {
				b = append(b, k)
			}
		}
		if b[0] == i {
			blocks = append(blocks, b)
		}
	}
	return blocks
}

// has tells whether a vertex is an end of some of those edges.
func has(g api.Graph, edges []int, x int) bool {
	return slices.ContainsFunc(edges, func(i int) bool { return g.Edges[i].Tail == x || g.Edges[i].Head == x })
}

func expectCuts(g api.Graph, blocks [][]int) []int {
	var cuts []int
	for x := range g.Vertices {
		n := 0
		for _, b := range blocks {
			if has(g, b, x) {
				n++
			}
		}
		if n >= 2 {
			cuts = append(cuts, x)
		}
	}
	return cuts
}

func expectTree(g api.Graph, blocks [][]int, cuts []int) []block.Node {
	if len(g.Edges) == 0 {
		return nil
	}
	nodes := []block.Node{{Parent: -1}}
	there := map[[2]int]bool{{0, 0}: true} // a kind, and a place or vertex
	for i := 0; i < len(nodes); i++ {
		n := nodes[i]
		for _, x := range cuts {
			if !n.Cut && has(g, blocks[n.At], x) && !there[[2]int{1, x}] {
				there[[2]int{1, x}] = true
				nodes = append(nodes, block.Node{Cut: true, At: x, Parent: i})
			}
		}
		for k, b := range blocks {
			if n.Cut && has(g, b, n.At) && !there[[2]int{0, k}] {
				there[[2]int{0, k}] = true
				nodes = append(nodes, block.Node{At: k, Parent: i})
			}
		}
	}
	return nodes
}

func hold(t *testing.T, g api.Graph, same [][]bool) {
	t.Helper()
	blocks := expectBlocks(same)
	cuts := expectCuts(g, blocks)
	mustFall(t, g, blocks...)
	mustCut(t, g, cuts...)
	mustGrow(t, g, expectTree(g, blocks, cuts)...)
}

// P4.1 and P4.2 on all lists of at most five edges, without loops, between at most four vertices; each goes up or down by its place, as directions don't matter.
func TestAllLists(t *testing.T) {
	for n := 1; n <= 4; n++ {
		var grow func(edges []api.Edge)
		grow = func(edges []api.Edge) {
			g := api.Graph{Vertices: n, Edges: edges}
			hold(t, g, byCircles(g))
			if len(edges) == 5 {
				return
			}
			for k := range n * n {
				if k/n < k%n {
					e := api.Edge{Tail: k / n, Head: k % n}
					if len(edges)%2 == 1 {
						e = api.Edge{Tail: k % n, Head: k / n}
					}
					grow(append(slices.Clip(edges), e))
				}
			}
		}
		grow(nil)
	}
}

// P4.1 and P4.2 on all sets of edges between five vertices; both ways to tell blocks agree there.
func TestAllSets(t *testing.T) {
	var pairs []api.Edge
	for k := range 25 {
		if k/5 < k%5 {
			pairs = append(pairs, api.Edge{Tail: k / 5, Head: k % 5})
		}
	}
	for set := range 1 << len(pairs) {
		g := api.Graph{Vertices: 5}
		for k, e := range pairs {
			if set>>k&1 == 1 {
				g.Edges = append(g.Edges, e)
			}
		}
		same := byCircles(g)
		if !slices.EqualFunc(same, byNeighbours(g), slices.Equal) {
			t.Fatalf("%v: two ways to tell blocks differ", g)
		}
		hold(t, g, same)
	}
}

// strew gives a rule by which numbers below n come, always the same ones.
func strew() func(n int) int {
	state := uint64(1)
	return func(n int) int {
		state = state*6364136223846793005 + 1442695040888963407
		return int(state >> 33 % uint64(n))
	}
}

// P4.1 and P4.2 on graphs up to the limits, whose edges are strewn by a fixed rule.
func TestStrewn(t *testing.T) {
	next := strew()
	for _, edges := range []int{8, 32, 64, 70, 90, 128} {
		for _, n := range []int{2, 7, 33, 63, 64} {
			g := api.Graph{Vertices: n}
			for range edges {
				x := next(n)
				g.Edges = append(g.Edges, api.Edge{Tail: x, Head: (x + 1 + next(n-1)) % n})
			}
			hold(t, g, byNeighbours(g))
		}
	}
}

// P4.1 and P4.2 on graphs of many blocks: each new vertex, by a strewn name, hangs at one of the last few that there are, and some edges more are laid between such as are near.
func TestStrewnTrees(t *testing.T) {
	next := strew()
	for range 60 {
		names := upTo(64)
		for i := range names {
			k := i + next(64-i)
			names[i], names[k] = names[k], names[i]
		}
		g := api.Graph{Vertices: 64}
		for i := 1; i < 64; i++ {
			g.Edges = append(g.Edges, api.Edge{Tail: names[i], Head: names[max(0, i-1-next(4))]})
		}
		for range next(40) {
			i := next(62)
			g.Edges = append(g.Edges, api.Edge{Tail: names[i], Head: names[i+1+next(2)]})
		}
		for i := range g.Edges {
			k := next(i + 1)
			g.Edges[i], g.Edges[k] = g.Edges[k], g.Edges[i]
		}
		hold(t, g, byNeighbours(g))
	}
}
