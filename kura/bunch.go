package kura

import (
	"slices"

	"arbor/api"
)

// bunch is edges, by the vertices at which they end. The graph's number of vertices may be any, so nothing is as long as that.
type bunch struct {
	g  api.Graph
	at map[int][]int
}

func bunchOf(g api.Graph, edges []int) *bunch {
	b := &bunch{g: g, at: map[int][]int{}}
	for _, i := range edges {
		e := g.Edges[i]
		b.at[e.Tail] = append(b.at[e.Tail], i)
		b.at[e.Head] = append(b.at[e.Head], i)
	}
	return b
}

// heads gives the vertices at which ways end, rising: at each other one there are two edges, one behind the other.
func (b *bunch) heads() []int {
	var heads []int
	for x, edges := range b.at {
		if len(edges) != 2 {
			heads = append(heads, x)
		}
	}
	slices.Sort(heads)
	return heads
}

// eachEnds tells whether just so many edges end at each head.
func (b *bunch) eachEnds(heads []int, count int) bool {
	return !slices.ContainsFunc(heads, func(x int) bool { return len(b.at[x]) != count })
}

// ways gives for each head the other ends of its ways, and how many edges these have in all: each is counted from both its ends.
func (b *bunch) ways(heads []int) (ends map[int][]int, long int) {
	ends = map[int][]int{}
	for _, x := range heads {
		for _, i := range b.at[x] {
			y, steps := b.follow(x, i)
			ends[x] = append(ends[x], y)
			long += steps
		}
	}
	return ends, long
}

// follow goes from a head along the way that begins with an edge, and gives its other end, and how many edges it has.
func (b *bunch) follow(x, edge int) (head, steps int) {
	for steps = 1; ; steps++ {
		x = b.beyond(x, edge)
		here := b.at[x]
		if len(here) != 2 {
			return x, steps
		}
		if here[0] == edge {
			edge = here[1]
		} else {
			edge = here[0]
		}
	}
}

// beyond gives the other end of an edge.
func (b *bunch) beyond(x, edge int) int {
	e := b.g.Edges[edge]
	if e.Tail == x {
		return e.Head
	}
	return e.Tail
}
