package planar

import (
	"slices"

	"arbor/api"
	"arbor/reach"
)

// laying is a block that is laid in the plane way by way (Demoucron, Malgrange, Pertuiset).
type laying struct {
	g      api.Graph
	at     [][]int     // by vertex, the block's half edges that stand at it
	behind map[int]int // by half edge that is laid, the one behind it, clockwise around its vertex
	laid   reach.Set   // the vertices that are
	faces  []face
}

// face is half edges, each behind the one ahead of it along the face, and the vertices at which they stand.
type face struct {
	halves   []int
	vertices reach.Set
}

// bridge is edges that hang together by vertices that aren't laid; so all of them come into one face.
type bridge struct {
	legs     []int     // its half edges at vertices that are laid
	contacts reach.Set // these vertices
	faces    []int     // places of the faces that have all of them
}

// begin gives a block of which just the first edge is laid; what comes behind what is put into the map that is handed in.
func begin(g api.Graph, edges []int, behind map[int]int) *laying {
	l := &laying{g: g, at: make([][]int, g.Vertices), behind: behind}
	for _, i := range edges {
		for _, h := range []int{2 * i, 2*i + 1} {
			x := end(g, h)
			l.at[x] = append(l.at[x], h)
		}
	}
	h := 2 * edges[0]
	l.behind[h], l.behind[other(h)] = h, other(h)
	l.faces = []face{l.faceOf(h)}
	l.laid = l.faces[0].vertices
	return l
}

// layAll lays what is left of the block; false: it can't be done.
func (l *laying) layAll() bool {
	for {
		bridges := l.bridges()
		if len(bridges) == 0 {
			return true
		}
		// One that has only one face left must have it; where all have two or more, it doesn't matter which is next.
		next := slices.MinFunc(bridges, func(a, b bridge) int { return len(a.faces) - len(b.faces) })
		if len(next.faces) == 0 {
			return false
		}
		l.lay(l.way(next.legs[0]), next.faces[0])
	}
}

// bridges gives what isn't laid.
func (l *laying) bridges() []bridge {
	var found []bridge
	met := make([]bool, 2*len(l.g.Edges))
	for _, x := range l.laid.All() {
		for _, h := range l.at[x] {
			if _, ok := l.behind[h]; !ok && !met[h] {
				found = append(found, l.bridgeFrom(h, met))
			}
		}
	}
	return found
}

// bridgeFrom gives the bridge that has that leg, and marks its half edges as met.
func (l *laying) bridgeFrom(leg int, met []bool) bridge {
	var b bridge
	var gather func(h int)
	gather = func(h int) {
		if met[h] {
			return
		}
		met[h] = true
		if x := end(l.g, h); l.laid.Has(x) {
			b.legs = append(b.legs, h)
			b.contacts |= reach.Of(x)
		} else {
			for _, k := range l.at[x] {
				gather(k)
			}
		}
		gather(other(h))
	}
	gather(leg)
	for i, f := range l.faces {
		if b.contacts&^f.vertices == 0 {
			b.faces = append(b.faces, i)
		}
	}
	return b
}

// way gives half edges, one edge behind the other, from a leg on through its bridge to another vertex that is laid. There always is one, as no vertex of a block alone holds others to it.
func (l *laying) way(leg int) []int {
	way := []int{leg}
	tried := reach.Of(end(l.g, leg))
	var seek func(x int) bool
	seek = func(x int) bool {
		tried |= reach.Of(x)
		if l.laid.Has(x) {
			return true
		}
		for _, h := range l.at[x] {
			y := end(l.g, other(h))
			if tried.Has(y) {
				continue
			}
			way = append(way, h)
			if seek(y) {
				return true
			}
			way = way[:len(way)-1]
		}
		return false
	}
	seek(end(l.g, other(leg)))
	return way
}

// lay lays a way across a face, which becomes two.
func (l *laying) lay(way []int, place int) {
	across := l.faces[place]
	first, last := way[0], other(way[len(way)-1])
	l.insert(first, across)
	l.insert(last, across)
	for i, h := range way[1:] {
		back := other(way[i])
		l.behind[back], l.behind[h] = h, back
	}
	l.faces[place] = l.faceOf(first)
	l.faces = append(l.faces, l.faceOf(other(first)))
	l.laid |= l.faces[place].vertices
}

// insert puts a half edge where the face is at its vertex. It is there only once: faces of a block are circles.
func (l *laying) insert(h int, f face) {
	for _, k := range f.halves {
		ahead := other(k)
		if end(l.g, ahead) == end(l.g, h) {
			l.behind[h], l.behind[ahead] = l.behind[ahead], h
			return
		}
	}
}

// faceOf gives the face in which a half edge stands that is laid.
func (l *laying) faceOf(h int) face {
	var f face
	for k := h; len(f.halves) == 0 || k != h; k = l.behind[other(k)] {
		f.halves = append(f.halves, k)
		f.vertices |= reach.Of(end(l.g, k))
	}
	return f
}
