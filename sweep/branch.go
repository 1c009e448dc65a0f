package sweep

import (
	"cmp"
	"slices"

	"arbor/reach"
)

// branch is a part of what isn't placed, once a vertex is: the vertex's own edges to it, and the edges to it that stand left and right of the vertex.
type branch struct {
	part             reach.Set
	left, own, right []int
}

// branches gives the branches above a vertex, in the order in which their own edges must stand, from left to right; false: in any order edges to two of them stand by turns.
func (s *search) branches(left, own, right []int) ([]branch, bool) {
	var above reach.Set
	for _, x := range s.heads(slices.Concat(left, own, right)) {
		above |= s.from[x]
	}
	var list []branch
	for _, part := range reach.Parts(s.view.Graph, ^above) {
		list = append(list, branch{part, s.to(part, left), s.to(part, own), s.to(part, right)})
	}
	place := func(b branch) int { // the nearer ones' own edges stand within those of the further ones
		switch {
		case len(b.left) > 0:
			return -1 - slices.Index(left, b.left[0])
		case len(b.right) > 0:
			return len(right) - slices.Index(right, b.right[0])
		}
		return 0
	}
	slices.SortStableFunc(list, func(a, b branch) int { return cmp.Compare(place(a), place(b)) })
	return list, !byTurns(s.labels(list, left, right))
}

// to gives those of a row's edges that go to a part.
func (s *search) to(part reach.Set, row []int) []int {
	var list []int
	for _, i := range row {
		if part.Has(s.view.Edges[i].Head) {
			list = append(list, i)
		}
	}
	return list
}

// labels gives, of each edge of the row with a vertex's branches, which of these it goes to.
func (s *search) labels(list []branch, left, right []int) []int {
	row := slices.Clone(left)
	for _, b := range list {
		row = append(row, b.own...)
	}
	row = append(row, right...)
	var labels []int
	for _, x := range s.heads(row) {
		labels = append(labels, slices.IndexFunc(list, func(b branch) bool { return b.part.Has(x) }))
	}
	return labels
}

// byTurns tells whether two numbers of a list stand by turns: one, the other, the one, the other.
func byTurns(list []int) bool {
	var met, shut []int // a number is shut when another one stands both ahead of it and behind it
	for _, x := range list {
		if slices.Contains(shut, x) {
			return true
		}
		if i := slices.Index(met, x); i >= 0 {
			shut = append(shut, met[i+1:]...)
		} else {
			met = append(met, x)
		}
	}
	return false
}
