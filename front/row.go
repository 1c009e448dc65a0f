package front

import (
	"slices"

	"arbor/api"
)

// row is what stands above the vertices that are placed, from left to right.
type row struct{ items []api.Item }

// loose stands in place of the edge, and of the head, of a loose end.
const loose = -1

// bunch is edges to one vertex, with nothing but loose ends between them: count of them, from the place from on, up to the place to.
type bunch struct{ head, count, from, to int }

// Row gives what stands in the row, from left to right.
func (r *row) Row() []api.Item { return slices.Clone(r.items) }

// Tangled tells whether two vertices' edges stand by turns, so that neither can ever be placed.
func (r *row) Tangled() bool {
	var open, shut []int // a vertex is shut when its edges have stood between two of another one's
	for _, b := range r.bunches() {
		if slices.Contains(shut, b.head) {
			return true
		}
		i := slices.Index(open, b.head)
		if i < 0 {
			open = append(open, b.head)
			continue
		}
		shut = append(shut, open[i+1:]...)
		open = open[:i+1]
	}
	return false
}

// bunches gives all edges of the row, from left to right.
func (r *row) bunches() []bunch {
	var bunches []bunch
	for i, it := range r.items {
		if it.Edge == loose {
			continue
		}
		last := len(bunches) - 1
		if last < 0 || bunches[last].head != it.Head {
			bunches = append(bunches, bunch{head: it.Head, from: i})
			last++
		}
		bunches[last].count++
		bunches[last].to = i + 1
	}
	return bunches
}

// replace puts items in the place of a bunch, and gives what stood there.
func (r *row) replace(b bunch, items []api.Item) []api.Item {
	ends := slices.Clone(r.items[b.from:b.to])
	r.items = slices.Concat(r.items[:b.from], items, r.items[b.to:])
	return ends
}
