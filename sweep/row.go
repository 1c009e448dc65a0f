package sweep

import (
	"cmp"
	"slices"
)

// bunch is edges of a row to one vertex that stand side by side, from the place from on, up to the place to.
type bunch struct{ head, from, to int }

// next gives all edges to some vertex that can be placed in their place; false, if never all of the part can be placed. Any such vertex may come first: this is one from which fewest edges go, as they have fewest orders.
func (s *search) next(row []int) (bunch, bool) {
	heads := s.heads(row)
	var whole []bunch
	for _, b := range bunches(heads) {
		ins := len(s.view.Ins(b.head))
		if b.to-b.from == ins {
			whole = append(whole, b)
		} else if count(heads, b.head) == ins {
			return bunch{}, false // as all of the part, what stands between them hangs on what will be above this vertex
		}
	}
	if len(whole) == 0 {
		return bunch{}, false
	}
	outs := func(b bunch) int { return len(s.view.Outs(b.head)) }
	return slices.MinFunc(whole, func(a, b bunch) int { return cmp.Compare(outs(a), outs(b)) }), true
}

// heads gives the heads of a row's edges.
func (s *search) heads(row []int) []int {
	var heads []int
	for _, i := range row {
		heads = append(heads, s.view.Edges[i].Head)
	}
	return heads
}

// bunches gives what stands side by side in a row, from left to right.
func bunches(heads []int) []bunch {
	var list []bunch
	for i, x := range heads {
		if i == 0 || heads[i-1] != x {
			list = append(list, bunch{head: x, from: i})
		}
		list[len(list)-1].to = i + 1
	}
	return list
}

// count tells how often a number is in a list.
func count(list []int, x int) int {
	n := 0
	for _, y := range list {
		if y == x {
			n++
		}
	}
	return n
}
