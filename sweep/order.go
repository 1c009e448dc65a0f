package sweep

import (
	"iter"
	"slices"
)

// orders gives a list in all orders but those whose beginnings, beside what is left of the list, don't fit.
func orders(list []int, fits func(begun, rest []int) bool) iter.Seq[[]int] {
	return func(yield func([]int) bool) {
		goOn(nil, list, fits, yield)
	}
}

// goOn gives all orders with a beginning, as long as yield asks for more; does it still?
func goOn(begun, rest []int, fits func(begun, rest []int) bool, yield func([]int) bool) bool {
	if !fits(begun, rest) {
		return true
	}
	if len(rest) == 0 {
		return yield(begun)
	}
	for i, x := range rest {
		next := append(slices.Clone(begun), x)
		others := slices.Delete(slices.Clone(rest), i, i+1)
		if !goOn(next, others, fits, yield) {
			return false
		}
	}
	return true
}
