package lines

import "arbor/api"

const (
	blank   byte = 32
	lineEnd byte = 10

	// maxNumber is the greatest number that a text may have.
	maxNumber = 999_999
)

// reader goes through a text and never back: at stays at the first byte that wasn't taken, which is where the fault is if that byte can't be there.
type reader struct {
	text string
	at   int
}

func (r *reader) ended() bool { return r.at == len(r.text) }

// take goes on by one byte, if that is the next one.
func (r *reader) take(c byte) bool {
	if r.ended() || r.text[r.at] != c {
		return false
	}
	r.at++
	return true
}

// digit gives the next byte's value, and leaves it there.
func (r *reader) digit() (int, bool) {
	if r.ended() || r.text[r.at] < '0' || r.text[r.at] > '9' {
		return 0, false
	}
	return int(r.text[r.at] - '0'), true
}

// number stops ahead of a digit that can't be there (behind a nought ahead, or by which the number gets too great): no digit may come behind a number, so whoever goes on from there refuses it at its place.
func (r *reader) number() (int, bool) {
	n, ok := r.digit()
	if !ok {
		return 0, false
	}
	r.at++
	for n > 0 {
		d, ok := r.digit()
		if !ok || n*10+d > maxNumber {
			break
		}
		n = n*10 + d
		r.at++
	}
	return n, true
}

// pair gives the two numbers of a graph's line.
func (r *reader) pair() (int, int, bool) {
	first, ok := r.number()
	if !ok || !r.take(blank) {
		return 0, 0, false
	}
	second, ok := r.number()
	if !ok || !r.take(lineEnd) {
		return 0, 0, false
	}
	return first, second, true
}

// graph gives what a whole text tells, be it within the limits or not. The list grows edge by edge, as the first line may tell of far more edges than there are.
func (r *reader) graph() (api.Graph, bool) {
	vertices, count, ok := r.pair()
	if !ok {
		return api.Graph{}, false
	}
	g := api.Graph{Vertices: vertices}
	for range count {
		tail, head, ok := r.pair()
		if !ok {
			return api.Graph{}, false
		}
		g.Edges = append(g.Edges, api.Edge{Tail: tail, Head: head})
	}
	return g, r.ended()
}
