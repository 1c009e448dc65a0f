// Package lines is layer 1: see shared/doc/01-lines.md.
package lines

import (
	"strconv"
	"strings"

	"arbor/api"
)

// Read gives the graph of a text.
func Read(b []byte) (api.Graph, api.Fault) {
	if len(b) > api.MaxBytes {
		return refuse(api.ErrLarge, api.MaxBytes)
	}
	r := reader{text: string(b)}
	g, ok := r.graph()
	if !ok {
		return refuse(api.ErrSyntax, r.at)
	}
	if !fits(g) {
		return refuse(api.ErrLarge, 0)
	}
	if at, ok := firstStray(g); ok {
		return refuse(api.ErrVertex, at)
	}
	return g, api.Fault{}
}

// Text gives a graph as a text.
func Text(g api.Graph) string {
	var t strings.Builder
	t.WriteString(line(g.Vertices, len(g.Edges)))
	for _, e := range g.Edges {
		t.WriteString(line(e.Tail, e.Head))
	}
	return t.String()
}

// Numbers gives the numbers of a line; false: it isn't numbers with one blank between each two.
func Numbers(s string) ([]int, bool) {
	if s == "" {
		return nil, true
	}
	r := reader{text: s}
	var list []int
	for {
		n, ok := r.number()
		if !ok {
			return nil, false
		}
		list = append(list, n)
		if r.ended() {
			return list, true
		}
		if !r.take(blank) {
			return nil, false
		}
	}
}

// line tells numbers as one line of a text.
func line(numbers ...int) string {
	var l strings.Builder
	for i, n := range numbers {
		if i > 0 {
			l.WriteByte(blank)
		}
		l.WriteString(strconv.Itoa(n))
	}
	l.WriteByte(lineEnd)
	return l.String()
}

// refuse gives a fault, with nothing beside it.
func refuse(code api.Errno, at int) (api.Graph, api.Fault) {
	return api.Graph{}, api.Fault{Code: code, At: at}
}

// fits tells whether a graph is within the limits of one that is read.
func fits(g api.Graph) bool {
	return g.Vertices >= 1 && g.Vertices <= api.TextVertices && len(g.Edges) <= api.TextEdges
}

// firstStray gives the first edge with an end that is no vertex. It asks only whether ends are too great, as none that was read is below 0.
func firstStray(g api.Graph) (int, bool) {
	for i, e := range g.Edges {
		if e.Tail >= g.Vertices || e.Head >= g.Vertices {
			return i, true
		}
	}
	return 0, false
}
