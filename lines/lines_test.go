package lines_test

import (
	"bytes"
	"math"
	"reflect"
	"slices"
	"strconv"
	"strings"
	"testing"

	"arbor/api"
	"arbor/lines"
)

// sameGraph takes a nil list and an empty one as one, as the document does.
func sameGraph(a, b api.Graph) bool {
	return a.Vertices == b.Vertices && slices.Equal(a.Edges, b.Edges)
}

func mustRead(t *testing.T, text string, want api.Graph) {
	t.Helper()
	g, f := lines.Read([]byte(text))
	if f.Code != api.OK || f.At != 0 || len(f.Vertices) != 0 {
		t.Errorf("Read(%.40q): fault %+v, want none", text, f)
	}
	if !sameGraph(g, want) {
		t.Errorf("Read(%.40q): %v, want %v", text, g, want)
	}
}

func mustRefuse(t *testing.T, text string, code api.Errno, at int) {
	t.Helper()
	g, f := lines.Read([]byte(text))
	if f.Code != code || f.At != at || len(f.Vertices) != 0 {
		t.Errorf("Read(%.40q): fault %+v, want code %d at %d", text, f, int(code), at)
	}
	if !sameGraph(g, api.Graph{}) {
		t.Errorf("Read(%.40q): %v beside a fault", text, g)
	}
}

// edgesText gives a text whose edges all are the same line.
func edgesText(vertices, edges int, line string) string {
	return strconv.Itoa(vertices) + " " + strconv.Itoa(edges) + "\n" + strings.Repeat(line, edges)
}

// P1.1, ordinary texts and those at the limits.
func TestReadGraph(t *testing.T) {
	mustRead(t, "2 1\n0 1\n", api.Graph{Vertices: 2, Edges: []api.Edge{{Tail: 0, Head: 1}}})
	mustRead(t, "1 0\n", api.Graph{Vertices: 1})
	mustRead(t, "24 0\n", api.Graph{Vertices: 24})
	mustRead(t, "24 3\n23 10\n0 23\n10 9\n", api.Graph{Vertices: 24, Edges: []api.Edge{{Tail: 23, Head: 10}, {Tail: 0, Head: 23}, {Tail: 10, Head: 9}}})
	forty := api.Graph{Vertices: 24}
	for range 40 {
		forty.Edges = append(forty.Edges, api.Edge{Tail: 22, Head: 23})
	}
	mustRead(t, edgesText(24, 40, "22 23\n"), forty)
}

// P1.1: loops, edges that are there twice, and cycles are layer 2's faults, not a text's.
func TestReadLeavesFaultsOfGraphs(t *testing.T) {
	mustRead(t, "1 1\n0 0\n", api.Graph{Vertices: 1, Edges: []api.Edge{{}}})
	mustRead(t, "2 2\n0 1\n0 1\n", api.Graph{Vertices: 2, Edges: []api.Edge{{Head: 1}, {Head: 1}}})
	mustRead(t, "2 2\n0 1\n1 0\n", api.Graph{Vertices: 2, Edges: []api.Edge{{Head: 1}, {Tail: 1}}})
}

// P1.1, the first fault: bytes are counted ahead of all else.
func TestReadTooManyBytes(t *testing.T) {
	mustRefuse(t, strings.Repeat("x", 4096), api.ErrSyntax, 0)
	mustRefuse(t, strings.Repeat("x", 4097), api.ErrLarge, 4096)
	mustRefuse(t, strings.Repeat("x", 9000), api.ErrLarge, 4096)

	full := "1 1021\n" + strings.Repeat("0 0\n", 1016) + strings.Repeat("10 0\n", 5)
	if len(full) != 4096 {
		t.Fatalf("the text has %d bytes", len(full))
	}
	mustRefuse(t, full, api.ErrLarge, 0)
	mustRefuse(t, full+"\n", api.ErrLarge, 4096)
	mustRefuse(t, full[:4095], api.ErrSyntax, 4095)
	mustRefuse(t, "2 1\n0 1\n"+strings.Repeat(" ", 4088), api.ErrSyntax, 8)
	mustRefuse(t, "2 1\n0 1\n"+strings.Repeat(" ", 4089), api.ErrLarge, 4096)
}

// P1.1, the second fault, byte by byte.
func TestReadSyntax(t *testing.T) {
	for _, c := range []struct {
		text string
		at   int
	}{
		{"", 0}, {"\n", 0}, {" 1 0\n", 0}, {"x", 0}, {"-1 0\n", 0}, {"+1 0\n", 0}, {"\xff", 0}, {"\x00", 0},
		{"2", 1}, {"2\n", 1}, {"2x", 1}, {"2\t1\n", 1}, {"2,1\n", 1},
		{"2 ", 2}, {"2  1\n", 2}, {"2 \n", 2}, {"2 -1\n", 2},
		{"2 0", 3}, {"2 1\r\n", 3}, {"2 1 \n", 3}, {"2 0x", 3},
		{"00 0\n", 1}, {"01 0\n", 1}, {"2 00\n", 3}, {"2 01\n0 1\n", 3}, {"2 1\n00 1\n", 5}, {"2 1\n0 01\n", 7}, {"2 1\n0 00", 7},
		{"2 1\n", 4}, {"2 1\n0", 5}, {"2 1\n0 ", 6}, {"2 1\n0 1", 7}, {"2 1\n\n", 4}, {"2 1\n0\n", 5}, {"2 1\n0 1 ", 7}, {"2 1\n0 1 1\n", 7},
		{"2 2\n0 1\n", 8}, {"2 2\n0 1\n\n", 8}, {"2 100\n0 1\n", 10}, {"2 999999\n0 1\n", 13},
		{"2 0\n\n", 4}, {"2 0\n0 1\n", 4}, {"2 0\n ", 4}, {"2 1\n0 1\n\n", 8}, {"2 1\n0 1\n0 1\n", 8}, {"2 1\n0 1\n\x00", 8},
		{"1000000 0\n", 6}, {"9999999 0\n", 6}, {"1000000", 6}, {"1 1000000\n", 8}, {"2 1\n1000000 0\n", 10}, {"2 1\n0 1000000\n", 12},
		{"1 99999999999999999999999999\n", 8}, {"18446744073709551617 0\n", 6},
	} {
		mustRefuse(t, c.text, api.ErrSyntax, c.at)
	}
}

// P1.1: every beginning of a text lacks a byte, just at its end.
func TestReadCutShort(t *testing.T) {
	text := "24 3\n0 10\n10 23\n0 23\n"
	for n := range len(text) {
		mustRefuse(t, text[:n], api.ErrSyntax, n)
	}
}

// P1.1, the third fault, also where a number is at its own limit.
func TestReadTooLarge(t *testing.T) {
	for _, text := range []string{
		"0 0\n", "25 0\n", "999999 0\n", "100000 0\n", "25 40\n" + strings.Repeat("0 1\n", 40),
		edgesText(24, 41, "0 1\n"), edgesText(1, 41, "0 0\n"), edgesText(24, 100, "0 1\n"),
	} {
		mustRefuse(t, text, api.ErrLarge, 0)
	}
}

// P1.1, the fourth fault.
func TestReadVertex(t *testing.T) {
	mustRefuse(t, "2 1\n2 0\n", api.ErrVertex, 0)
	mustRefuse(t, "2 1\n0 2\n", api.ErrVertex, 0)
	mustRefuse(t, "1 1\n0 999999\n", api.ErrVertex, 0)
	mustRefuse(t, "2 4\n0 1\n1 0\n2 0\n0 2\n", api.ErrVertex, 2)
	mustRefuse(t, "2 4\n0 1\n1 0\n0 2\n2 0\n", api.ErrVertex, 2)
	mustRefuse(t, "24 40\n"+strings.Repeat("0 1\n", 39)+"0 24\n", api.ErrVertex, 39)
}

// P1.1: where several faults apply, it is the first one by the chapter's order, wherever they stand.
func TestReadOrderOfFaults(t *testing.T) {
	mustRefuse(t, "2 2\n5 5\n0 x\n", api.ErrSyntax, 10)
	mustRefuse(t, "99 1\n0 01\n", api.ErrSyntax, 8)
	mustRefuse(t, "0 41\n0 1\n", api.ErrSyntax, 9)
	mustRefuse(t, "0 1\n0 0\n", api.ErrLarge, 0)
	mustRefuse(t, "25 1\n99 0\n", api.ErrLarge, 0)
	mustRefuse(t, edgesText(2, 41, "5 5\n"), api.ErrLarge, 0)
}

// Rules 4 and P2: the bytes stay as they are, an answer doesn't hang on them later, nor on another answer.
func TestReadKeepsNothing(t *testing.T) {
	b := []byte("3 2\n0 1\n1 2\n")
	kept := bytes.Clone(b)
	first, _ := lines.Read(b)
	if !bytes.Equal(b, kept) {
		t.Errorf("Read changed its bytes to %q", b)
	}
	second, _ := lines.Read(b)
	if !reflect.DeepEqual(first, second) {
		t.Errorf("two answers for one text: %v, %v", first, second)
	}
	first.Edges[0] = api.Edge{Tail: 9, Head: 9}
	clear(b)
	if want := (api.Graph{Vertices: 3, Edges: []api.Edge{{Tail: 0, Head: 1}, {Tail: 1, Head: 2}}}); !sameGraph(second, want) {
		t.Errorf("an answer changed to %v", second)
	}
}

// P1.2, what the text is.
func TestText(t *testing.T) {
	for _, c := range []struct {
		g    api.Graph
		want string
	}{
		{api.Graph{Vertices: 2, Edges: []api.Edge{{Tail: 0, Head: 1}}}, "2 1\n0 1\n"},
		{api.Graph{Vertices: 1}, "1 0\n"},
		{api.Graph{Vertices: 1, Edges: []api.Edge{}}, "1 0\n"},
		{api.Graph{}, "0 0\n"},
		{api.Graph{Vertices: 10, Edges: []api.Edge{{Tail: 9, Head: 0}, {Tail: 0, Head: 9}, {Tail: 0, Head: 9}, {Tail: 5, Head: 5}}}, "10 4\n9 0\n0 9\n0 9\n5 5\n"},
		{api.Graph{Vertices: 999999, Edges: []api.Edge{{Tail: 999999, Head: 100000}}}, "999999 1\n999999 100000\n"},
		{api.Graph{Vertices: 3, Edges: make([]api.Edge, 1200)}, "3 1200\n" + strings.Repeat("0 0\n", 1200)},
	} {
		if got := lines.Text(c.g); got != c.want {
			t.Errorf("Text(%v) = %.60q, want %.60q", c.g, got, c.want)
		}
	}
}

// P1.2 and P1: of other numbers it is something, and the graph stays as it is.
func TestTextOfOtherNumbers(t *testing.T) {
	for _, n := range []int{-1, 1_000_000, math.MinInt, math.MaxInt} {
		g := api.Graph{Vertices: n, Edges: []api.Edge{{Tail: n, Head: 0}, {Tail: 0, Head: n}}}
		if first, second := lines.Text(g), lines.Text(g); first != second {
			t.Errorf("two texts of one graph: %q, %q", first, second)
		}
		if g.Vertices != n || !slices.Equal(g.Edges, []api.Edge{{Tail: n, Head: 0}, {Tail: 0, Head: n}}) {
			t.Errorf("Text changed its graph to %v", g)
		}
	}
}

// P1.2: Read of the Text is the graph, for each number of vertices and of edges.
func TestReadOfText(t *testing.T) {
	for vertices := 1; vertices <= api.TextVertices; vertices++ {
		for edges := 0; edges <= api.TextEdges; edges++ {
			g := api.Graph{Vertices: vertices}
			for i := range edges {
				g.Edges = append(g.Edges, api.Edge{Tail: (i * 7) % vertices, Head: vertices - 1 - (i*5)%vertices})
			}
			mustRead(t, lines.Text(g), g)
		}
	}
}

// P1.3, texts of numbers.
func TestNumbers(t *testing.T) {
	for _, c := range []struct {
		text string
		want []int
	}{
		{"", nil}, {"0", []int{0}}, {"7", []int{7}}, {"10", []int{10}}, {"999999", []int{999999}},
		{"3 0 12", []int{3, 0, 12}}, {"0 0 0", []int{0, 0, 0}}, {"999999 999999", []int{999999, 999999}},
		{"100000 9 1", []int{100000, 9, 1}},
	} {
		if got, ok := lines.Numbers(c.text); !ok || !slices.Equal(got, c.want) {
			t.Errorf("Numbers(%q) = %v, %v; want %v", c.text, got, ok, c.want)
		}
	}
	many := strings.Repeat("12 ", 9999) + "3"
	if got, ok := lines.Numbers(many); !ok || len(got) != 10000 || got[9998] != 12 || got[9999] != 3 {
		t.Errorf("of 10000 numbers: %d, %v", len(got), ok)
	}
}

// P1.3, texts that aren't; some go wrong only behind numbers that were fine.
func TestNumbersOfOthers(t *testing.T) {
	for _, s := range []string{
		" ", "  ", " 1", "1 ", "1  2", "1 2 ", "\n", "1\n", "1\n2", "1\t2", "1,2", "x", "1x", "1 x", "x 1",
		"00", "01", "0 01", "1 00", "1000000", "1 1000000", "9999999", "18446744073709551617", "-1", "+1", "1 -1", "1.0",
		"\x00", "1\x00", "\xff", "1\xa02", "٣",
	} {
		if got, ok := lines.Numbers(s); ok || len(got) != 0 {
			t.Errorf("Numbers(%q) = %v, %v; want nothing and false", s, got, ok)
		}
	}
}
