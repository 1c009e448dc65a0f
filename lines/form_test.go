package lines_test

import (
	"regexp"
	"slices"
	"strconv"
	"strings"
	"testing"

	"arbor/api"
	"arbor/lines"
)

// What follows tells the form of texts once more, by patterns instead of steps, and holds Read and Numbers against it on all short texts of some bytes.

const number = `(0|[1-9][0-9]{0,5})`

var (
	wholeLine  = regexp.MustCompile(`\A` + number + ` ` + number + `\z`)
	begunLine  = regexp.MustCompile(`\A(` + number + `( ` + number + `?)?)?\z`)
	numberList = regexp.MustCompile(`\A(` + number + `( ` + number + `)*)?\z`)
)

// form tells whether a text begins one of the form, and whether it is one as a whole; and the numbers of its whole lines.
func form(text string) (begins, whole bool, rows [][2]int) {
	parts := strings.Split(text, "\n")
	rest := parts[len(parts)-1]
	for _, line := range parts[:len(parts)-1] {
		m := wholeLine.FindStringSubmatch(line)
		if m == nil {
			return false, false, nil
		}
		a, _ := strconv.Atoi(m[1])
		b, _ := strconv.Atoi(m[2])
		rows = append(rows, [2]int{a, b})
	}
	if len(rows) == 0 {
		return begunLine.MatchString(rest), false, nil
	}
	lacking := rows[0][1] - (len(rows) - 1)
	switch {
	case lacking > 0:
		return begunLine.MatchString(rest), false, rows
	case lacking == 0:
		return rest == "", rest == "", rows
	}
	return false, false, nil
}

func expect(text string) (api.Graph, api.Fault) {
	begins, whole, rows := form(text)
	if !whole {
		at := len(text)
		for !begins {
			at--
			begins, _, _ = form(text[:at])
		}
		return api.Graph{}, api.Fault{Code: api.ErrSyntax, At: at}
	}
	g := api.Graph{Vertices: rows[0][0]}
	for _, r := range rows[1:] {
		g.Edges = append(g.Edges, api.Edge{Tail: r[0], Head: r[1]})
	}
	if g.Vertices == 0 || g.Vertices > 24 || len(g.Edges) > 40 {
		return api.Graph{}, api.Fault{Code: api.ErrLarge}
	}
	for i, e := range g.Edges {
		if max(e.Tail, e.Head) >= g.Vertices {
			return api.Graph{}, api.Fault{Code: api.ErrVertex, At: i}
		}
	}
	return g, api.Fault{}
}

// texts goes through all texts of at most length letters of the alphabet, each letter some bytes.
func texts(length int, alphabet []string, yield func(string)) {
	var grow func(text string, left int)
	grow = func(text string, left int) {
		yield(text)
		if left == 0 {
			return
		}
		for _, a := range alphabet {
			grow(text+a, left-1)
		}
	}
	grow("", length)
}

func holdRead(t *testing.T, text string) {
	g, f := lines.Read([]byte(text))
	wantG, wantF := expect(text)
	if !sameGraph(g, wantG) || f.Code != wantF.Code || f.At != wantF.At || len(f.Vertices) != 0 {
		t.Errorf("Read(%q) = %v, %+v; want %v, %+v", text, g, f, wantG, wantF)
	}
}

// P1.1 on all short texts.
func TestReadAllShortTexts(t *testing.T) {
	texts(6, []string{"0", "1", "2", " ", "\n", "x"}, func(text string) { holdRead(t, text) })
}

// P1.1 on texts of longer bits, so that whole graphs and great numbers are met.
func TestReadAllTextsOfBits(t *testing.T) {
	texts(5, []string{"1 1\n", "2 2\n", "0 1\n", "25 0\n", "99999", "9", "0", " ", "\n"}, func(text string) { holdRead(t, text) })
}

// P1.3 on all short texts, and on longer ones.
func TestNumbersAllShortTexts(t *testing.T) {
	hold := func(text string) {
		got, ok := lines.Numbers(text)
		var want []int
		fits := numberList.MatchString(text)
		if fits {
			for _, word := range strings.Fields(text) {
				n, _ := strconv.Atoi(word)
				want = append(want, n)
			}
		}
		if ok != fits || !slices.Equal(got, want) {
			t.Errorf("Numbers(%q) = %v, %v; want %v, %v", text, got, ok, want, fits)
		}
	}
	texts(6, []string{"0", "1", "9", " ", "\n", "x"}, hold)
	texts(5, []string{"99999", "100000", "9", "0", " ", "12 "}, hold)
}
