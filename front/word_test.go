package front_test

import (
	"slices"
	"strings"
	"testing"

	"arbor/api"
	"arbor/front"
)

// What follows makes rows of words: equal letters are edges to the same vertex, points are loose ends.

// spelt gives a front whose row spells a word: each of its letters stands on a vertex of its own, all of which stand on the source.
func spelt(t *testing.T, word string) *front.Front {
	t.Helper()
	g := of(len(word) + 1)
	head := map[rune]int{}
	edge := map[int]int{}
	for i := range word {
		g.Edges = append(g.Edges, api.Edge{Tail: 0, Head: i + 1})
	}
	for i, c := range word {
		if c == '.' {
			continue
		}
		if head[c] == 0 {
			head[c] = g.Vertices
			g.Vertices++
		}
		edge[i] = len(g.Edges)
		g.Edges = append(g.Edges, api.Edge{Tail: i + 1, Head: head[c]})
	}
	f := mustStart(t, g)
	mustPlace(t, f, 0, upTo(len(word)))
	for i, c := range word {
		var outs []int
		if c != '.' {
			outs = []int{edge[i]}
		}
		mustPlace(t, f, i+1, outs, i, 0, i+1)
	}
	return f
}

// letters gives the letters of a word by their first places.
func letters(word string) string {
	var seen strings.Builder
	for _, c := range word {
		if c != '.' && !strings.ContainsRune(seen.String(), c) {
			seen.WriteRune(c)
		}
	}
	return seen.String()
}

// areByTurns tells whether four letters of a word are a, b, a, b.
func areByTurns(word string, a, b rune) bool {
	found := 0
	for _, c := range word {
		if found%2 == 0 && c == a || found%2 == 1 && c == b {
			found++
		}
	}
	return found >= 4
}

func expectTangled(word string) bool {
	for _, a := range letters(word) {
		for _, b := range letters(word) {
			if a != b && areByTurns(word, a, b) {
				return true
			}
		}
	}
	return false
}

// expectReady gives the places, among a word's letters, of those between which no other letter stands.
func expectReady(word string) []int {
	var ready []int
	for i, c := range letters(word) {
		between := word[strings.IndexRune(word, c) : strings.LastIndex(word, string(c))+1]
		if letters(between) == string(c) {
			ready = append(ready, i+1+len(word))
		}
	}
	return ready
}

// P9.1 and P9.3 on all words of at most seven places, of four letters and points.
func TestWords(t *testing.T) {
	for n := range 8 {
		count := 1
		for range n {
			count *= 5
		}
		for k := range count {
			word := make([]byte, n)
			for i := range word {
				word[i] = "abcd."[k%5]
				k /= 5
			}
			if strings.HasPrefix("abcd", letters(string(word))) { // else it is the same as one with other letters
				mustSpell(t, string(word))
			}
		}
	}
}

func mustSpell(t *testing.T, word string) {
	t.Helper()
	f := spelt(t, word)
	if got := f.Tangled(); got != expectTangled(word) {
		t.Fatalf("Tangled of %q is %v", word, got)
	}
	if got := f.Ready(); !slices.Equal(got, expectReady(word)) {
		t.Fatalf("ready in %q are %v, want %v", word, got, expectReady(word))
	}
}

// P9.3: longer words, with letters by turns and without.
func TestTangled(t *testing.T) {
	for _, word := range []string{
		"", "....", "a.a.", "abba", "aabb", "aba", "a.b..b.a", "abcba", "abacada", "aabbaacc",
		"abcdeedcba", "abcdefgfedcbah", "abcdefghijklmnopqrstuvwxyz", "abcdefghijklmnopponmlkjihgfedcba",
		"ab" + strings.Repeat("a.", 20), "a" + strings.Repeat("b", 50) + "a", "aab.." + strings.Repeat("a.", 20),
	} {
		mustSpell(t, word)
		if expectTangled(word) {
			t.Errorf("%q isn't told rightly", word)
		}
	}
	for _, word := range []string{
		"abab", "baba", "a.b.a.b", "abcabc", "abcacb", "abcbac", "acbcab", "abcdeaedcb", "abcdefghfg", "abcdefgfedcbhahb",
		"abcdefghijklmnopponmlkjihgfedcab", "abcdefghijklmnopopnmlkjihgfedcba", "bacdefghijklmnopponmlkjihgfedcba",
		strings.Repeat("ab", 27), strings.Repeat("a.b.", 13), "b" + strings.Repeat("a.", 25) + "ba", "a" + strings.Repeat("xy..", 12) + "a",
	} {
		mustSpell(t, word)
		if !expectTangled(word) {
			t.Errorf("%q isn't told rightly", word)
		}
	}
}
