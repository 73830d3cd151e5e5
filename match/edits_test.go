package match_test

import (
	"strings"
	"testing"

	"goodname/api"
	"goodname/match"
)

func edits(t *testing.T, a, b string) int {
	t.Helper()
	n, e := match.Edits(a, b)
	if e != api.OK {
		t.Fatalf("Edits(%q, %q): %v", a, b, e)
	}
	return n
}

// P1.1: ordinary words, empty ones, and bytes of any values.
func TestEdits(t *testing.T) {
	for _, x := range []struct {
		a, b string
		want int
	}{
		{"", "", 0}, {"", "A", 1}, {"", "AB", 2}, {"A", "A", 0}, {"A", "B", 1},
		{"SMITH", "SMYTHE", 2}, {"SMITH", "SMYTH", 1}, {"SMITH", "MITH", 1}, {"SMITH", "SMIITH", 1},
		{"AB", "BA", 2}, {"ABCD", "BCDA", 2}, {"FLAW", "LAWN", 2}, {"SATURDAY", "SUNDAY", 3}, {"INTENTION", "EXECUTION", 5},
		{"JOHN", "john", 4}, {"\x00", "\xff", 1}, {"\xc3\xa9", "\xc3\xa8", 1}, {"é", "e", 2}, {"a b", "ab", 1},
		{strings.Repeat("A", 20), "", 20}, {strings.Repeat("A", 20), strings.Repeat("A", 20), 0},
		{strings.Repeat("A", 20), strings.Repeat("B", 20), 20}, {strings.Repeat("AB", 10), strings.Repeat("BA", 10), 2},
		{strings.Repeat("A", 19), strings.Repeat("A", 20), 1}, {strings.Repeat("\xff", 20), strings.Repeat("\xfe", 19), 20},
	} {
		if n := edits(t, x.a, x.b); n != x.want {
			t.Errorf("%q %q: %d, not %d", x.a, x.b, n, x.want)
		}
		if n := edits(t, x.b, x.a); n != x.want {
			t.Errorf("%q %q: %d, not %d", x.b, x.a, n, x.want)
		}
	}
}

// P1.1: MaxWord counts bytes, for each of the words, and no others.
func TestEditsOfWordsThatAreTooLong(t *testing.T) {
	full := strings.Repeat("A", api.MaxWord)
	for _, long := range []string{full + "A", strings.Repeat("é", 11), full + "\x00", strings.Repeat("A", 100000)} {
		for _, other := range []string{"", "A", full, long} {
			if n, e := match.Edits(long, other); n != 0 || e != api.ErrArg {
				t.Error(len(long), len(other), n, e)
			}
			if n, e := match.Edits(other, long); n != 0 || e != api.ErrArg {
				t.Error(len(other), len(long), n, e)
			}
		}
	}
}

// allWords returns all words of up to most of some letters.
func allWords(letters string, most int) []string {
	words := []string{""}
	last := words
	for range most {
		var longer []string
		for _, w := range last {
			for i := range letters {
				longer = append(longer, w+letters[i:i+1])
			}
		}
		words = append(words, longer...)
		last = longer
	}
	return words
}

// besides returns all words that one edit makes of a word.
func besides(w, letters string) []string {
	var out []string
	for i := range len(w) + 1 {
		for j := range letters {
			out = append(out, w[:i]+letters[j:j+1]+w[i:])
			if i < len(w) {
				out = append(out, w[:i]+letters[j:j+1]+w[i+1:])
			}
		}
		if i < len(w) {
			out = append(out, w[:i]+w[i+1:])
		}
	}
	return out
}

// P1.1: edits are the least number of steps of one letter each, found here by
// going all steps at once.
func TestEditsAreTheLeastNumber(t *testing.T) {
	const most = 4
	words := allWords("AB", most)
	for _, from := range words {
		steps := map[string]int{from: 0}
		for work := []string{from}; len(work) > 0; work = work[1:] {
			for _, next := range besides(work[0], "AB") {
				if _, ok := steps[next]; !ok && len(next) <= most {
					steps[next] = steps[work[0]] + 1
					work = append(work, next)
				}
			}
		}
		for _, to := range words {
			if n := edits(t, from, to); n != steps[to] {
				t.Errorf("%q %q: %d, not %d", from, to, n, steps[to])
			}
		}
	}
}

// P1.7: edits are a distance, for all short words.
func TestEditsAreADistance(t *testing.T) {
	words := allWords("ABC", 3)
	for _, a := range words {
		for _, b := range words {
			n := edits(t, a, b)
			if n < 0 || (n == 0) != (a == b) || n != edits(t, b, a) {
				t.Errorf("%q %q: %d", a, b, n)
			}
			for _, c := range words {
				if edits(t, a, c)+edits(t, c, b) < n {
					t.Errorf("%q %q: fewer over %q", a, b, c)
				}
			}
		}
	}
}

// P1.7 and P1.1: and for long ones.
func TestEditsOfLongWords(t *testing.T) {
	r := newRandom(1)
	for range 3000 {
		var w [3]string
		for i := range w {
			w[i] = r.word("ABC\x00\xff"[:2+r.Intn(4)], 0, api.MaxWord)
		}
		n := edits(t, w[0], w[1])
		if n != toldEdits(w[0], w[1]) || n != edits(t, w[1], w[0]) || (n == 0) != (w[0] == w[1]) {
			t.Errorf("%q: %d, not %d", w, n, toldEdits(w[0], w[1]))
		}
		if edits(t, w[0], w[2])+edits(t, w[2], w[1]) < n {
			t.Errorf("%q: fewer over the third one", w)
		}
	}
}
