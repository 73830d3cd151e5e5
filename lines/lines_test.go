package lines_test

import (
	"slices"
	"strings"
	"testing"

	"goodname/lines"
)

// The lines of a text are all of it, in their order, and each one comes with what
// follows it.
func TestOf(t *testing.T) {
	for text, want := range map[string][]string{
		"":         nil,
		"a":        {"a"},
		"a\n":      {"a\n"},
		"\n":       {"\n"},
		"\n\n":     {"\n", "\n"},
		"a\nb":     {"a\n", "b"},
		"a\n\nb\n": {"a\n", "\n", "b\n"},
		"a\r\nb\r": {"a\r\n", "b\r"},
		"\x00\xff": {"\x00\xff"},
	} {
		var got []string
		for line, rest := range lines.Of(text) {
			got = append(got, line)
			if strings.Join(got, "")+rest != text {
				t.Errorf("%q %q %q", text, got, rest)
			}
		}
		if !slices.Equal(got, want) {
			t.Errorf("%q %q", text, got)
		}
	}
}

// Who wants no more lines is given none, and a sequence may be gone through again.
func TestOfIsLeft(t *testing.T) {
	all := lines.Of("a\nb\nc\n")
	for range 2 {
		n := 0
		for line, rest := range all {
			n++
			if line == "b\n" {
				if rest != "c\n" {
					t.Error(rest)
				}
				break
			}
		}
		if n != 2 {
			t.Error(n)
		}
	}
}
