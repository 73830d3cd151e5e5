// Package lines parts texts into their lines. It is no layer: layers that read texts
// share it.
package lines

import (
	"iter"
	"strings"
)

// Of yields the lines of a text, with their line feeds, and what follows each one.
// Only the last line may be without a line feed.
func Of(text string) iter.Seq2[string, string] {
	return func(yield func(line, rest string) bool) {
		rest := text
		for rest != "" {
			n := strings.IndexByte(rest, '\n') + 1
			if n == 0 {
				n = len(rest)
			}
			line := rest[:n]
			rest = rest[n:]
			if !yield(line, rest) {
				return
			}
		}
	}
}
