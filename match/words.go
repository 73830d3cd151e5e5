package match

import "goodname/api"

// edits keeps one row of the table of edits at a time: row[j] is how many make
// of the letters of a that were taken so far the first j letters of b.
func edits(a, b string) int {
	var row [api.MaxWord + 1]int
	for j := range len(b) + 1 {
		row[j] = j
	}
	for i := range len(a) {
		next := [api.MaxWord + 1]int{i + 1}
		for j := range len(b) {
			replaced := row[j]
			if a[i] != b[j] {
				replaced++
			}
			next[j+1] = least(replaced, row[j+1]+1, next[j]+1)
		}
		row = next
	}
	return row[len(b)]
}

func least(first int, more ...int) int {
	for _, n := range more {
		if n < first {
			first = n
		}
	}
	return first
}

func sameWords(a, b string) bool {
	return a == b || a == b[:1] || b == a[:1]
}

func likeWords(letters int, a, b string) bool {
	return sameWords(a, b) || edits(a, b) <= letters
}

// unlikeDigits returns how many digits of two known numbers differ, place by
// place.
func unlikeDigits(a, b string) int {
	n := 0
	for i := range api.MaxNumber {
		if a[i] != b[i] {
			n++
		}
	}
	return n
}
