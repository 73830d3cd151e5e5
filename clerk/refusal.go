package clerk

import (
	"strconv"
	"strings"

	"goodname/api"
)

// refusal is what is told of something that is refused: its error, and what is said,
// or the line of a text that is wrong. It is none if all is well.
type refusal struct {
	said string
	line int
	e    api.Errno
}

// doubt is passed on by a panic if a command is one, but what is known speaks
// against it: that is what is said.
type doubt string

// wrong is passed on by a panic if a line of a text is.
type wrong struct {
	line int
	e    api.Errno
}

// need passes on an error unless something is so.
func need(is bool, e api.Errno) {
	if !is {
		panic(e)
	}
}

// refuse passes on a doubt: a word and numbers.
func refuse(word string, numbers ...int) {
	for _, n := range numbers {
		word += " " + strconv.Itoa(n)
	}
	panic(doubt(word))
}

// written returns numbers with something between them.
func written(between string, numbers ...int) string {
	l := make([]string, 0, len(numbers))
	for _, n := range numbers {
		l = append(l, strconv.Itoa(n))
	}
	return strings.Join(l, between)
}

// caught does something, and returns why it was refused, if it was.
func caught(do func()) (r refusal) {
	defer func() {
		switch x := recover().(type) {
		case api.Errno:
			r = refusal{e: x}
		case doubt:
			r = refusal{said: string(x), e: api.ErrDoubt}
		case wrong:
			r = refusal{line: x.line, e: x.e}
		}
	}()
	do()
	return refusal{}
}
