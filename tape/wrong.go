package tape

import "goodname/api"

// wrong is what is passed on by a panic if something is wrong: in a line of a text,
// or in none (0).
type wrong struct {
	line int
	e    api.Errno
}

// need passes on the error of a line, unless something is so.
func need(is bool, line int, e api.Errno) {
	if !is {
		panic(wrong{line, e})
	}
}

// caught does something, and returns the error that it passed on, with its line.
func caught(do func()) (line int, e api.Errno) {
	defer func() {
		if w, ok := recover().(wrong); ok {
			line, e = w.line, w.e
		}
	}()
	do()
	return 0, api.OK
}
