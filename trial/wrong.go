package trial

import (
	"cmp"

	"goodname/api"
)

// wrong is what is passed on by a panic if arguments are not what they must be.
type wrong struct{ e api.Errno }

// need passes on the first one of some errors, if any is one.
func need(errors ...api.Errno) {
	if e := cmp.Or(errors...); e != api.OK {
		panic(wrong{e})
	}
}

// caught does something, and returns the error that it passed on.
func caught(do func()) (e api.Errno) {
	defer func() {
		if w, ok := recover().(wrong); ok {
			e = w.e
		}
	}()
	do()
	return api.OK
}
