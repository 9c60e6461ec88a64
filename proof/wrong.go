package proof

import (
	"moraine/api"
)

// wrong: what ends a walk from within it. It is caught at the face.
type wrong struct{ errno api.Errno }

// demand ends the walk, where something isn't as it must be.
func demand(ok bool, e api.Errno) {
	if !ok {
		panic(wrong{e})
	}
}

// caught tells what a walk tells, or, beside nothing, what it was ended by.
func caught[T any](walk func() T) (told T, e api.Errno) {
	defer func() {
		switch x := recover().(type) {
		case nil:
		case wrong:
			e = x.errno
		default:
			// Nobody handed that in: it is the program's own fault, and not to be told as one of the proof.
			panic(x)
		}
	}()
	return walk(), api.OK
}
