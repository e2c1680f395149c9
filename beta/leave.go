package beta

import "forcola/api"

// attempt returns the result of work, or the error by which that left.
func attempt[T any](work func() T) (result T, e api.Errno) {
	defer func() {
		switch left := recover().(type) {
		case nil:
		case api.Errno:
			e = left
		default:
			// This package leaves by errors only; were it to fail otherwise, no panic may reach the caller even so.
			e = api.ErrState
		}
	}()
	return work(), api.OK
}
