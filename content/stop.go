package content

import "evergreen/api"

// require stops the reading or writing of a document with an error if a condition does not hold.
func require(condition bool, e api.Errno) {
	if !condition {
		panic(e)
	}
}

// attempt calls f, and returns the error with which it is stopped, or OK if it comes to its end.
func attempt(f func()) (e api.Errno) {
	defer func() {
		switch why := recover().(type) {
		case nil:
		case api.Errno:
			e = why
		default:
			e = api.ErrContent
		}
	}()
	f()
	return api.OK
}
