// Package faults carries an error's number from wherever a call can't go on up to where it answers.
package faults

import "muslin/api"

// fault is what Demand panics with.
type fault struct {
	err api.Errno
}

// Demand panics with a fault of err, unless ok.
func Demand(ok bool, err api.Errno) {
	if !ok {
		panic(fault{err})
	}
}

// Caught answers what do answers, or the error's number of the fault that do panics with.
func Caught[T any](do func() T) (answer T, err api.Errno) {
	defer func() {
		panicked := recover()
		if f, ok := panicked.(fault); ok {
			err = f.err
		} else if panicked != nil { // no fault that was demanded: an answer would be made up
			panic(panicked)
		}
	}()
	return do(), api.OK
}
