// Package fault wraps what goes wrong within a layer: each place that an error goes through says so, and at the end its number is asked for.
package fault

import (
	"errors"

	"tryst/api"
)

// At is an error, and where it went through.
type At struct {
	Where string
	Err   error
}

// Error tells the places, the outermost first, and what went wrong.
func (a At) Error() string {
	return a.Where + ": " + a.Err.Error()
}

// Unwrap is the error that went through.
func (a At) Unwrap() error {
	return a.Err
}

// Of makes a number an error; nil, if it is none.
func Of(where string, e api.Errno) error {
	if e == api.OK {
		return nil
	}
	return At{where, e}
}

// Wrap says where an error went through; nil stays nil.
func Wrap(where string, err error) error {
	if err == nil {
		return nil
	}
	return At{where, err}
}

// Unfit makes an error of what does not fit the number e, whatever went wrong; that there is no room stays that.
func Unfit(where string, err error, e api.Errno) error {
	if err == nil || errors.Is(err, api.ErrFull) {
		return Wrap(where, err)
	}
	return Of(where, e)
}

// Number is an error's number.
func Number(err error) api.Errno {
	var e api.Errno
	if errors.As(err, &e) {
		return e
	}
	return api.OK
}
