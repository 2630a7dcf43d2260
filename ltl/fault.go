package ltl

import (
	"errors"
	"strconv"

	"watchway/api"
)

// What can be wrong in a text.
var (
	errLarge  = errors.New("too long")
	errDeep   = errors.New("nested too deep")
	errName   = errors.New("no such name")
	errSyntax = errors.New("can't stand there")
)

// fault is what is wrong in a text, and the byte at which it is seen.
type fault struct {
	why error
	at  int
}

func (f fault) Error() string { return f.why.Error() + " at byte " + strconv.Itoa(f.at) }

func (f fault) Unwrap() error { return f.why }

// place answers the byte at which an error is seen.
func place(err error) int {
	var f fault
	if errors.As(err, &f) {
		return f.at
	}
	return 0
}

// number answers the number of an error.
func number(err error) api.Errno {
	switch {
	case errors.Is(err, errLarge):
		return api.ErrLarge
	case errors.Is(err, errDeep):
		return api.ErrDeep
	case errors.Is(err, errName):
		return api.ErrName
	}
	return api.ErrSyntax
}
