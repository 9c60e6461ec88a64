package state

import (
	"errors"

	"moraine/api"
)

// fault tells err with what was done ahead of it; nil, if there is no error.
func fault(op string, err error) error {
	if err == nil {
		return nil
	}
	return &api.Fault{Op: op, Err: err}
}

// trouble: of several errors the one that is to be told.
type trouble struct{ err error }

// add takes an error, or nil, to those that were there.
func (t *trouble) add(err error) {
	if t.err == nil || err != nil && rank(err) < rank(t.err) {
		t.err = err
	}
}

// rank tells how late the chapter names an error: the stores' own ones first.
func rank(err error) int {
	var number api.Errno
	if errors.As(err, &number) {
		switch number {
		case api.ErrTrieNode:
			return 1
		case api.ErrTrieForm:
			return 2
		}
	}
	return 0
}
