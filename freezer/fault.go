package freezer

import (
	"errors"

	"moraine/api"
)

const (
	layerNumbers = 10 // that each layer's errors have
	codecLayer   = 2
)

// fault tells err with what was done ahead of it; nil, if there is no error, be it nil or a number that is OK.
func fault(op string, err error) error {
	if err == nil || errors.Is(err, api.OK) {
		return nil
	}
	return &api.Fault{Op: op, Err: err}
}

// ofFiles tells an error of reading a freezer's files as Open answers it: what package codec can't tell is what no freezer wrote.
func ofFiles(err error) error {
	var e api.Errno
	if errors.As(err, &e) && e/layerNumbers == codecLayer {
		return fault(err.Error(), api.ErrFreezerBroken)
	}
	return err
}
