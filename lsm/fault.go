package lsm

import (
	"errors"

	"moraine/api"
)

// fault tells err with what was done ahead of it; nil, if there is no error, be it nil or a number that is OK.
func fault(op string, err error) error {
	if err == nil || errors.Is(err, api.OK) {
		return nil
	}
	return &api.Fault{Op: op, Err: err}
}

// copied tells an error like err that shares no memory with it, so that nobody who was handed the one can change the other.
func copied(err error) error {
	var f *api.Fault
	if !errors.As(err, &f) {
		return err
	}
	return &api.Fault{Op: f.Op, Err: copied(f.Err)}
}

// ofOpen tells an error of reading a store's files as Open answers it: whatever the disk didn't refuse, being without power, is a file that no store left so.
func ofOpen(err error) error {
	switch {
	case err == nil, errors.Is(err, api.ErrDiskDown), errors.Is(err, api.ErrLsmBroken):
		return err
	}
	return fault(err.Error(), api.ErrLsmBroken)
}
