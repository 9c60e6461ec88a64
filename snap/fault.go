package snap

import "moraine/api"

// fault tells err with what was done ahead of it; nil, if there is no error.
func fault(op string, err error) error {
	if err == nil {
		return nil
	}
	return &api.Fault{Op: op, Err: err}
}
