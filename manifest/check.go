package manifest

import (
	"bytes"
	"cmp"

	"moraine/api"
	"moraine/codec"
)

// maxNumber: of a table, of a log, of a size.
const maxNumber = 1<<31 - 1

func isNumber(n int) bool { return 0 <= n && n <= maxNumber }

func isLevel(n int) bool { return 0 <= n && n < api.MaxLevels }

// headMayBe looks at what edits and versions have alike.
func headMayBe(log, next int, seq uint64) bool {
	return isNumber(log) && isNumber(next) && seq <= api.MaxSeq
}

func fileMayBe(f api.File) bool {
	order, e := codec.Compare(f.Least, f.Most)
	return e == api.OK && order <= 0 && isNumber(f.Number) && isNumber(f.Size)
}

func editMayBe(e api.Edit) bool {
	for _, g := range e.Drop {
		if !isLevel(g.Level) || !isNumber(g.Number) {
			return false
		}
	}
	for _, p := range e.Add {
		if !isLevel(p.Level) || !fileMayBe(p.File) {
			return false
		}
	}
	return headMayBe(e.Log, e.Next, e.Seq)
}

// Check tells whether a version may be.
func Check(v api.Version) api.Errno {
	numbers := map[int]struct{}{}
	fresh := func(f api.File) bool {
		_, there := numbers[f.Number]
		numbers[f.Number] = struct{}{}
		return !there
	}
	below := func(f api.File) bool { return f.Number < v.Next }
	switch {
	case !headMayBe(v.Log, v.Next, v.Seq) || !each(v, fileMayBe):
		return api.ErrManifestForm
	case !each(v, fresh):
		return api.ErrManifestTwice
	case !each(v, below):
		return api.ErrManifestBack
	}
	for level, files := range v.Levels {
		if !inOrder(level, files) {
			return api.ErrManifestOver
		}
	}
	return api.OK
}

// each tells whether something holds of all tables.
func each(v api.Version, holds func(api.File) bool) bool {
	for _, files := range v.Levels {
		for _, f := range files {
			if !holds(f) {
				return false
			}
		}
	}
	return true
}

// orderOf tells the comparison by which the tables of a level rise.
func orderOf(level int) func(a, b api.File) int {
	if level == 0 {
		return func(a, b api.File) int { return cmp.Compare(a.Number, b.Number) }
	}
	return func(a, b api.File) int {
		order, _ := codec.Compare(a.Least, b.Least)
		return order
	}
}

// inOrder looks at neighbours alone: where these rise and are apart, all are.
func inOrder(level int, files []api.File) bool {
	compare := orderOf(level)
	for i := 1; i < len(files); i++ {
		a, b := files[i-1], files[i]
		if compare(a, b) >= 0 || level > 0 && reaches(a, b) {
			return false
		}
	}
	return true
}

// reaches tells whether a's user keys go on up to b's first one, or past it.
func reaches(a, b api.File) bool {
	last, _, _, _ := codec.Split(a.Most)
	first, _, _, _ := codec.Split(b.Least)
	return bytes.Compare(last, first) >= 0
}
