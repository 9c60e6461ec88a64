package disk

import "math"

// side: which of its two states of a directory or a file is meant.
type side int

const (
	seen side = iota // what calls see
	sure             // what no fall of power takes away
	sides
)

// enough pays for any changes, so that all of them are done whole.
const enough = math.MaxInt

// change: something that isn't sure yet. It is done twice by the same code, on the seen side when it is asked for and on the sure side when it is synced or survives, so that the two can't come apart.
type change interface {
	// apply does on one side as much of the change as left pays for, and tells what is left then: below 0, if it did not pay for the whole.
	apply(on side, left int) int
}

// pending: changes that aren't sure yet, in their order.
type pending []change

func (p *pending) do(c change) {
	c.apply(seen, enough)
	*p = append(*p, c)
}

// settle makes the changes sure, as far as left pays for them, and forgets them.
func (p *pending) settle(left int) {
	for _, c := range *p {
		left = c.apply(sure, left)
		if left < 0 {
			break
		}
	}
	*p = nil
}

// directory: which file has which name. A file without a name on the seen side lives on as long as the sure side or a pending change knows it.
type directory struct {
	files [sides]map[string]*file
	pending
}

// file: its bytes, whatever its name is.
type file struct {
	number int
	bytes  [sides][]byte
	pending
}

func (f *file) size() int { return len(f.bytes[seen]) }

type create struct {
	dir  *directory
	name string
	file *file
}

func (c create) apply(on side, left int) int {
	if left > 0 {
		c.dir.files[on][c.name] = c.file
	}
	return left - 1
}

type rename struct {
	dir      *directory
	from, to string
}

func (c rename) apply(on side, left int) int {
	if left > 0 {
		files := c.dir.files[on]
		files[c.to] = files[c.from]
		delete(files, c.from)
	}
	return left - 1
}

type remove struct {
	dir  *directory
	name string
}

func (c remove) apply(on side, left int) int {
	if left > 0 {
		delete(c.dir.files[on], c.name)
	}
	return left - 1
}

// write: of an Append too, whose place is the length of that moment: a replay comes by the same lengths, as it stops at the first change that isn't done whole.
type write struct {
	file  *file
	at    int
	bytes []byte
}

func (c write) apply(on side, left int) int {
	part := c.bytes[:min(left, len(c.bytes))]
	old := c.file.bytes[on]
	within := copy(old[c.at:], part)
	c.file.bytes[on] = append(old, part[within:]...)
	return left - len(c.bytes)
}

type truncate struct {
	file *file
	n    int
}

func (c truncate) apply(on side, left int) int {
	if left > 0 {
		c.file.bytes[on] = c.file.bytes[on][:c.n]
	}
	return left - 1
}
