package snap

import (
	"bytes"

	"moraine/api"
	"moraine/rawdb"
	"moraine/trie"
)

// stateName: of the marker under which a disk layer's state stands.
const stateName = "snap"

// numberSize: bytes of a number.
const numberSize = 8

// state: of a disk layer, and which difference layers were saved with it.
type state struct {
	root   api.Hash
	done   bool
	from   []byte // as long as it isn't done: up to there all is generated
	saved  uint64 // the number of the row of chunks that have the difference layers
	chunks uint64 // how many these are
}

// knows tells whether nothing is still to be generated at a flat key or ahead of it.
func (s state) knows(key []byte) bool { return s.done || bytes.Compare(key, s.from) < 0 }

// op writes a state.
func (s state) op() api.Op {
	key, _ := rawdb.MarkerKey(stateName)
	b := []byte{0}
	if s.done {
		b[0] = 1
	}
	b = appendNumber(b, s.saved)
	b = appendNumber(b, s.chunks)
	b = append(b, s.root[:]...)
	return api.Op{Key: key, Value: append(b, s.from...)}
}

// readState tells the state that op wrote.
func readState(b []byte) (state, error) {
	r := reader{left: b}
	done := r.take(1)
	s := state{saved: r.number(), chunks: r.number(), root: r.hash()}
	s.from = r.left
	if r.isShort {
		return state{}, api.ErrRawForm
	}
	s.done = done[0] == 1
	return s, nil
}

// load takes up what was saved; where nothing ever was, the flat world of the empty trie.
func (t *Tree) load() error {
	key, _ := rawdb.MarkerKey(stateName)
	b, ok, err := t.store.Get(key)
	if err != nil {
		return err
	}
	if !ok {
		t.disk = state{root: trie.Empty(), done: true}
		return nil
	}
	if t.disk, err = readState(b); err != nil {
		return err
	}
	return t.loadLayers()
}

func appendNumber(b []byte, n uint64) []byte {
	for i := range numberSize {
		b = append(b, byte(n>>(8*(numberSize-1-i))))
	}
	return b
}

// reader takes what was written one behind the other.
type reader struct {
	left    []byte
	isShort bool // more was asked for than there is
}

func (r *reader) take(n uint64) []byte {
	if n > uint64(len(r.left)) {
		r.left, r.isShort = nil, true
	}
	if r.isShort {
		return nil
	}
	b := r.left[:n]
	r.left = r.left[n:]
	return b
}

func (r *reader) number() uint64 {
	n := uint64(0)
	for _, x := range r.take(numberSize) {
		n = n<<8 | uint64(x)
	}
	return n
}

func (r *reader) hash() api.Hash {
	var h api.Hash
	copy(h[:], r.take(uint64(hashSize)))
	return h
}
