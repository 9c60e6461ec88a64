package manifest

import (
	"bytes"

	"moraine/api"
	"moraine/codec"
)

// Encode tells the bytes of an edit.
func Encode(e api.Edit) ([]byte, api.Errno) {
	if !editMayBe(e) {
		return nil, api.ErrManifestForm
	}
	var b []byte
	put := func(numbers ...int) {
		for _, n := range numbers {
			b = append(b, codec.Put(uint64(n))...)
		}
	}
	putKey := func(k []byte) {
		put(len(k))
		b = append(b, k...)
	}
	put(e.Log, e.Next)
	b = append(b, codec.Put(e.Seq)...)
	put(len(e.Drop))
	for _, g := range e.Drop {
		put(g.Level, g.Number)
	}
	put(len(e.Add))
	for _, p := range e.Add {
		put(p.Level, p.File.Number, p.File.Size)
		putKey(p.File.Least)
		putKey(p.File.Most)
	}
	return b, api.OK
}

// Decode tells the edit that b is the bytes of.
func Decode(b []byte) (api.Edit, api.Errno) {
	t := &taker{rest: b}
	e := api.Edit{Log: t.number(), Next: t.number(), Seq: t.take()}
	e.Drop = several(t, t.gone)
	e.Add = several(t, t.placed)
	if t.wrong != api.OK || len(t.rest) > 0 || !editMayBe(e) {
		return api.Edit{}, api.ErrManifestForm
	}
	return e, api.OK
}

// taker takes parts from the beginning of rest. It remembers its first error, and has nothing left from then on, so that it need be asked for it only at the end.
type taker struct {
	rest  []byte
	wrong api.Errno
}

func (t *taker) fail(e api.Errno) {
	if t.wrong == api.OK {
		t.rest, t.wrong = nil, e
	}
}

func (t *taker) take() uint64 {
	n, width, e := codec.Take(t.rest)
	if e != api.OK {
		t.fail(e)
		return 0
	}
	t.rest = t.rest[width:]
	return n
}

func (t *taker) within(n uint64, most int) int {
	if n > uint64(most) {
		t.fail(api.ErrManifestForm)
		return 0
	}
	return int(n)
}

func (t *taker) number() int { return t.within(t.take(), maxNumber) }

// count takes how many follow, of whatever has a byte at least.
func (t *taker) count() int {
	n := t.take()
	return t.within(n, len(t.rest))
}

func (t *taker) key() []byte {
	n := t.count()
	k := bytes.Clone(t.rest[:n])
	t.rest = t.rest[n:]
	return k
}

func (t *taker) gone() api.Gone {
	return api.Gone{Level: t.number(), Number: t.number()}
}

func (t *taker) placed() api.Placed {
	level := t.number()
	f := api.File{Number: t.number(), Size: t.number(), Least: t.key(), Most: t.key()}
	return api.Placed{Level: level, File: f}
}

// several takes how many there are, and each of them by take, up to the first error.
func several[T any](t *taker, take func() T) []T {
	var l []T
	for range t.count() {
		if t.wrong != api.OK {
			break
		}
		l = append(l, take())
	}
	return l
}
