package table

import (
	"bytes"

	"moraine/api"
	"moraine/block"
	"moraine/codec"
)

// Open tells the table that b is the bytes of.
func Open(b []byte) (*Table, api.Errno) {
	filter, index, e := footer(b)
	if e != api.OK {
		return nil, e
	}
	inner, sound := unsealed(b, index)
	sieve, sound2 := unsealed(b, filter)
	if !sound || !sound2 {
		return nil, api.ErrTableSum
	}
	spans, ok := spansOf(inner, filter.at)
	if !ok {
		return nil, api.ErrTableForm
	}
	data := bytes.Clone(b[:filter.at])
	return &Table{data: data, filter: bytes.Clone(sieve), spans: spans}, api.OK
}

// footer tells where b's footer says that the filter and the index stand.
func footer(b []byte) (filter, index piece, e api.Errno) {
	begin := len(b) - footBytes
	if begin < 0 || !bytes.HasSuffix(b, []byte(magic)) {
		return piece{}, piece{}, api.ErrTableForm
	}
	numbers, sound := unsealed(b, piece{at: uint64(begin), size: places})
	if !sound {
		return piece{}, piece{}, api.ErrTableSum
	}
	filter, index = pieceAt(numbers), pieceAt(numbers[places/2:])
	if !index.reaches(uint64(begin)) || !filter.reaches(index.at) {
		return piece{}, piece{}, api.ErrTableForm
	}
	return filter, index, api.OK
}

func pieceAt(b []byte) piece {
	at, _ := codec.Unfixed8(b)
	size, _ := codec.Unfixed8(b[8:])
	return piece{at: at, size: size}
}

// reaches tells whether what stands behind p and its sum begins at next; no sum of numbers is taken that could wrap round.
func (p piece) reaches(next uint64) bool {
	return p.at <= next && next-p.at >= sumBytes && p.size == next-p.at-sumBytes
}

// unsealed tells the bytes of b that stand at p, and whether the sum behind them, which b has, is theirs.
func unsealed(b []byte, p piece) ([]byte, bool) {
	body := b[p.at : p.at+p.size]
	sum, _ := codec.Unfixed4(b[p.at+p.size:])
	return body, sum == codec.Sum(body)
}

// spansOf tells the data blocks of an index, and false if they aren't those that stand one behind the other up to end.
func spansOf(index []byte, end uint64) ([]span, bool) {
	l, e := block.Parse(index)
	if e != api.OK || len(l) == 0 {
		return nil, false
	}
	spans := make([]span, len(l))
	next := uint64(0)
	for i, x := range l {
		p, ok := placeOf(x.Value)
		// Sizes up to end are too few to make next wrap round.
		if !ok || p.at != next || p.size > end {
			return nil, false
		}
		user, _, _, _ := codec.Split(x.Key)
		spans[i] = span{at: int(p.at), size: int(p.size), last: x.Key, user: user}
		next += p.size + sumBytes
	}
	return spans, next == end
}

// placeOf tells the two numbers that an entry of the index has for a value.
func placeOf(value []byte) (piece, bool) {
	at, width, e := codec.Take(value)
	if e != api.OK {
		return piece{}, false
	}
	size, more, e := codec.Take(value[width:])
	if e != api.OK || width+more != len(value) {
		return piece{}, false
	}
	return piece{at: at, size: size}, true
}
