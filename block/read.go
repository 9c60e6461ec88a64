package block

import (
	"bytes"
	"sort"

	"moraine/api"
	"moraine/codec"
)

// line: an entry as it stands in a block.
type line struct {
	at, shared int    // where it begins; how many bytes of its key it leaves out
	key, value []byte // the whole key; the value, in the block's own memory
}

// contents: what a block holds.
type contents struct {
	lines   []line
	restart int
}

// taker takes a block's bytes, from the first one on.
type taker struct {
	all  []byte
	at   int
	hurt bool // something was to be taken that isn't there
}

// number takes a number that is at most most.
func (t *taker) number(most int) int {
	n, width, e := codec.Take(t.all[t.at:])
	if e != api.OK || n > uint64(most) {
		t.hurt = true
		return 0
	}
	t.at += width
	return int(n)
}

func (t *taker) bytes(n int) []byte {
	if n > len(t.all)-t.at {
		t.hurt = true
		return nil
	}
	t.at += n
	return t.all[t.at-n : t.at]
}

// line takes an entry that stands behind one with the key ahead.
func (t *taker) line(ahead []byte) line {
	x := line{at: t.at}
	x.shared = t.number(len(ahead))
	tail := t.number(len(t.all))
	size := t.number(len(t.all))
	// Without spare room append moves what is shared, and the key ahead stays as it is.
	x.key = append(ahead[:x.shared:x.shared], t.bytes(tail)...)
	x.value = t.bytes(size)
	return x
}

// read tells what the block b holds, and false if nothing builds b.
func read(b []byte) (contents, bool) {
	body, places, ok := halves(b)
	if !ok {
		return contents{}, false
	}
	lines, ok := takeLines(body)
	if !ok {
		return contents{}, false
	}
	c := contents{lines: lines, restart: restartOf(lines, places)}
	return c, c.builds(places)
}

// halves tells b's entries, and the places behind them.
func halves(b []byte) ([]byte, []byte, bool) {
	end := len(b) - wide
	if end < 0 {
		return nil, nil, false
	}
	count, _ := codec.Unfixed4(b[end:])
	if uint64(count) > uint64(end/wide) {
		return nil, nil, false
	}
	begin := end - wide*int(count)
	return b[:begin], b[begin:end], true
}

func takeLines(body []byte) ([]line, bool) {
	var lines []line
	var ahead []byte
	t := taker{all: body}
	for t.at < len(body) {
		x := t.line(ahead)
		if t.hurt || !follows(ahead, x.key) {
			return nil, false
		}
		lines = append(lines, x)
		ahead = x.key
	}
	return lines, true
}

// restartOf tells the only restart that may have led to those places; the greatest one, if there are several.
func restartOf(lines []line, places []byte) int {
	if len(places) < 2*wide {
		return maxRestart
	}
	second, _ := codec.Unfixed4(places[wide:])
	return sort.Search(len(lines), func(i int) bool {
		return lines[i].at >= int(second)
	})
}

// builds tells whether Build, of c's entries and its restart, shares what the lines share, and tells those places.
func (c contents) builds(places []byte) bool {
	if c.restart < 1 || c.restart > maxRestart {
		return false
	}
	var want, ahead []byte
	for i, x := range c.lines {
		if i%c.restart == 0 {
			want = append(want, codec.Fixed4(uint32(x.at))...)
		}
		if x.shared != sharing(i, c.restart, ahead, x.key) {
			return false
		}
		ahead = x.key
	}
	return bytes.Equal(want, places)
}

// from tells the first line whose key isn't ahead of key; how many lines there are, if there is none.
func (c contents) from(key []byte) int {
	reached := func(i int) bool {
		order, _ := codec.Compare(c.lines[i].key, key)
		return order >= 0
	}
	runs := (len(c.lines) + c.restart - 1) / c.restart
	run := sort.Search(runs, func(run int) bool { return reached(run * c.restart) })
	// The run ahead of the one that begins at key or behind it may hold such a line already.
	i := max(run-1, 0) * c.restart
	for i < len(c.lines) && !reached(i) {
		i++
	}
	return i
}
