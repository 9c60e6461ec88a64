package codec_test

import (
	"bytes"
	"math/rand"
	"testing"

	"moraine/api"
	"moraine/codec"
)

func framed(t *testing.T, b []byte) []byte {
	t.Helper()
	f, e := codec.Frame(b)
	if e != api.OK {
		t.Fatalf("P2.4: Frame of %d bytes: %d", len(b), e)
	}
	return f
}

// refused: that b is no frame, for that reason, with nothing told beside it.
func refused(t *testing.T, what string, b []byte, want api.Errno) {
	t.Helper()
	body, n, e := codec.Unframe(b)
	if len(body) != 0 || n != 0 || e != want {
		t.Errorf("%s: %x, %d, %d, want %d", what, body, n, e, want)
	}
}

// header: a sum and a length, without a body.
func header(sum uint32, size uint64) []byte {
	return append(codec.Fixed4(sum), codec.Put(size)...)
}

func TestFrame(t *testing.T) {
	if got := framed(t, nil); string(got) != "\x00\x00\x00\x00\x00" {
		t.Errorf("P2.4: of no bytes: %x", got)
	}
	if got := framed(t, []byte("123456789")); string(got) != "\x83\x92\x06\xe3\x09123456789" {
		t.Errorf("P2.4: %x", got)
	}
	long := bytes.Repeat([]byte{7}, 300)
	want := append(header(codec.Sum(long), 300), long...)
	if got := framed(t, long); !bytes.Equal(got, want) || got[4] != 0xAC || got[5] != 2 {
		t.Errorf("P2.4: %x", got)
	}
}

func TestUnframeOfFrame(t *testing.T) {
	r := rand.New(rand.NewSource(5))
	for range 3000 {
		body := drawn(r, 300)
		f := framed(t, roomy(body))
		got, n, e := codec.Unframe(append(bytes.Clone(f), drawn(r, 9)...))
		if !bytes.Equal(got, body) || n != len(f) || e != api.OK {
			t.Fatalf("P2.7: %x: %x, %d, %d", body, got, n, e)
		}
		for k := range f {
			refused(t, "P2.4: a frame cut off", roomy(f[:k]), api.ErrCodecShort)
		}
	}
}

func TestFrameAtItsLimit(t *testing.T) {
	body := bytes.Repeat([]byte("moraine."), api.MaxFrame/8)
	f := framed(t, body)
	got, n, e := codec.Unframe(f)
	if !bytes.Equal(got, body) || n != len(f) || n != 4+3+api.MaxFrame || e != api.OK {
		t.Errorf("P2.4: MaxFrame bytes: %d, %d, %d", len(got), n, e)
	}
	refused(t, "P2.4: one byte is missing", f[:n-1], api.ErrCodecShort)
	if f, e := codec.Frame(append(body, 0)); len(f) != 0 || e != api.ErrCodecLong {
		t.Errorf("P2.4: MaxFrame + 1 bytes: %d, %d", len(f), e)
	}
}

func TestUnframeErrors(t *testing.T) {
	over := make([]byte, api.MaxFrame+1)
	for _, c := range []struct {
		what string
		b    []byte
		want api.Errno
	}{
		{"no bytes", nil, api.ErrCodecShort},
		{"part of a sum", []byte{0, 0, 0}, api.ErrCodecShort},
		{"no length", []byte{0, 0, 0, 0}, api.ErrCodecShort},
		{"part of a length", []byte{0, 0, 0, 0, 0x80}, api.ErrCodecShort},
		{"part of a length that is too great", []byte{0, 0, 0, 0, 0xFF, 0xFF, 0xFF, 0xFF}, api.ErrCodecShort},
		{"a length with a byte too many", []byte{0, 0, 0, 0, 0x80, 0}, api.ErrCodecLong},
		{"a length above 64 bits", append(make([]byte, 4), "\xff\xff\xff\xff\xff\xff\xff\xff\xff\x02"...), api.ErrCodecLong},
		{"a length above MaxFrame, without a body", header(0, api.MaxFrame+1), api.ErrCodecLong},
		{"a length above MaxFrame, with its body", append(header(codec.Sum(over), api.MaxFrame+1), over...), api.ErrCodecLong},
		{"a length of 2^63", header(0, 1<<63), api.ErrCodecLong},
		{"a length of 2^64 - 1", header(0, 1<<64-1), api.ErrCodecLong},
		{"a length of MaxFrame, without a body", header(0, api.MaxFrame), api.ErrCodecShort},
		{"a body that is too short, under another sum", append(header(1, 2), 0), api.ErrCodecShort},
		{"another sum", append(header(1, 2), 0, 0), api.ErrCodecSum},
		{"another sum of no bytes", header(1, 0), api.ErrCodecSum},
	} {
		refused(t, "P2.4: "+c.what, roomy(c.b), c.want)
	}
}

func TestOneSpellingOfAFrame(t *testing.T) {
	body := bytes.Repeat([]byte{3}, 100)
	f := append(codec.Fixed4(codec.Sum(body)), 100|0x80, 0)
	refused(t, "P2.7: a length in two bytes", append(f, body...), api.ErrCodecLong)
}

func TestFrameWithAByteChanged(t *testing.T) {
	r := rand.New(rand.NewSource(6))
	for range 60 {
		body := drawn(r, 200)
		f := framed(t, body)
		start := len(f) - len(body)
		for k := range f {
			if k >= 4 && k < start {
				continue
			}
			c := append(bytes.Clone(f), drawn(r, 3)...)
			c[k] ^= byte(1 + r.Intn(255))
			refused(t, "P2.8: a byte changed", c, api.ErrCodecSum)
		}
	}
	f := framed(t, []byte("ab"))
	for k := range f {
		for x := range 255 {
			c := bytes.Clone(f)
			c[k] ^= byte(x + 1)
			if k != 4 {
				refused(t, "P2.8: each other byte", c, api.ErrCodecSum)
			}
		}
	}
}
