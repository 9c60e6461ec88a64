package manifest_test

import (
	"math/rand"
	"testing"

	"moraine/api"
	"moraine/manifest"
	"moraine/wal"
)

func TestReplayOfNothing(t *testing.T) {
	x, _ := logOf("\x01\x02\x00\x00\x00")
	for _, log := range [][]byte{nil, {}, {0}, []byte("no log"), make([]byte, 6), make([]byte, 64), make([]byte, 1000), x[:len(x)-1], x[1:]} {
		v, n, size, wrong := replayed(t, "nothing", log)
		if !same(v, api.Version{}) || n != 0 || size != 0 || wrong != api.OK {
			t.Errorf("P9.4: %x: %v, %d, %d, %d", log, v, n, size, wrong)
		}
	}
}

func TestReplayOfOne(t *testing.T) {
	log, _ := logOf("\x01\x02\x00\x00\x00")
	for _, tail := range []string{"", "\x00", "\x00\x00\x00\x00\x00\x00\x00", "torn", string(log[:7]), string(log[:len(log)-1])} {
		v, n, size, wrong := replayed(t, "one", append(log[:len(log):len(log)], tail...))
		if !same(v, api.Version{Log: 1, Next: 2}) || n != 1 || size != 12 || wrong != api.OK {
			t.Errorf("P9.4: %x behind it: %v, %d, %d, %d", tail, v, n, size, wrong)
		}
	}
}

// drawnRow: edits that can be applied one behind the other, and the versions that they make.
func drawnRow(r *rand.Rand, n int) (records []string, versions []api.Version) {
	v := api.Version{}
	for len(records) < n {
		e := drawnGood(r, v)
		w, wrong := applyByWords(v, e)
		if wrong != api.OK {
			continue
		}
		v = w
		b, _ := encodeByWords(e)
		records, versions = append(records, b), append(versions, v)
	}
	return records, versions
}

// cutOff: that of a log that is cut off those edits are told that lie wholly ahead of the cut.
func cutOff(t *testing.T, what string, log []byte, ends []int, versions []api.Version, cut, until int) {
	t.Helper()
	whole, size := 0, 0
	var want api.Version
	for whole < len(ends) && ends[whole] <= until {
		size, want = ends[whole], versions[whole]
		whole++
	}
	v, n, end, wrong := replayed(t, what, log[:cut])
	if !same(v, want) || n != whole || end != size || wrong != api.OK {
		t.Errorf("P9.5: %s: cut at %d: %v, %d, %d, %d, want %v, %d, %d", what, cut, v, n, end, wrong, want, whole, size)
	}
}

func TestCutLogs(t *testing.T) {
	r := rand.New(rand.NewSource(6))
	for range 30 {
		records, versions := drawnRow(r, 1+r.Intn(8))
		log, ends := logOf(records...)
		for cut := range len(log) + 1 {
			cutOff(t, "cut", log, ends, versions, cut, cut)
		}
	}
}

// isLength: whether a byte of a log is one of the two of a fragment's length, about which P5.3 promises nothing.
func isLength(log []byte, i int) bool {
	at := 0
	for at < len(log) {
		if left := 64 - at%64; left < 7 {
			at += left
			continue
		}
		if i >= at+4 && i < at+6 {
			return true
		}
		at += 7 + int(log[at+4]) + int(log[at+5])<<8
	}
	return false
}

func TestChangedLogs(t *testing.T) {
	r := rand.New(rand.NewSource(7))
	for range 30 {
		records, versions := drawnRow(r, 1+r.Intn(6))
		log, ends := logOf(records...)
		for i := range log {
			by := byte(1 + r.Intn(255))
			log[i] ^= by
			if isLength(log, i) {
				replayed(t, "a changed length", log)
			} else {
				cutOff(t, "changed", log, ends, versions, len(log), i)
			}
			log[i] ^= by
		}
	}
}

func TestRecordsThatEndIt(t *testing.T) {
	first := "\x01\x09\x05\x00\x00"
	good := "\x02\x09\x05\x00\x00"
	encode := func(e api.Edit) string {
		b, wrong := encodeByWords(e)
		if wrong != api.OK {
			t.Fatalf("no edit: %v", e)
		}
		return b
	}
	bad := []struct {
		record string
		want   api.Errno
	}{
		{"", api.ErrManifestForm},
		{"?", api.ErrManifestForm},
		{first + "\x00", api.ErrManifestForm},
		{first[:4], api.ErrManifestForm},
		{"\x81\x00\x09\x05\x00\x00", api.ErrManifestForm},
		{encode(api.Edit{Log: 2, Next: 9, Seq: 5, Drop: []api.Gone{gone(0, 0)}}), api.ErrManifestNone},
		{encode(api.Edit{Log: 0, Next: 8, Seq: 5, Add: []api.Placed{placed(0, file(8, "a", "b"))}}), api.ErrManifestBack},
		{encode(api.Edit{Log: 2, Next: 9, Seq: 5, Add: []api.Placed{placed(0, file(9, "a", "b"))}}), api.ErrManifestBack},
		{encode(api.Edit{Log: 2, Next: 9, Seq: 5, Add: []api.Placed{placed(0, file(8, "a", "b")), placed(1, file(8, "a", "b"))}}), api.ErrManifestTwice},
		{encode(api.Edit{Log: 2, Next: 9, Seq: 5, Add: []api.Placed{placed(1, file(8, "a", "b")), placed(1, file(7, "b", "c"))}}), api.ErrManifestOver},
	}
	for i, c := range bad {
		for _, records := range [][]string{{c.record}, {first, c.record}, {first, c.record, good}, {first, good, c.record}, {first, good, good, c.record}, {c.record, good}} {
			log, _ := logOf(records...)
			v, n, size, wrong := replayed(t, "bad", log)
			if !same(v, api.Version{}) || n != 0 || size != 0 || wrong != c.want {
				t.Errorf("P9.4: record %d of %d: %v, %d, %d, %d, want %d", i, len(records), v, n, size, wrong, c.want)
			}
		}
		for k, d := range bad { // the first one counts
			log, _ := logOf(first, c.record, d.record)
			if _, _, _, wrong := replayed(t, "two bad ones", log); wrong != c.want {
				t.Errorf("P9.4: records %d, %d: %d, want %d", i, k, wrong, c.want)
			}
		}
		// One that is torn isn't there.
		log, ends := logOf(first, c.record)
		v, n, size, wrong := replayed(t, "torn", log[:len(log)-1])
		if !same(v, api.Version{Log: 1, Next: 9, Seq: 5}) || n != 1 || size != ends[0] || wrong != api.OK {
			t.Errorf("P9.4: record %d torn: %v, %d, %d, %d", i, v, n, size, wrong)
		}
	}
	for _, c := range []string{"\x00\x09\x05\x00\x00", "\x01\x08\x05\x00\x00", "\x01\x09\x04\x00\x00"} {
		log, _ := logOf(first, c)
		if _, _, _, wrong := replayed(t, "back", log); wrong != api.ErrManifestBack {
			t.Errorf("P9.4: %x: %d", c, wrong)
		}
	}
}

// TestReplayIsApply: P9.5, with the package's own calls throughout.
func TestReplayIsApply(t *testing.T) {
	r := rand.New(rand.NewSource(8))
	for range 2000 {
		var v api.Version
		var log []byte
		n, ended := 0, api.OK
		for range r.Intn(10) {
			e := drawnGood(r, v)
			if r.Intn(10) == 0 {
				e = hurtEdit(r, e)
			}
			b, wrong := manifest.Encode(e)
			if wrong != api.OK {
				continue
			}
			more, _ := wal.Append(len(log), b)
			log = append(log, more...)
			n++
			if ended == api.OK {
				v, ended = manifest.Apply(v, e)
			}
		}
		size := len(log)
		if ended != api.OK {
			v, n, size = api.Version{}, 0, 0
		}
		w, m, end, wrong := replayed(t, "drawn", log)
		if !same(w, v) || m != n || end != size || wrong != ended {
			t.Fatalf("P9.5: %v, %d, %d, %d, want %v, %d, %d, %d", w, m, end, wrong, v, n, size, ended)
		}
	}
}

// TestLogGoesOn: behind what Replay told, edits may be appended, whatever was torn there.
func TestLogGoesOn(t *testing.T) {
	r := rand.New(rand.NewSource(9))
	for range 200 {
		records, _ := drawnRow(r, 6)
		log, _ := logOf(records...)
		log = log[:r.Intn(len(log)+1)]
		v, n, size, _ := manifest.Replay(log)
		e := drawnGood(r, v)
		want, wrong := applyByWords(v, e)
		if wrong != api.OK {
			continue
		}
		b, _ := manifest.Encode(e)
		more, _ := wal.Append(size, b)
		w, m, end, no := replayed(t, "goes on", append(log[:size:size], more...))
		if !same(w, want) || m != n+1 || end != size+len(more) || no != api.OK {
			t.Errorf("P9.5: %v, %d, %d, %d", w, m, end, no)
		}
	}
}

// TestLongLogs: some thousand edits, with few and with many tables.
func TestLongLogs(t *testing.T) {
	for _, kept := range []int{1, 300} {
		var records []string
		for i := range 2000 {
			e := api.Edit{Log: i, Next: i + 1, Seq: uint64(i), Add: []api.Placed{placed(0, file(i, "a", "b"))}}
			if i >= kept {
				e.Drop = []api.Gone{gone(0, i-kept)}
			}
			b, _ := encodeByWords(e)
			records = append(records, b)
		}
		log, _ := logOf(records...)
		v, n, size, wrong := manifest.Replay(log)
		if len(v.Levels[0]) != kept || v.Levels[0][0].Number != 2000-kept || v.Next != 2000 || n != 2000 || size != len(log) || wrong != api.OK {
			t.Errorf("P9.4: %d tables, %d, %d, %d", len(v.Levels[0]), n, size, wrong)
		}
	}
}
