package lsm_test

import (
	"fmt"
	"math/rand"
	"testing"

	"moraine/api"
	"moraine/disk"
	"moraine/lsm"
)

// deed: something to be done to a store.
type deed struct {
	what  string
	batch []api.Op
	n     int
}

// do tells the error of the call that does it.
func (x deed) do(db *lsm.DB) error {
	var err error
	switch x.what {
	case "write":
		return db.Write(x.batch)
	case "flush":
		return db.Flush()
	case "compact":
		_, err = db.Compact(x.n)
	case "settle":
		_, err = db.Settle(x.n)
	case "hold":
		_, err = db.Hold()
	}
	return err
}

// someDeeds: a row of deeds with each kind of them that has something to do, and others.
func someDeeds(r *rand.Rand, count int) []deed {
	write := func() deed { return deed{what: "write", batch: append(drawnBatch(r, 5), set("last", "1"))} }
	l := []deed{write(), {what: "flush"}, write(), {what: "flush"}, {what: "compact"}, write(), {what: "settle", n: 3}}
	return append(l, drawnDeeds(r, count)...)
}

// drawnDeeds: a row of deeds that flushes and merges often.
func drawnDeeds(r *rand.Rand, count int) []deed {
	var l []deed
	for range count {
		switch r.Intn(9) {
		case 0, 1:
			l = append(l, deed{what: "flush"})
		case 2:
			l = append(l, deed{what: "compact", n: r.Intn(2)})
		case 3:
			l = append(l, deed{what: "settle", n: r.Intn(4)})
		case 4:
			l = append(l, deed{what: "hold"})
		default:
			l = append(l, deed{what: "write", batch: drawnBatch(r, 5)})
		}
	}
	return l
}

// outcome: how far a row of deeds came.
type outcome struct {
	db       *lsm.DB
	m        *model   // all that was acknowledged
	inFlight []api.Op // what a Write had that answered an error
	version  string   // what it was ahead of the deed that answered an error
	did      deed     // that one
	err      error
}

// play opens a store and does a row of deeds, up to the first error. (What was held is so no more.)
func play(d *disk.Disk, o api.Options, m *model, deeds []deed) outcome {
	clear(m.held)
	out := outcome{m: m}
	if out.db, out.err = lsm.Open(d, o); out.err != nil {
		return out
	}
	for _, x := range deeds {
		out.version, out.did = fmt.Sprint(out.db.Version()), x
		if out.err = x.do(out.db); out.err != nil {
			out.inFlight = x.batch
			return out
		}
		m.write(x.batch)
		if x.what == "hold" {
			m.held[m.last()]++
		}
	}
	return out
}

// settled: that a store that was opened again has the history that P11.7 asks for, which is the model's from then on.
func settled(t *testing.T, r *rand.Rand, db *lsm.DB, out outcome) {
	t.Helper()
	clear(out.m.held)
	if db.Last() != out.m.last() {
		out.m.write(out.inFlight)
	}
	agree(t, r, db, out.m)
	if db.Dead() != nil {
		t.Fatalf("P11.7: dead: %v", db.Dead())
	}
}

// drawnCrash: some of what was pending survives.
func drawnCrash(r *rand.Rand) api.Crash {
	c := api.Crash{Names: r.Intn(8)}
	most := []int{2, 20, 200, 2000}[r.Intn(4)]
	for range 400 {
		c.Bytes = append(c.Bytes, r.Intn(most))
	}
	return c
}

// crashes: nothing that was pending survives, all of it, some of it.
func crashes(r *rand.Rand) []api.Crash {
	all := api.Crash{Names: 1 << 20, Bytes: make([]int, 4000)}
	for i := range all.Bytes {
		all.Bytes[i] = 1 << 26
	}
	return []api.Crash{{}, all, {Bytes: all.Bytes}, {Names: 1 << 20}, drawnCrash(r), drawnCrash(r), drawnCrash(r)}
}

// goesOn: that a store takes writes, and that these are sure.
func goesOn(t *testing.T, r *rand.Rand, d *disk.Disk, o api.Options, m *model) {
	t.Helper()
	for range 2 {
		more := append(drawnDeeds(r, 4), deed{what: "write", batch: []api.Op{set("more", "1")}})
		out := play(d, o, m, more)
		if out.err != nil {
			t.Fatalf("P11.7: it doesn't go on: %v", out.err)
		}
		d.Restart(api.Crash{})
		settled(t, r, opened(t, d, o), out)
	}
}
