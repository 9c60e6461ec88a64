package disk_test

import (
	"fmt"
	"maps"
	"math"
	"math/rand"
	"slices"
	"strings"
	"testing"

	"moraine/api"
	"moraine/disk"
)

// model: a disk that keeps, for names and for each file's bytes, every state that a Restart could leave: the sure one first, then one for each change of names, each byte written and each Truncate.
type model struct {
	capacity, count, made int
	names                 []map[string]int
	bytes                 map[int][]string
	failAt, haltAt        int // the numbers of calls; 0: none
	down                  bool
}

func newModel(capacity int) *model {
	return &model{capacity: capacity, names: []map[string]int{{}}, bytes: map[int][]string{}}
}

func last[T any](l []T) T { return l[len(l)-1] }

func (m *model) now() map[string]int { return last(m.names) }

func (m *model) used() int {
	n := 0
	for _, f := range m.now() {
		n += len(last(m.bytes[f]))
	}
	return n
}

func (m *model) begin() api.Errno {
	m.count++
	m.down = m.down || m.count == m.haltAt
	switch {
	case m.down:
		return api.ErrDiskDown
	case m.count == m.failAt:
		return api.ErrDiskIO
	}
	return api.OK
}

func good(name string) bool {
	return len(name) > 0 && len(name) <= 64 && strings.Trim(name, "abcdefghijklmnopqrstuvwxyz0123456789.-_") == ""
}

// errors: of a name and of a file that must be there.
func (m *model) errors(names ...string) api.Errno {
	if e := m.begin(); e != api.OK {
		return e
	}
	for _, name := range names {
		if !good(name) {
			return api.ErrDiskName
		}
	}
	if _, there := m.now()[names[0]]; !there {
		return api.ErrDiskNone
	}
	return api.OK
}

func (m *model) rename(change func(map[string]int)) {
	next := maps.Clone(m.now())
	change(next)
	m.names = append(m.names, next)
}

func (m *model) create(name string) api.Errno {
	e := m.errors(name)
	if e == api.OK {
		return api.ErrDiskThere
	}
	if e != api.ErrDiskNone {
		return e
	}
	m.rename(func(names map[string]int) { names[name] = m.made })
	m.bytes[m.made] = []string{""}
	m.made++
	return api.OK
}

// write: of an Append, if add.
func (m *model) write(name string, at int, add bool, b string) api.Errno {
	if e := m.errors(name); e != api.OK {
		return e
	}
	f := m.now()[name]
	s := last(m.bytes[f])
	if add {
		at = len(s)
	}
	if at < 0 || at > len(s) {
		return api.ErrDiskPlace
	}
	if more := at + len(b) - len(s); more > 0 && m.used()+more > m.capacity {
		return api.ErrDiskFull
	}
	for i := range len(b) {
		head, tail := s[:at+i]+b[i:i+1], ""
		if at+i < len(s) {
			tail = s[at+i+1:]
		}
		s = head + tail
		m.bytes[f] = append(m.bytes[f], s)
	}
	return api.OK
}

func (m *model) truncate(name string, n int) api.Errno {
	if e := m.errors(name); e != api.OK {
		return e
	}
	f := m.now()[name]
	s := last(m.bytes[f])
	if n < 0 || n > len(s) {
		return api.ErrDiskPlace
	}
	if n < len(s) {
		m.bytes[f] = append(m.bytes[f], s[:n])
	}
	return api.OK
}

func (m *model) sync(name string) api.Errno {
	e := m.errors(name)
	if e == api.OK {
		f := m.now()[name]
		m.bytes[f] = []string{last(m.bytes[f])}
	}
	return e
}

func (m *model) syncDir() api.Errno {
	e := m.begin()
	if e == api.OK {
		m.names = []map[string]int{m.now()}
	}
	return e
}

func (m *model) move(from, to string) api.Errno {
	e := m.errors(from, to)
	if e == api.OK && from != to {
		m.rename(func(names map[string]int) {
			names[to] = names[from]
			delete(names, from)
		})
	}
	return e
}

func (m *model) remove(name string) api.Errno {
	e := m.errors(name)
	if e == api.OK {
		m.rename(func(names map[string]int) { delete(names, name) })
	}
	return e
}

func (m *model) restart(c api.Crash) {
	m.names = []map[string]int{m.names[min(max(c.Names, 0), len(m.names)-1)]}
	bytes := map[int][]string{}
	for _, f := range m.now() {
		n := 0
		if f < len(c.Bytes) {
			n = max(c.Bytes[f], 0)
		}
		bytes[f] = []string{m.bytes[f][min(n, len(m.bytes[f])-1)]}
	}
	m.bytes = bytes
	m.failAt, m.haltAt, m.down = 0, 0, false
}

func (m *model) told() string {
	if m.down {
		return fmt.Sprint("error ", int(api.ErrDiskDown), " used ", m.used())
	}
	s := fmt.Sprint("error 0 used ", m.used())
	for _, name := range slices.Sorted(maps.Keys(m.now())) {
		s += fmt.Sprintf(" %s=%q", name, last(m.bytes[m.now()[name]]))
	}
	return s
}

// step does one and the same random call on both, and tells what it was and what both answered.
func step(r *rand.Rand, d *disk.Disk, m *model) (string, api.Errno, api.Errno) {
	names := []string{"a", "b", "c", "d", "e", "a", "b", "c", "d", "e", "a", "b", "c", "d", "e", "A", ""}
	name, to := names[r.Intn(len(names))], names[r.Intn(len(names))]
	b := "0123456789"[:r.Intn(6)]
	n := r.Intn(9) - 1
	switch k := r.Intn(60); {
	case k < 10:
		return "Create " + name, d.Create(name), m.create(name)
	case k < 22:
		return "Append " + name + " " + b, d.Append(name, []byte(b)), m.write(name, 0, true, b)
	case k < 30:
		return fmt.Sprint("WriteAt ", name, n, b), d.WriteAt(name, n, []byte(b)), m.write(name, n, false, b)
	case k < 35:
		return fmt.Sprint("Truncate ", name, n), d.Truncate(name, n), m.truncate(name, n)
	case k < 40:
		return "Sync " + name, d.Sync(name), m.sync(name)
	case k < 47:
		return "Rename " + name + " " + to, d.Rename(name, to), m.move(name, to)
	case k < 51:
		return "Remove " + name, d.Remove(name), m.remove(name)
	case k < 54:
		return "SyncDir", d.SyncDir(), m.syncDir()
	case k < 56:
		d.Fail(n)
		m.failAt = 0
		if n > 0 {
			m.failAt = m.count + n
		}
		return fmt.Sprint("Fail ", n), 0, 0
	case k < 57:
		d.Halt(n)
		m.haltAt = 0
		if n >= 0 {
			m.haltAt = m.count + n + 1
		}
		return fmt.Sprint("Halt ", n), 0, 0
	}
	c := randomCrash(r, m)
	d.Restart(c)
	m.restart(c)
	return fmt.Sprint("Restart ", c), 0, 0
}

func randomCrash(r *rand.Rand, m *model) api.Crash {
	c := api.Crash{Names: r.Intn(8) - 1}
	for range r.Intn(m.made + 2) {
		c.Bytes = append(c.Bytes, r.Intn(12)-1)
	}
	return c
}

func TestModel(t *testing.T) {
	for seed := range int64(3000) {
		r := rand.New(rand.NewSource(seed))
		capacity := 5 + r.Intn(30)
		d, m := made(t, capacity), newModel(capacity)
		var calls []string
		for range 80 {
			call, got, want := step(r, d, m)
			calls = append(calls, call)
			if got != want || told(d) != m.told() || d.Count() != m.count {
				t.Fatalf("P1.1 to P1.7: seed %d:\n%s\n got %d, %s, count %d\nwant %d, %s, count %d", seed, strings.Join(calls, "\n"), got, told(d), d.Count(), want, m.told(), m.count)
			}
		}
	}
}

// TestSurvives: what the layer is for.
func TestSurvives(t *testing.T) {
	for seed := range int64(1000) {
		r := rand.New(rand.NewSource(seed))
		d, m := made(t, 40), newModel(40)
		for range 40 {
			step(r, d, m)
		}
		if m.down {
			c := randomCrash(r, m)
			d.Restart(c)
			m.restart(c)
		}
		d.Fail(0)
		d.Halt(-1)
		before := told(d)
		if seed%2 == 0 { // great enough
			d.Restart(api.Crash{Names: math.MaxInt, Bytes: slices.Repeat([]int{math.MaxInt}, m.made)})
		} else { // all is synced
			names, _ := d.Names()
			for _, name := range names {
				ok(t, d.Sync(name))
			}
			ok(t, d.SyncDir())
			d.Restart(randomCrash(r, m))
		}
		holds(t, fmt.Sprint("P1.8: seed ", seed), d, before)
	}
}
