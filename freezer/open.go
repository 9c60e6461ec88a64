package freezer

import (
	"cmp"
	"maps"
	"slices"

	"moraine/api"
	"moraine/disk"
)

// open tells the freezer of a disk; a part of a table that has room bytes takes no further item.
func open(d *disk.Disk, tables []string, room int) (*Freezer, error) {
	if !areTables(tables) {
		return nil, fault("open", api.ErrFreezerTables)
	}
	f := &Freezer{files: files{d}}
	for _, x := range labelsOf(tables) {
		f.tables = append(f.tables, &table{files: f.files, label: x, room: room})
	}
	if err := f.start(); err != nil {
		return nil, fault("open", ofFiles(err))
	}
	return f, nil
}

// start makes a new freezer, if the disk has none, and else takes up what was left. Behind it all that the freezer tells is sure.
func (f *Freezer) start() error {
	l, err := f.files.find()
	if err != nil {
		return err
	}
	if len(l.tails) > 0 {
		if err := f.takeUp(l); err != nil {
			return err
		}
		return f.mend()
	}
	names, err := f.remains(l)
	if err != nil {
		return err
	}
	return f.make(names)
}

// remains tells the files that a making of a freezer left that was cut off, as they were made; the error, if none left them so.
func (f *Freezer) remains(l found) ([]string, error) {
	if len(l.stray) > 0 {
		return nil, fault(l.stray[0], api.ErrFreezerBroken)
	}
	labels := slices.SortedFunc(maps.Keys(l.parts), byIndex)
	var names, tables []string
	for i, x := range labels {
		if x.index != i || x.count != labels[0].count || slices.Contains(tables, x.name) || !slices.Equal(l.parts[x], []int{0}) {
			return nil, fault("parts of "+x.name, api.ErrFreezerBroken)
		}
		if err := f.files.checkEmpty(x.part(0)); err != nil {
			return nil, err
		}
		names, tables = append(names, x.part(0)), append(tables, x.name)
	}
	return names, nil
}

func byIndex(a, b label) int {
	return cmp.Or(cmp.Compare(a.index, b.index), cmp.Compare(a.count, b.count), cmp.Compare(a.name, b.name))
}

// make makes a freezer without items, in the place of what a making left that was cut off. It is there from the moment on at which it has a Tail.
func (f *Freezer) make(remains []string) error {
	var steps []func() error
	// The last one goes first: whatever is left then, a making could have left, too.
	for _, name := range slices.Backward(remains) {
		steps = append(steps, func() error { return f.files.remove(name) })
	}
	for _, t := range f.tables {
		p := &part{name: t.label.part(0)}
		t.parts = append(t.parts, p)
		steps = append(steps, func() error { return f.files.create(p.name) })
	}
	steps = append(steps,
		func() error { return f.files.create(tailName(0)) },
		f.files.syncNames)
	return f.change(steps...)
}

// takeUp reads the files of a freezer.
func (f *Freezer) takeUp(l found) error {
	if err := f.checkFiles(l); err != nil {
		return err
	}
	f.tail = l.tails[0]
	for i, t := range f.tables {
		if err := t.load(l.parts[t.label]); err != nil {
			return fault(t.label.name, err)
		}
		if t.parts[0].base > f.tail {
			return fault(t.label.name+" begins too late", api.ErrFreezerBroken)
		}
		if i == 0 || t.end() < f.head {
			f.head = t.end()
		}
	}
	if f.head < f.tail {
		return fault("items that end too early", api.ErrFreezerBroken)
	}
	return nil
}

// checkFiles tells the error of files that other tables have, or no freezer.
func (f *Freezer) checkFiles(l found) error {
	for x := range l.parts {
		if x.index >= len(f.tables) || x != f.tables[x.index].label {
			return fault("other tables", api.ErrFreezerTables)
		}
	}
	if len(l.stray) > 0 {
		return fault(l.stray[0], api.ErrFreezerBroken)
	}
	if len(l.tails) > 1 {
		return fault("two tails", api.ErrFreezerBroken)
	}
	return f.files.checkEmpty(tailName(l.tails[0]))
}

// mend takes away what a TruncateTail that was cut off didn't come to, what not all tables have, and what is torn.
func (f *Freezer) mend() error {
	var steps []func() error
	for _, t := range f.tables {
		steps = append(steps, func() error { return t.drop(f.tail) })
	}
	// If power never fell since the freezer was left, names may be pending: they are sure ahead of bytes, as when a table is cut.
	steps = append(steps, f.files.syncNames)
	return f.change(append(steps, f.cuts(f.head)...)...)
}
