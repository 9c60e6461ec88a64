package freezer

import (
	"slices"
	"strconv"
	"strings"

	"moraine/api"
)

// A freezer's files: one without bytes, whose name tells Tail, so that Tail changes at one moment and needs no room for it; and of each table parts, one behind the other, whose names tell which tables there are, and the parts' first items.
const (
	prefix     = "old-"
	tailPrefix = prefix + "tail-"
	partPrefix = prefix + "part-"
	partWords  = 6 // of a part's name
)

const (
	maxTableName = 16
	maxNumber    = 1<<31 - 1 // of an item
)

// areTables tells whether a freezer may have these tables.
func areTables(tables []string) bool {
	if len(tables) < 1 || len(tables) > api.MaxTables {
		return false
	}
	for i, name := range tables {
		if !isTable(name) || slices.Contains(tables[:i], name) {
			return false
		}
	}
	return true
}

func isTable(name string) bool {
	for i := range len(name) {
		if name[i] < 'a' || name[i] > 'z' {
			return false
		}
	}
	return 1 <= len(name) && len(name) <= maxTableName
}

// label: what a part's name tells of its table: how many tables there are, which of them it is, what it is called.
type label struct {
	count, index int
	name         string
}

func labelsOf(tables []string) []label {
	var labels []label
	for i, name := range tables {
		labels = append(labels, label{len(tables), i, name})
	}
	return labels
}

// part tells the name of the table's part that begins with the item base.
func (x label) part(base int) string {
	return partPrefix + strconv.Itoa(x.count) + "-" + strconv.Itoa(x.index) + "-" + x.name + "-" + strconv.Itoa(base)
}

func tailName(tail int) string { return tailPrefix + strconv.Itoa(tail) }

// found: the files of a freezer that a disk has.
type found struct {
	tails []int           // of which a freezer has one
	parts map[label][]int // the first items of each table's parts, rising
	stray []string        // what no freezer makes
}

// find tells which files of a freezer there are.
func (x files) find() (found, error) {
	names, err := x.names()
	if err != nil {
		return found{}, err
	}
	l := found{parts: map[label][]int{}}
	for _, name := range names {
		if strings.HasPrefix(name, prefix) {
			l.add(name)
		}
	}
	for _, bases := range l.parts {
		slices.Sort(bases)
	}
	return l, nil
}

// add puts a file to its like.
func (l *found) add(name string) {
	words := strings.Split(name, "-")
	number, _ := numberOf(words[len(words)-1])
	table, isPart := labelOf(words)
	switch {
	case name == tailName(number):
		l.tails = append(l.tails, number)
	case isPart && name == table.part(number):
		l.parts[table] = append(l.parts[table], number)
	default:
		l.stray = append(l.stray, name)
	}
}

// labelOf tells what the words of a part's name tell of its table; false, if there is no such one.
func labelOf(words []string) (label, bool) {
	if len(words) != partWords {
		return label{}, false
	}
	count, ok := numberOf(words[2])
	index, here := numberOf(words[3])
	return label{count, index, words[4]}, ok && here && index < count && count <= api.MaxTables && isTable(words[4])
}

// numberOf tells the number that a word of a name is; false, if it is none that may be.
func numberOf(word string) (int, bool) {
	n, err := strconv.Atoi(word)
	if err != nil || n < 0 || n > maxNumber {
		return 0, false
	}
	return n, true
}
