package format

import (
	"errors"

	"evergreen/api"
)

// errWrong stops the reading of what is not valid.
var errWrong = errors.New("format: not valid")

// completes reports whether f comes to its end, and is not stopped.
func completes(f func()) (ok bool) {
	defer func() {
		ok = recover() == nil
	}()
	f()
	return true
}

// require stops the reading if a condition does not hold.
func require(condition bool) {
	if !condition {
		panic(errWrong)
	}
}

// table is the beginning of a valid table. Its methods begin, add and end stop the reading if no valid table begins with what would then be there: since any format can be completed, and nothing refers to what follows it, each line can be judged by those before it.
type table struct {
	kinds   [api.FCheck + 1]kind
	formats []api.Format        // those that are complete
	least   map[int]int         // the least lengths of those, by their IDs
	open    api.Format          // the one that is being read; its ID is 0 before the first one
	length  int                 // the least length of the fields of open
	used    [api.MaxFields]bool // which fields of open are the From of another one
}

// empty returns a table without formats.
func empty() *table {
	return &table{kinds: kinds(), least: make(map[int]int)}
}

// build returns the table that is l, and whether l is valid.
func build(l []api.Format) (*table, bool) {
	t := empty()
	ok := completes(func() {
		for _, f := range l {
			t.begin(f.ID)
			for _, field := range f.Fields {
				t.add(field)
			}
		}
		t.end()
	})
	return t, ok
}

// begin ends the format that is open, and opens the next one.
func (t *table) begin(id int) {
	t.end()
	require(len(t.formats) < api.MaxFormats)
	require(id > t.open.ID && id <= api.MaxID)
	t.open, t.length, t.used = api.Format{ID: id}, 0, [api.MaxFields]bool{}
}

// add puts a field at the end of the format that is open.
func (t *table) add(f api.Field) {
	require(t.open.ID > 0 && len(t.open.Fields) < api.MaxFields)
	require(f.Kind >= api.FLiteral && f.Kind <= api.FCheck)
	k := t.kinds[f.Kind]
	require(k.right(t, f))
	t.length += k.least(t, f)
	require(t.length <= api.MaxStream)
	if f.From >= 0 {
		t.used[f.From] = true
	}
	t.open.Fields = append(t.open.Fields, f)
}

// end completes the format that is open, if there is one.
func (t *table) end() {
	if t.open.ID == 0 {
		return
	}
	require(len(t.open.Fields) > 0)
	t.formats = append(t.formats, t.open)
	t.least[t.open.ID] = t.length
}

// knows reports whether id is that of a format before the one that is open.
func (t *table) knows(id int) bool {
	_, ok := t.least[id]
	return ok
}

// counts reports whether the next field may have from as its From: whether it is a number that no field has yet.
func (t *table) counts(from int) bool {
	return from >= 0 && from < len(t.open.Fields) && t.open.Fields[from].Kind == api.FNumber && !t.used[from]
}

// tells reports whether a number, which is an earlier field, can be as great as n.
func (t *table) tells(from int, n int) bool {
	return n < 1<<(8*t.open.Fields[from].N)
}
