package format_test

import (
	"math/rand"
	"reflect"
	"testing"

	"evergreen/api"
	"evergreen/format"
)

// TestSame is for P4.1: tables that are equal, and tables that differ in one place, valid or not.
func TestSame(t *testing.T) {
	a := []api.Format{{ID: 5, Fields: []api.Field{{Kind: 1, N: 2, From: 3, Text: "four"}, {Kind: -5}}}, {ID: 3}}
	if !format.Same(a, copied(a)) || !format.Same(a, a) {
		t.Error("a table is not the same as itself")
	}
	for why, change := range map[string]func(b []api.Format) []api.Format{
		"an ID":         func(b []api.Format) []api.Format { b[0].ID = 6; return b },
		"the second ID": func(b []api.Format) []api.Format { b[1].ID = 6; return b },
		"a kind":        func(b []api.Format) []api.Format { b[0].Fields[0].Kind = 6; return b },
		"a size":        func(b []api.Format) []api.Format { b[0].Fields[0].N = 6; return b },
		"a number":      func(b []api.Format) []api.Format { b[0].Fields[0].From = 6; return b },
		"a text":        func(b []api.Format) []api.Format { b[0].Fields[0].Text = "five"; return b },
		"a later field": func(b []api.Format) []api.Format { b[0].Fields[1].N = 6; return b },
		"order":         func(b []api.Format) []api.Format { b[0], b[1] = b[1], b[0]; return b },
		"fewer fields":  func(b []api.Format) []api.Format { b[0].Fields = b[0].Fields[:1]; return b },
		"more fields":   func(b []api.Format) []api.Format { b[1].Fields = make([]api.Field, 1); return b },
		"fewer formats": func(b []api.Format) []api.Format { return b[:1] },
		"more formats":  func(b []api.Format) []api.Format { return append(b, api.Format{}) },
		"no formats":    func(b []api.Format) []api.Format { return nil },
	} {
		if b := change(copied(a)); format.Same(a, b) || format.Same(b, a) {
			t.Errorf("%s: the same", why)
		}
	}
}

// TestSameOfNothing is for P4.1 and R3: nil and empty slices are equivalent.
func TestSameOfNothing(t *testing.T) {
	if !format.Same(nil, nil) || !format.Same(nil, []api.Format{}) || !format.Same([]api.Format{}, nil) {
		t.Error("tables without formats")
	}
	if !format.Same([]api.Format{{ID: 1}}, []api.Format{{ID: 1, Fields: []api.Field{}}}) {
		t.Error("formats without fields")
	}
	if format.Same(nil, make([]api.Format, 1)) || format.Same(make([]api.Format, 1), nil) {
		t.Error("a table with a zero format")
	}
}

// TestFind is for P4.1: the first format with an ID is found, in tables that are valid or not.
func TestFind(t *testing.T) {
	l := []api.Format{of(7, fixed(1)), of(-3), of(7, fixed(2)), of(0, api.Field{Kind: 9, N: -1, From: 5, Text: "text"}), of(2, number(1), counted(0))}
	for _, c := range []struct{ id, at int }{{7, 0}, {-3, 1}, {0, 3}, {2, 4}} {
		f, ok := format.Find(l, c.id)
		if !ok || !format.Same([]api.Format{f}, l[c.at:c.at+1]) {
			t.Errorf("Find(%d) = %v, %v", c.id, f, ok)
		}
	}
	for _, id := range []int{-1 << 63, -1, 1, 3, 8, 1<<63 - 1} {
		if f, ok := format.Find(l, id); ok || f.ID != 0 || len(f.Fields) != 0 {
			t.Errorf("Find(%d) = %v, %v", id, f, ok)
		}
	}
	if f, ok := format.Find(nil, 0); ok || f.ID != 0 || len(f.Fields) != 0 {
		t.Errorf("in an empty table: %v, %v", f, ok)
	}
}

// TestChangedAreNotSame is for P4.1: Same agrees with a comparison of everything in two tables.
func TestChangedAreNotSame(t *testing.T) {
	r := rand.New(rand.NewSource(5))
	for range 2000 {
		a := randomTable(r, 1+r.Intn(4))
		b := changed(r, a)
		want := len(a) == len(b)
		for i := 0; want && i < len(a); i++ {
			want = a[i].ID == b[i].ID && reflect.DeepEqual(a[i].Fields, b[i].Fields)
		}
		if format.Same(a, b) != want || format.Same(b, a) != want {
			t.Fatalf("Same(%v, %v) is not %v", a, b, want)
		}
	}
}
