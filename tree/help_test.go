package tree_test

import (
	"maps"
	"slices"
	"strings"
	"testing"

	"offshoot/api"
	"offshoot/tree"
)

// form is a node's bytes as the chapter tells them, told here once more, so that no fault of the program's own hides in it.
func form(keys []string, kids ...uint64) string {
	b := []byte{byte(len(keys)), byte(len(kids))}
	for _, k := range keys {
		b = append(b, byte(len(k)))
		b = append(b, k...)
	}
	for _, id := range kids {
		for i := 7; i >= 0; i-- {
			b = append(b, byte(id>>(8*i)))
		}
	}
	return string(b)
}

// each is the bytes of a text as keys.
func each(s string) []string {
	var l []string
	for i := range len(s) {
		l = append(l, s[i:i+1])
	}
	return l
}

// of is the bytes of a node whose keys are a text's bytes.
func of(s string, kids ...uint64) string { return form(each(s), kids...) }

func laid(id uint64, s string) api.Change { return api.Change{ID: id, S: s} }

func gone(id uint64) api.Change { return api.Change{ID: id, Gone: true} }

// records are by their numbers.
type records map[uint64]string

func (r records) get(id uint64) (string, bool) {
	s, ok := r[id]
	return s, ok
}

// with is the records behind changes.
func (r records) with(l []api.Change) records {
	r = maps.Clone(r)
	if r == nil {
		r = records{}
	}
	for _, c := range l {
		if c.Gone {
			delete(r, c.ID)
		} else {
			r[c.ID] = c.S
		}
	}
	return r
}

// below is told here once more, byte by byte.
func below(a, b string) bool {
	for i := range min(len(a), len(b)) {
		if a[i] != b[i] {
			return a[i] < b[i]
		}
	}
	return len(a) < len(b)
}

// within is those keys, of a list that rises, that are in a span.
func within(l []string, s api.Span) []string {
	var in []string
	for _, k := range l {
		if !below(k, s.Low) && (s.High == "" || below(k, s.High)) {
			in = append(in, k)
		}
	}
	return in
}

// add puts keys that are not there.
func add(t *testing.T, x *tree.Tree, l ...string) {
	t.Helper()
	for _, k := range l {
		if ok, e := x.Add(k); !ok || e != api.OK {
			t.Fatalf("Add(%q): %t, %d", k, ok, e)
		}
	}
}

// drop takes keys away that are there.
func drop(t *testing.T, x *tree.Tree, l ...string) {
	t.Helper()
	for _, k := range l {
		if !x.Drop(k) {
			t.Fatalf("Drop(%q): false", k)
		}
	}
}

// fresh is a tree over no records, whose nodes have numbers from 1 on, with the bytes of a text as keys.
func fresh(t *testing.T, s string) *tree.Tree {
	t.Helper()
	x := tree.New(nil, 0, 1)
	add(t, x, each(s)...)
	return x
}

// changed holds a tree's changes, all of them, in their order.
func changed(t *testing.T, x *tree.Tree, want ...api.Change) {
	t.Helper()
	if l := x.Changes(); !slices.Equal(l, want) {
		t.Errorf("changes %v, must be %v", l, want)
	}
}

// stands holds a tree's root and the number that is next.
func stands(t *testing.T, x *tree.Tree, root, next uint64) {
	t.Helper()
	if x.Root() != root || x.Next() != next {
		t.Errorf("root %d, next %d; must be %d, %d", x.Root(), x.Next(), root, next)
	}
}

// sound holds that a tree is sound, and so deep.
func sound(t *testing.T, x *tree.Tree, deep int) {
	t.Helper()
	if d, ok := x.Sound(); d != deep || !ok {
		t.Errorf("Sound: %d, %t; must be %d deep", d, ok, deep)
	}
}

// unsound holds that a tree isn't.
func unsound(t *testing.T, x *tree.Tree) {
	t.Helper()
	if d, ok := x.Sound(); d != 0 || ok {
		t.Errorf("Sound: %d, %t; it isn't", d, ok)
	}
}

// keys is all keys of a tree in a span.
func keys(x *tree.Tree, s api.Span) []string {
	var l []string
	for k := range x.Range(s) {
		l = append(l, k)
	}
	return l
}

// has holds that a tree has just these keys, which rise.
func has(t *testing.T, x *tree.Tree, want []string) {
	t.Helper()
	if l := keys(x, api.Span{}); !slices.Equal(l, want) {
		t.Errorf("keys %q, must be %q", l, want)
	}
	for _, k := range want {
		if !x.Has(k) {
			t.Errorf("Has(%q): false", k)
		}
		for _, other := range []string{k + "\x00", k + "x", k[:len(k)/2], "x" + k} {
			if _, ok := slices.BinarySearch(want, other); x.Has(other) != ok {
				t.Errorf("Has(%q): %t", other, !ok)
			}
		}
	}
}

func long(n int) string { return strings.Repeat("k", n) }
