package tree_test

import (
	"math"
	"math/rand"
	"slices"
	"strconv"
	"testing"

	"offshoot/api"
	"offshoot/tree"
)

// noNodes has bytes that are no node's, of each form.
func noNodes() []string {
	return []string{
		"", "\x01", "\x01\x00", "\x00\x00", "\x00\x01" + form(nil, 7)[2:], of("abcde"), of("a", 7), of("ab", 1, 2), "\x01\x00\x02a",
		form([]string{long(91)}), of("ba"), of("aa"), of("ab") + "\x00", of("a", 1, 2) + "\x00", of("a", 1, 2)[:19],
	}
}

// without is records without one.
func (r records) without(id uint64) records { return r.with([]api.Change{gone(id)}) }

// spoilt has records in which one is not there, or is of another form, each way.
func spoilt(was records, id uint64) []records {
	l := []records{was.without(id)}
	for _, s := range noNodes() {
		l = append(l, was.with([]api.Change{laid(id, s)}))
	}
	return l
}

// TestNoRoot: a root whose record is not there, or is of another form, has no keys; what is put stands in its place.
func TestNoRoot(t *testing.T) {
	gets := []func(uint64) (string, bool){nil}
	for _, r := range spoilt(records{1: of("ab")}, 7) {
		gets = append(gets, r.get)
	}
	for _, get := range gets {
		x := tree.New(get, 7, 9)
		unsound(t, x)
		has(t, x, nil)
		for _, k := range []string{"", "a", "b", long(91)} {
			if x.Has(k) || x.Drop(k) {
				t.Errorf("%q is there", k)
			}
		}
		changed(t, x)
		stands(t, x, 7, 9)
		add(t, x, each("ab")...)
		changed(t, x, laid(7, of("ab")))
		stands(t, x, 7, 9)
		sound(t, x, 1)
		drop(t, x, each("ab")...)
		changed(t, x, gone(7))
		stands(t, x, 0, 9)
		// What went is not there any more, whatever the records have.
		x = tree.New(records{7: of("ab")}.get, 7, 9)
		drop(t, x, each("ab")...)
		has(t, x, nil)
	}
}

// TestNoKid: below a kid whose record is not there, or is of another form, there is no key; all others are there.
func TestNoKid(t *testing.T) {
	for _, c := range []struct {
		id   uint64
		left string
		put  string
		want string
	}{
		{2, "cdefghijklmn", "a", "a"}, {4, "abcdefijklmn", "g", "g"}, {6, "abcdefghijkl", "z", "z"},
	} {
		for _, r := range spoilt(wide(), c.id) {
			x := tree.New(r.get, 1, 9)
			unsound(t, x)
			has(t, x, each(c.left))
			for _, k := range each("abghmn") {
				if x.Has(k) != slices.Contains(each(c.left), k) || !x.Has(k) && x.Drop(k) {
					t.Errorf("%q without %d", k, c.id)
				}
			}
			changed(t, x)
			add(t, x, c.put)
			changed(t, x, laid(c.id, of(c.want)))
			stands(t, x, 1, 9)
			unsound(t, x)
			for _, k := range append(each(c.left), c.put) {
				drop(t, x, k)
			}
			has(t, x, nil)
			sound(t, x, 0)
		}
	}
}

// spoiltDeep has trees of three depths in which one record or more are not there, and the keys that are.
func spoiltDeep(r *rand.Rand) records {
	was := deep("\x10\x20\x30"[:1+r.Intn(3)], "\x50\x60\x70"[:1+r.Intn(3)], "\x90\xa0\xb0"[:1+r.Intn(3)])
	for id := range was.with(nil) {
		if id > 1 && r.Intn(6) == 0 {
			was = spoilt(was, id)[r.Intn(len(noNodes())+1)]
		}
	}
	return was
}

// TestNoNodes: with records that are not there, by fixed seeds: keys come and go as they must, and no other one goes with them, also over the records that were laid.
func TestNoNodes(t *testing.T) {
	for seed := range 300 {
		r := rand.New(rand.NewSource(int64(seed)))
		over := spoiltDeep(r)
		x := tree.New(over.get, 1, 100)
		left := map[string]int{}
		for _, k := range keys(x, api.Span{}) {
			left[k] = 1
		}
		for i := range 120 {
			k := string([]byte{byte(r.Intn(13)) * 0x10, byte(r.Intn(4))}[:1+r.Intn(2)])
			if i > 70 || r.Intn(3) == 0 {
				if ok := x.Drop(k); ok != (left[k] == 1) {
					t.Errorf("Drop(%q): %t", k, ok)
				}
				left[k] = 0
			} else {
				if ok, e := x.Add(k); ok != (left[k] == 0) || e != api.OK {
					t.Errorf("Add(%q): %t, %d", k, ok, e)
				}
				left[k] = 1
			}
			if r.Intn(4) == 0 {
				over = over.with(x.Changes())
				x = tree.New(over.get, x.Root(), x.Next())
			}
			leaves(t, x, left)
			if t.Failed() {
				t.Fatalf("seed %d", seed)
			}
		}
	}
}

// leaves holds that a tree has just the keys that are told.
func leaves(t *testing.T, x *tree.Tree, left map[string]int) {
	t.Helper()
	var want []string
	for k, n := range left {
		if n == 1 {
			want = append(want, k)
		}
	}
	slices.Sort(want)
	if got := keys(x, api.Span{}); !slices.Equal(got, want) {
		t.Errorf("keys %q, must be %q", got, want)
	}
	for k, n := range left {
		if x.Has(k) != (n == 1) {
			t.Errorf("Has(%q): %t", k, n == 0)
		}
	}
}

// TestUnsound: each way in which nodes may be others than they must be.
func TestUnsound(t *testing.T) {
	three := records{1: of("\x40\x80", 2, 3, 4)}
	for id, s := range deep("\x10\x20", "\x50\x60", "\x90\xa0") {
		three[id] = s
	}
	sound(t, tree.New(three.get, 1, 9), 3)
	sound(t, tree.New(wide().get, 1, 9), 2)
	// A root needs but one key; numbers may be any.
	sound(t, tree.New(records{5: of("c", math.MaxUint64, 1), 1: of("de"), math.MaxUint64: of("ab")}.get, 5, 0), 2)

	for name, r := range map[string]records{
		"a root that isn't there":                      {},
		"a leaf with one key":                          wide().with([]api.Change{laid(4, of("g"))}),
		"the first leaf with one key":                  wide().with([]api.Change{laid(2, of("a"))}),
		"the last leaf with one key":                   wide().with([]api.Change{laid(6, of("m"))}),
		"a leaf that isn't there":                      wide().without(4),
		"the last leaf isn't there":                    wide().without(6),
		"a leaf with the key left of it":               wide().with([]api.Change{laid(4, of("fg"))}),
		"a leaf with the key right of it":              wide().with([]api.Change{laid(4, of("hi"))}),
		"a leaf with a key from left of that":          wide().with([]api.Change{laid(4, of("eg"))}),
		"a leaf with a key from right of that":         wide().with([]api.Change{laid(4, of("gj"))}),
		"the first leaf with a key right of it":        wide().with([]api.Change{laid(2, of("ac"))}),
		"the last leaf with a key left of it":          wide().with([]api.Change{laid(6, of("lm"))}),
		"a leaf twice":                                 wide().with([]api.Change{laid(1, of("cfil", 2, 3, 3, 5, 6))}),
		"leaves in another order":                      wide().with([]api.Change{laid(1, of("cfil", 3, 2, 4, 5, 6))}),
		"a root below itself":                          wide().with([]api.Change{laid(1, of("cfil", 1, 3, 4, 5, 6))}),
		"a root below itself at its end":               wide().with([]api.Change{laid(1, of("cfil", 2, 3, 4, 5, 1))}),
		"a leaf that has kids":                         wide().with([]api.Change{laid(4, of("gh", 20, 21, 22)), laid(20, of("ff")), laid(21, of("gg")), laid(22, of("hh"))}),
		"one kid deeper, the first":                    wide().with([]api.Change{laid(2, of("AZ", 20, 21, 22)), laid(20, of("12")), laid(21, of("BC")), laid(22, of("ab"))}),
		"one kid deeper, the last":                     wide().with([]api.Change{laid(6, of("pt", 20, 21, 22)), laid(20, of("mn")), laid(21, of("qr")), laid(22, of("yz"))}),
		"one kid less deep":                            three.with([]api.Change{laid(3, of("\x50\x60"))}),
		"the last kid less deep":                       three.with([]api.Change{laid(4, of("\x90\xa0"))}),
		"a node with kids that has one key":            three.with([]api.Change{laid(3, of("\x60", 20, 22))}),
		"a key from left of the node above that above": three.with([]api.Change{laid(20, of("\x3f\x41"))}),
		"the key of the node above that above":         three.with([]api.Change{laid(20, of("\x40\x41"))}),
		"a key from right of it":                       three.with([]api.Change{laid(12, of("\x30\x41"))}),
		"the key right of it":                          three.with([]api.Change{laid(12, of("\x30\x40"))}),
		"a leaf deep below isn't there":                three.without(31),
		"a leaf deep below goes round":                 three.with([]api.Change{laid(31, three[1])}),
		"a key without bytes, below it others":         {1: form([]string{""}, 2, 3), 2: of("ab"), 3: of("cd")},
		"a key without bytes behind others":            {1: of("c", 2, 3), 2: of("ab"), 3: form([]string{"", "d"})},
	} {
		if name != "a leaf that has kids" {
			for id, s := range r {
				if _, _, e := tree.Decode(s); e != api.OK {
					t.Fatalf("%s: %d is no node", name, id)
				}
			}
		}
		x := tree.New(r.get, 1, 90)
		if d, ok := x.Sound(); d != 0 || ok {
			t.Errorf("%s: %d, %t", name, d, ok)
		}
		changed(t, x)
	}
	for _, at := range []uint64{1, 3, 21} {
		for i, r := range spoilt(three, at) {
			if d, ok := tree.New(r.get, 1, 90).Sound(); d != 0 || ok {
				t.Errorf("record %d spoilt by %d: %d, %t", at, i, d, ok)
			}
		}
	}
	// What is held is looked at as what is kept.
	x := tree.New(wide().without(4).get, 1, 9)
	add(t, x, "g")
	unsound(t, x)
	add(t, x, "h")
	sound(t, x, 2)
}

// endless has getters that have no end, or go round.
func endless() map[string]func(uint64) (string, bool) {
	n := 0
	return map[string]func(uint64) (string, bool){
		"itself":        func(uint64) (string, bool) { return of("m", 1, 1), true },
		"itself, wide":  func(uint64) (string, bool) { return of("cgkp", 1, 1, 1, 1, 1), true },
		"two of them":   func(id uint64) (string, bool) { return of("dm", 3-id, id, 3-id), true },
		"none of them":  func(uint64) (string, bool) { return of("dm", 0, 0, 0), true },
		"always deeper": func(id uint64) (string, bool) { return of("m", id+1, id+1), true },
		"deeper and lower": func(id uint64) (string, bool) {
			return form([]string{strconv.FormatUint(math.MaxUint64-id, 16)}, id+1, id+2), true
		},
		"deeper and higher": func(id uint64) (string, bool) {
			return form([]string{strconv.FormatUint(1<<60+id, 16), strconv.FormatUint(1<<60+id+1, 16)}, id+1, id+1, id+1), true
		},
		"others each time": func(uint64) (string, bool) {
			n++
			return of(string([]byte{byte('a' + n%20), byte('b' + n%20)}), uint64(n), uint64(n+1), uint64(n+2)), true
		},
	}
}

// rises holds that a tree's keys rise, and that each is there.
func rises(t *testing.T, x *tree.Tree) []string {
	t.Helper()
	l := keys(x, api.Span{})
	for i, k := range l {
		if i > 0 && !below(l[i-1], k) {
			t.Errorf("%q stands behind %q", k, l[i-1])
		}
	}
	return l
}

// TestEndless: all ends, whatever the records are.
func TestEndless(t *testing.T) {
	for name, get := range endless() {
		for _, root := range []uint64{1, 2, math.MaxUint64} {
			x := tree.New(get, root, 90)
			unsound(t, x)
			for range x.Range(api.Span{Low: "b", High: "n"}) {
				break
			}
			if name == "others each time" || name == "deeper and lower" || name == "deeper and higher" {
				for _, k := range each("abmnz") {
					x.Has(k)
					x.Add(k)
					x.Drop(k)
				}
				continue
			}
			for _, k := range rises(t, x) {
				if !x.Has(k) {
					t.Errorf("%s: Has(%q): false", name, k)
				}
			}
			for _, k := range each("abeflmnzABCDEFGH") {
				was := x.Has(k)
				if ok, e := x.Add(k); ok == was || e != api.OK || !x.Has(k) {
					t.Errorf("%s: Add(%q): %t, %d", name, k, ok, e)
				}
				rises(t, x)
			}
			// Nothing is laid in the place of 0, which says that there are no keys.
			if l := x.Changes(); len(l) == 0 || name != "none of them" && l[0].ID == 0 {
				t.Errorf("%s: changes %v", name, l)
			}
			for _, k := range each("mabefgklnz") {
				was := x.Has(k)
				if ok := x.Drop(k); ok != was {
					t.Errorf("%s: Drop(%q): %t", name, k, ok)
				}
				rises(t, x)
			}
		}
	}
}

// TestDeepest: what no tree can have so deep is not there, for all calls alike, and what is above it is.
func TestDeepest(t *testing.T) {
	low, high := records{}, records{}
	for id := range uint64(100) {
		k := []string{string([]byte{byte(200 - id)})}
		low[id] = form(k, id+1, 0)
		k[0] = string([]byte{byte(id)})
		high[id] = form(k, 0, id+1)
	}
	for _, r := range []records{low, high} {
		delete(r, 0)
		x := tree.New(r.get, 1, 500)
		unsound(t, x)
		l := rises(t, x)
		if len(l) != 64 {
			t.Errorf("%d keys", len(l))
		}
		for i := range 256 {
			k := string([]byte{byte(i)})
			if x.Has(k) != slices.Contains(l, k) {
				t.Errorf("Has(%q): %t", k, !x.Has(k))
			}
		}
	}
}

// anyRecords has nodes, and others, with kids of any numbers, so that they go round, stand twice, or stand where they must not.
func anyRecords(r *rand.Rand) records {
	was := records{}
	for range 2 + r.Intn(12) {
		l := someKeys(r, 1+r.Intn(4))
		slices.Sort(l)
		l = slices.Compact(l)
		var kids []uint64
		if r.Intn(3) > 0 {
			for range len(l) + 1 {
				kids = append(kids, uint64(r.Intn(14)))
			}
		}
		was[uint64(r.Intn(14))] = form(l, kids...)
	}
	return was
}

// TestAnyRecords: over any records, by fixed seeds, each call ends, and none panics; what is gone over rises, and just that is there.
func TestAnyRecords(t *testing.T) {
	for seed := range 1500 {
		r := rand.New(rand.NewSource(int64(seed)))
		over := anyRecords(r)
		l := someKeys(r, 10)
		for _, s := range over {
			k, _, _ := tree.Decode(s)
			l = append(l, k...)
		}
		x := tree.New(over.get, uint64(r.Intn(14)), uint64(r.Intn(20)))
		all := rises(t, x)
		for _, k := range l {
			if _, ok := slices.BinarySearch(all, k); x.Has(k) != ok {
				t.Errorf("Has(%q): %t", k, !ok)
			}
		}
		for range 60 {
			k := l[r.Intn(len(l))]
			was := x.Has(k)
			if r.Intn(2) == 0 {
				if ok, e := x.Add(k); ok == was || e != api.OK {
					t.Errorf("Add(%q): %t, %d", k, ok, e)
				}
			} else if x.Drop(k) != was {
				t.Errorf("Drop(%q): %t", k, !was)
			}
			rises(t, x)
			x.Sound()
			if r.Intn(5) == 0 {
				over = over.with(x.Changes())
				x = tree.New(over.get, x.Root(), x.Next())
			}
		}
		if t.Failed() {
			t.Fatalf("seed %d", seed)
		}
	}
}
