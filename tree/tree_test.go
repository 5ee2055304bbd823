package tree_test

import (
	"math"
	"slices"
	"strings"
	"testing"
	"unsafe"

	"offshoot/api"
	"offshoot/key"
	"offshoot/tree"
)

func TestNoKeys(t *testing.T) {
	for _, next := range []uint64{0, 1, 7, 3<<60 + 1, math.MaxUint64} {
		for _, get := range []func(uint64) (string, bool){nil, records{}.get, records{0: of("ab"), 1: of("cd"), 7: "x"}.get} {
			x := tree.New(get, 0, next)
			stands(t, x, 0, next)
			sound(t, x, 0)
			changed(t, x)
			has(t, x, nil)
			for _, k := range []string{"", "a", "c", "x", long(90), long(91), long(1000)} {
				if x.Has(k) || x.Drop(k) {
					t.Errorf("%q is there", k)
				}
			}
			changed(t, x)
			stands(t, x, 0, next)
		}
	}
}

// TestOneLeaf: up to four keys stand in one leaf, in whatever order they come.
func TestOneLeaf(t *testing.T) {
	for _, c := range []struct{ put, is string }{
		{"a", "a"}, {"ab", "ab"}, {"ba", "ab"}, {"abc", "abc"}, {"cab", "abc"}, {"bca", "abc"}, {"abcd", "abcd"}, {"dcba", "abcd"}, {"bdac", "abcd"}, {"\xff\x00\x80\x7f", "\x00\x7f\x80\xff"},
	} {
		x := fresh(t, c.put)
		changed(t, x, laid(1, of(c.is)))
		stands(t, x, 1, 2)
		sound(t, x, 1)
		has(t, x, each(c.is))
	}
}

// orders has all orders of a list.
func orders(l []string) [][]string {
	if len(l) == 0 {
		return [][]string{nil}
	}
	var all [][]string
	for i, k := range l {
		for _, rest := range orders(slices.Delete(slices.Clone(l), i, i+1)) {
			all = append(all, append([]string{k}, rest...))
		}
	}
	return all
}

// TestFive: the third of five keys goes up, whatever order they come in; the new node has the next number, and the new root the one behind.
func TestFive(t *testing.T) {
	for _, next := range []uint64{1, 2, 100, 3<<60 + 1, math.MaxUint64 - 2} {
		for _, l := range orders(each("abcde")) {
			x := tree.New(nil, 0, next)
			add(t, x, l...)
			changed(t, x, laid(next, of("ab")), laid(next+1, of("de")), laid(next+2, of("c", next, next+1)))
			stands(t, x, next+2, next+3)
			sound(t, x, 2)
			has(t, x, each("abcde"))
		}
	}
}

// wide is a root with five leaves, over records: all of a text's keys but the third, sixth and so on stand in the leaves.
func wide() records {
	return records{1: of("cfil", 2, 3, 4, 5, 6), 2: of("ab"), 3: of("de"), 4: of("gh"), 5: of("jk"), 6: of("mn")}
}

// TestCutLeaf: what goes up stands in the node above where the leaf stood, and the new node right of it.
func TestCutLeaf(t *testing.T) {
	three := records{1: of("ip", 2, 3, 4), 2: of("cdef"), 3: of("jlmn"), 4: of("qrst")}
	for _, c := range []struct {
		k    string
		want []api.Change
	}{
		{"a", []api.Change{laid(1, of("dip", 2, 9, 3, 4)), laid(2, of("ac")), laid(9, of("ef"))}},
		{"e\x00", []api.Change{laid(1, form([]string{"e", "i", "p"}, 2, 9, 3, 4)), laid(2, of("cd")), laid(9, form([]string{"e\x00", "f"}))}},
		{"k", []api.Change{laid(1, of("ilp", 2, 3, 9, 4)), laid(3, of("jk")), laid(9, of("mn"))}},
		{"o", []api.Change{laid(1, of("imp", 2, 3, 9, 4)), laid(3, of("jl")), laid(9, of("no"))}},
		{"z", []api.Change{laid(1, of("ips", 2, 3, 4, 9)), laid(4, of("qr")), laid(9, of("tz"))}},
		{"pp", []api.Change{laid(1, of("ipr", 2, 3, 4, 9)), laid(4, form([]string{"pp", "q"})), laid(9, of("st"))}},
	} {
		x := tree.New(three.get, 1, 9)
		add(t, x, c.k)
		changed(t, x, c.want...)
		stands(t, x, 1, 10)
		sound(t, x, 2)
	}
}

// TestCutRoot: a root with kids is cut as a leaf is, with its kids; what is below comes first with its number.
func TestCutRoot(t *testing.T) {
	for _, c := range []struct {
		keys string
		want []api.Change
	}{
		{"opq", []api.Change{laid(1, of("cf", 2, 3, 4)), laid(6, of("mn")), laid(9, of("pq")), laid(10, of("lo", 5, 6, 9)), laid(11, of("i", 1, 10))}},
		{"AB\x01", []api.Change{laid(1, of("Bc", 2, 9, 3)), laid(2, of("\x01A")), laid(9, of("ab")), laid(10, of("il", 4, 5, 6)), laid(11, of("f", 1, 10))}},
	} {
		x := tree.New(wide().get, 1, 9)
		add(t, x, each(c.keys)...)
		changed(t, x, c.want...)
		stands(t, x, 11, 12)
		sound(t, x, 3)
	}
	// In the middle the key that goes up out of the leaf goes up out of the root, too.
	x := tree.New(wide().get, 1, 9)
	add(t, x, "gg", "ggg", "gggg")
	changed(t, x, laid(1, form([]string{"c", "f"}, 2, 3, 4)), laid(4, form([]string{"g", "gg"})), laid(9, form([]string{"gggg", "h"})), laid(10, form([]string{"i", "l"}, 9, 5, 6)), laid(11, form([]string{"ggg"}, 1, 10)))
	sound(t, x, 3)
}

// TestRising: keys that rise, from none on.
func TestRising(t *testing.T) {
	x := fresh(t, "abcdefghijklmnopq")
	changed(t, x,
		laid(1, of("ab")), laid(2, of("de")), laid(3, of("cf", 1, 2, 4)), laid(4, of("gh")), laid(5, of("jk")),
		laid(6, of("mn")), laid(7, of("pq")), laid(8, of("lo", 5, 6, 7)), laid(9, of("i", 3, 8)))
	stands(t, x, 9, 10)
	sound(t, x, 3)
	has(t, x, each("abcdefghijklmnopq"))
}

// TestAgain: a key that is put again, or taken away again, changes nothing.
func TestAgain(t *testing.T) {
	for _, s := range []string{"a", "abcd", "abcde", "abcdefghijklmnopq"} {
		x := fresh(t, s)
		l, root, next := x.Changes(), x.Root(), x.Next()
		for _, k := range each(s) {
			if ok, e := x.Add(k); ok || e != api.OK {
				t.Errorf("Add(%q) again: %t, %d", k, ok, e)
			}
		}
		for _, k := range []string{"", "A", "aa", "cc", "z", "\x00", "\xff"} {
			if x.Drop(k) {
				t.Errorf("Drop(%q): true", k)
			}
		}
		changed(t, x, l...)
		stands(t, x, root, next)
		over := records{}.with(l)
		x = tree.New(over.get, root, next)
		for _, k := range each(s) {
			if ok, e := x.Add(k); ok || e != api.OK {
				t.Errorf("Add(%q) again: %t, %d", k, ok, e)
			}
			x.Drop(k + "x")
		}
		changed(t, x)
		for _, k := range each(s) {
			drop(t, x, k)
			if x.Drop(k) || x.Has(k) {
				t.Errorf("Drop(%q) again: true", k)
			}
		}
		has(t, x, nil)
	}
}

// TestLong: a key of MostKey bytes may be, one of more may not, and changes nothing.
func TestLong(t *testing.T) {
	x := fresh(t, "ax")
	l := x.Changes()
	for _, n := range []int{91, 92, 255, 256, 346, 512, 65536 + 3, 1 << 20} {
		for _, k := range []string{long(n), strings.Repeat("\x00", n), strings.Repeat("\xff", n)} {
			if ok, e := x.Add(k); ok || e != api.ErrMost {
				t.Errorf("Add of %d bytes: %t, %d", n, ok, e)
			}
			if x.Has(k) || x.Drop(k) {
				t.Errorf("a key of %d bytes is there", n)
			}
		}
	}
	changed(t, x, l...)
	add(t, x, long(90), long(89))
	changed(t, x, laid(1, form([]string{"a", long(89), long(90), "x"})))
	if ok, e := tree.New(nil, 0, 1).Add(long(91)); ok || e != api.ErrMost {
		t.Errorf("Add of 91 bytes: %t, %d", ok, e)
	}
	drop(t, x, long(90))
	has(t, x, []string{"a", long(89), "x"})
}

// TestEmptyKey: a key without bytes is the lowest one.
func TestEmptyKey(t *testing.T) {
	x := fresh(t, "")
	add(t, x, "")
	changed(t, x, laid(1, "\x01\x00\x00"))
	has(t, x, []string{""})
	add(t, x, "\x00", "\x00\x00", "\x01", "a")
	changed(t, x, laid(1, form([]string{"", "\x00"})), laid(2, form([]string{"\x01", "a"})), laid(3, form([]string{"\x00\x00"}, 1, 2)))
	sound(t, x, 2)
	has(t, x, []string{"", "\x00", "\x00\x00", "\x01", "a"})
	drop(t, x, "")
	has(t, x, []string{"\x00", "\x00\x00", "\x01", "a"})
	if x.Has("") || x.Drop("") {
		t.Error("a key without bytes is there")
	}
}

// TestPrefixes: keys that begin with one another.
func TestPrefixes(t *testing.T) {
	var l []string
	for n := range 91 {
		l = append(l, long(n))
	}
	x := tree.New(nil, 0, 1)
	for i := range l {
		add(t, x, l[i*37%len(l)])
	}
	has(t, x, l)
	for i := range l {
		if i%2 == 1 {
			drop(t, x, l[i])
		}
	}
	for i := range l {
		if x.Has(l[i]) != (i%2 == 0) {
			t.Errorf("Has of %d bytes: %t", i, i%2 != 0)
		}
	}
	if _, ok := x.Sound(); !ok {
		t.Error("it isn't sound")
	}
}

// TestNil: a nil tree has nothing, and takes nothing.
func TestNil(t *testing.T) {
	var x *tree.Tree
	for _, k := range []string{"", "a", long(91)} {
		if ok, e := x.Add(k); ok || e != api.ErrUse {
			t.Errorf("Add(%q): %t, %d", k, ok, e)
		}
		if x.Has(k) || x.Drop(k) {
			t.Errorf("%q is there", k)
		}
	}
	for k := range x.Range(api.Span{}) {
		t.Errorf("%q is there", k)
	}
	stands(t, x, 0, 0)
	changed(t, x)
	unsound(t, x)
}

// TestZero: one that New didn't make is one over no records.
func TestZero(t *testing.T) {
	var x tree.Tree
	stands(t, &x, 0, 0)
	sound(t, &x, 0)
	changed(t, &x)
	has(t, &x, nil)
	add(t, &x, each("abcde")...)
	has(t, &x, each("abcde"))
}

// TestNumbers: new nodes have numbers from that on that was told; 0 says that there are no keys, so none has that.
func TestNumbers(t *testing.T) {
	x := tree.New(nil, 0, 0)
	add(t, x, "a")
	changed(t, x, laid(1, of("a")))
	stands(t, x, 1, 2)

	x = tree.New(nil, 0, math.MaxUint64)
	add(t, x, each("abcd")...)
	changed(t, x, laid(math.MaxUint64, of("abcd")))
	stands(t, x, math.MaxUint64, 0)
	add(t, x, "e")
	changed(t, x, laid(1, of("de")), laid(2, of("c", math.MaxUint64, 1)), laid(math.MaxUint64, of("ab")))
	stands(t, x, 2, 3)
	has(t, x, each("abcde"))

	// Numbers of nodes that went are not given again.
	x = fresh(t, "abcde")
	drop(t, x, each("abcde")...)
	stands(t, x, 0, 4)
	add(t, x, "f")
	changed(t, x, gone(1), gone(2), gone(3), laid(4, of("f")))
	stands(t, x, 4, 5)

	// But whoever tells a number that is in use has it from there on: what stands there then is the new node.
	x = tree.New(records{1: of("a")}.get, 1, 1)
	drop(t, x, "a")
	add(t, x, "b")
	changed(t, x, laid(1, of("b")))
	stands(t, x, 1, 2)
}

// TestOwn: neither keys that are put, nor records, nor what is answered shares bytes with the tree.
func TestOwn(t *testing.T) {
	b := []byte("key")
	x := tree.New(nil, 0, 1)
	add(t, x, unsafe.String(&b[0], len(b)))
	clear(b)
	has(t, x, []string{"key"})

	for k := range x.Range(api.Span{}) {
		clear(unsafe.Slice(unsafe.StringData(k), len(k)))
	}
	has(t, x, []string{"key"})

	low, high := []byte("kex"), []byte("kez")
	walk := x.Range(api.Span{Low: unsafe.String(&low[0], len(low)), High: unsafe.String(&high[0], len(high))})
	copy(low, "z")
	clear(high)
	if l := slices.Collect(walk); !slices.Equal(l, []string{"key"}) {
		t.Errorf("behind a change of the span: %q", l)
	}

	l := x.Changes()
	clear(unsafe.Slice(unsafe.StringData(l[0].S), len(l[0].S)))
	l[0].ID = 7
	changed(t, x, laid(1, form([]string{"key"})))

	record := []byte(of("ab"))
	x = tree.New(func(uint64) (string, bool) { return unsafe.String(&record[0], len(record)), true }, 1, 2)
	add(t, x, "c")
	clear(record)
	has(t, x, each("abc"))
	changed(t, x, laid(1, of("abc")))
}

// TestExample: five keys.
func TestExample(t *testing.T) {
	x := tree.New(nil, 0, 1)
	for _, k := range each("abcde") {
		if x.Has(k) {
			t.Errorf("%q is there", k)
		}
		add(t, x, k)
	}
	keys, kids, e := tree.Decode(records{}.with(x.Changes())[x.Root()])
	if e != api.OK || !slices.Equal(keys, []string{"c"}) || len(kids) != 2 {
		t.Errorf("the root: %q, %d, %d", keys, kids, e)
	}
}

// TestOfKeys: keys of the layer below stand as their values do.
func TestOfKeys(t *testing.T) {
	x := tree.New(nil, 0, 1)
	for i := range int64(50) {
		add(t, x, key.Name("likes")+key.ID(i*7%53), key.Name("knows")+key.ID(49-i))
	}
	var n int64
	for k := range x.Range(key.Begin(key.Name("knows"))) {
		if k != key.Name("knows")+key.ID(n) {
			t.Errorf("%q is the one with the number %d", k, n)
		}
		n++
	}
	if n != 50 {
		t.Errorf("%d keys", n)
	}
}
