package tree_test

import (
	"testing"

	"offshoot/api"
	"offshoot/dev"
	"offshoot/rec"
	"offshoot/tree"
)

// dropped is a tree over records, whose root is 1 and whose next number 90, what is taken away, and what becomes of it.
type dropped struct {
	name string
	was  records
	keys string
	root uint64
	want []api.Change
}

// holds takes keys away one by one.
func (d dropped) holds(t *testing.T) {
	t.Helper()
	x := tree.New(d.was.get, 1, 90)
	if _, ok := x.Sound(); !ok {
		t.Errorf("%s: it isn't sound from the beginning", d.name)
	}
	left := keys(x, api.Span{})
	for _, k := range each(d.keys) {
		drop(t, x, k)
		for i := range left {
			if left[i] == k {
				left = append(left[:i], left[i+1:]...)
				break
			}
		}
	}
	changed(t, x, d.want...)
	stands(t, x, d.root, 90)
	has(t, x, left)
	if _, ok := x.Sound(); !ok {
		t.Errorf("%s: it isn't sound", d.name)
	}
	if t.Failed() {
		t.Fatal(d.name)
	}
}

// TestDropLeaf: where enough keys are left only the leaf is another one; a root that is a leaf needs but one.
func TestDropLeaf(t *testing.T) {
	for _, d := range []dropped{
		{"the root: its first", records{1: of("abcd")}, "a", 1, []api.Change{laid(1, of("bcd"))}},
		{"the root: in its middle", records{1: of("abcd")}, "b", 1, []api.Change{laid(1, of("acd"))}},
		{"the root: its last", records{1: of("abcd")}, "d", 1, []api.Change{laid(1, of("abc"))}},
		{"the root: all but one", records{1: of("abcd")}, "bda", 1, []api.Change{laid(1, of("c"))}},
		{"the root: all", records{1: of("abcd")}, "bdac", 0, []api.Change{gone(1)}},
		{"the root: the last key of all", records{1: of("a")}, "a", 0, []api.Change{gone(1)}},
		{"one of three", records{1: of("d", 2, 3), 2: of("abc"), 3: of("ef")}, "b", 1, []api.Change{laid(2, of("ac"))}},
		{"two of four", records{1: of("d", 2, 3), 2: of("ab"), 3: of("efgh")}, "he", 1, []api.Change{laid(3, of("fg"))}},
	} {
		d.holds(t)
	}
}

// TestJoin: two leaves and the key between them become one, if these are at most four keys: that in the left one's place.
func TestJoin(t *testing.T) {
	three := records{1: of("dg", 2, 3, 4), 2: of("ab"), 3: of("ef"), 4: of("hi")}
	for _, d := range []dropped{
		{"the first with the one right of it", three, "a", 1, []api.Change{laid(1, of("g", 2, 4)), laid(2, of("bdef")), gone(3)}},
		{"the first, its last key", three, "b", 1, []api.Change{laid(1, of("g", 2, 4)), laid(2, of("adef")), gone(3)}},
		{"the one in the middle with the one left of it", three, "e", 1, []api.Change{laid(1, of("g", 2, 4)), laid(2, of("abdf")), gone(3)}},
		{"the last with the one left of it", three, "i", 1, []api.Change{laid(1, of("d", 2, 3)), laid(3, of("efgh")), gone(4)}},
		{"left of it, though there are more keys right of it", records{1: of("dg", 2, 3, 4), 2: of("ab"), 3: of("ef"), 4: of("hijk")}, "f", 1, []api.Change{laid(1, of("g", 2, 4)), laid(2, of("abde")), gone(3)}},
		{"the root's last key, the right one", records{1: of("c", 2, 3), 2: of("ab"), 3: of("de")}, "e", 2, []api.Change{gone(1), laid(2, of("abcd")), gone(3)}},
		{"the root's last key, the left one", records{1: of("c", 2, 3), 2: of("ab"), 3: of("de")}, "a", 2, []api.Change{gone(1), laid(2, of("bcde")), gone(3)}},
		{"by numbers, however these stand", records{1: of("dg", 8, 5, 3), 8: of("ab"), 5: of("ef"), 3: of("hi")}, "h", 1, []api.Change{laid(1, of("d", 8, 5)), gone(3), laid(5, of("efgi"))}},
		{"all of them", three, "abdefghi", 0, []api.Change{gone(1), gone(2), gone(3), gone(4)}},
	} {
		d.holds(t)
	}
}

// TestEven: two leaves with more than four keys between them are cut in the middle: of n keys the one with the number n/2 goes up.
func TestEven(t *testing.T) {
	for _, d := range []dropped{
		{"the first, right of it are three", records{1: of("di", 2, 3, 4), 2: of("ab"), 3: of("efg"), 4: of("jk")}, "a", 1, []api.Change{laid(1, of("ei", 2, 3, 4)), laid(2, of("bd")), laid(3, of("fg"))}},
		{"the first, right of it are four", records{1: of("di", 2, 3, 4), 2: of("ab"), 3: of("efgh"), 4: of("jk")}, "b", 1, []api.Change{laid(1, of("fi", 2, 3, 4)), laid(2, of("ade")), laid(3, of("gh"))}},
		{"left of it are three", records{1: of("di", 2, 3, 4), 2: of("abc"), 3: of("ef"), 4: of("jk")}, "e", 1, []api.Change{laid(1, of("ci", 2, 3, 4)), laid(2, of("ab")), laid(3, of("df"))}},
		{"left of it are four", records{1: of("ei", 2, 3, 4), 2: of("abcd"), 3: of("fg"), 4: of("jk")}, "g", 1, []api.Change{laid(1, of("di", 2, 3, 4)), laid(2, of("abc")), laid(3, of("ef"))}},
		{"the last, left of it are three", records{1: of("di", 2, 3, 4), 2: of("ab"), 3: of("efg"), 4: of("jk")}, "j", 1, []api.Change{laid(1, of("dg", 2, 3, 4)), laid(3, of("ef")), laid(4, of("ik"))}},
		{"the last, left of it are four", records{1: of("di", 2, 3, 4), 2: of("ab"), 3: of("efgh"), 4: of("jk")}, "k", 1, []api.Change{laid(1, of("dh", 2, 3, 4)), laid(3, of("efg")), laid(4, of("ij"))}},
		{"beside both are four", records{1: of("ei", 2, 3, 4), 2: of("abcd"), 3: of("fg"), 4: of("jklm")}, "f", 1, []api.Change{laid(1, of("di", 2, 3, 4)), laid(2, of("abc")), laid(3, of("eg"))}},
	} {
		d.holds(t)
	}
}

// TestDropAbove: a key of a node with kids gives its place to the last one below the kid left of it.
func TestDropAbove(t *testing.T) {
	for _, d := range []dropped{
		{"enough is left", records{1: of("dh", 2, 3, 4), 2: of("abc"), 3: of("efg"), 4: of("ij")}, "d", 1, []api.Change{laid(1, of("ch", 2, 3, 4)), laid(2, of("ab"))}},
		{"of two keys the right one", records{1: of("dh", 2, 3, 4), 2: of("abc"), 3: of("efg"), 4: of("ij")}, "h", 1, []api.Change{laid(1, of("dg", 2, 3, 4)), laid(3, of("ef"))}},
		{"the leaf becomes one with the one right of it", records{1: of("ch", 2, 3, 4), 2: of("ab"), 3: of("ef"), 4: of("ij")}, "c", 1, []api.Change{laid(1, of("h", 2, 4)), laid(2, of("abef")), gone(3)}},
		{"the leaf becomes one with the one left of it", records{1: of("dh", 2, 3, 4), 2: of("ab"), 3: of("ef"), 4: of("ij")}, "h", 1, []api.Change{laid(1, of("f", 2, 4)), laid(2, of("abde")), gone(3)}},
		{"the leaf and the one right of it are cut", records{1: of("ch", 2, 3, 4), 2: of("ab"), 3: of("efg"), 4: of("ij")}, "c", 1, []api.Change{laid(1, of("eh", 2, 3, 4)), laid(2, of("ab")), laid(3, of("fg"))}},
		{"the leaf and the one left of it are cut", records{1: of("dh", 2, 3, 4), 2: of("abc"), 3: of("ef"), 4: of("ij")}, "h", 1, []api.Change{laid(1, of("cf", 2, 3, 4)), laid(2, of("ab")), laid(3, of("de"))}},
		{"the root's only one", records{1: of("c", 2, 3), 2: of("ab"), 3: of("de")}, "c", 2, []api.Change{gone(1), laid(2, of("abde")), gone(3)}},
		{"the last one of three depths", records{1: of("m", 2, 3), 2: of("dh", 4, 5, 6), 3: of("qu", 7, 8, 9), 4: of("ab"), 5: of("ef"), 6: of("ijk"), 7: of("no"), 8: of("rs"), 9: of("vw")}, "m", 1, []api.Change{laid(1, of("k", 2, 3)), laid(6, of("ij"))}},
	} {
		d.holds(t)
	}
}

// deep is a tree of three depths, whose root has the keys i and r; its kids 2, 3 and 4 have those that are told, each with leaves of two keys: 10, 11 .. below 2, 20 .. below 3, 30 .. below 4.
func deep(a, b, c string) records {
	r := records{1: of("\x40\x80", 2, 3, 4)}
	for i, s := range []string{a, b, c} {
		var kids []uint64
		for n := range uint64(len(s) + 1) {
			kids = append(kids, uint64(10*(i+1))+n)
		}
		r[uint64(2+i)] = of(s, kids...)
		for n, id := range kids {
			first := byte(i*64 + 1)
			if n > 0 {
				first = s[n-1] + 1
			}
			r[id] = of(string([]byte{first, first + 1}))
		}
	}
	return r
}

// TestDeep: a node with kids that has too few keys is evened out as a leaf is, with its kids.
func TestDeep(t *testing.T) {
	for _, d := range []dropped{
		{"the first becomes one with the one right of it", deep("\x10\x20", "\x50\x60", "\x90\xa0"), "\x01", 1, []api.Change{
			laid(1, of("\x80", 2, 4)), laid(2, of("\x20\x40\x50\x60", 10, 12, 20, 21, 22)), gone(3), laid(10, of("\x02\x10\x11\x12")), gone(11)}},
		{"the one in the middle with the one left of it", deep("\x10\x20", "\x50\x60", "\x90\xa0\xb0\xc0"), "\x61", 1, []api.Change{
			laid(1, of("\x80", 2, 4)), laid(2, of("\x10\x20\x40\x50", 10, 11, 12, 20, 21)), gone(3), laid(21, of("\x51\x52\x60\x62")), gone(22)}},
		{"the last with the one left of it", deep("\x10\x20", "\x50\x60", "\x90\xa0"), "\x91", 1, []api.Change{
			laid(1, of("\x40", 2, 3)), laid(3, of("\x50\x60\x80\xa0", 20, 21, 22, 30, 32)), gone(4), laid(30, of("\x81\x82\x90\x92")), gone(31)}},
		{"the first is cut with three", deep("\x10\x20", "\x50\x60\x70", "\x90\xa0"), "\x12", 1, []api.Change{
			laid(1, of("\x50\x80", 2, 3, 4)), laid(2, of("\x20\x40", 10, 12, 20)), laid(3, of("\x60\x70", 21, 22, 23)), laid(10, of("\x01\x02\x10\x11")), gone(11)}},
		{"the first is cut with four", deep("\x10\x20", "\x48\x50\x60\x70", "\x90\xa0"), "\x12", 1, []api.Change{
			laid(1, of("\x50\x80", 2, 3, 4)), laid(2, of("\x20\x40\x48", 10, 12, 20, 21)), laid(3, of("\x60\x70", 22, 23, 24)), laid(10, of("\x01\x02\x10\x11")), gone(11)}},
		{"the one in the middle is cut with three", deep("\x10\x20\x30", "\x50\x60", "\x90\xa0"), "\x41", 1, []api.Change{
			laid(1, of("\x30\x80", 2, 3, 4)), laid(2, of("\x10\x20", 10, 11, 12)), laid(3, of("\x40\x60", 13, 20, 22)), laid(20, of("\x42\x50\x51\x52")), gone(21)}},
		{"the last is cut with four", deep("\x10\x20", "\x48\x50\x60\x70", "\x90\xa0"), "\xa2", 1, []api.Change{
			laid(1, of("\x40\x70", 2, 3, 4)), laid(3, of("\x48\x50\x60", 20, 21, 22, 23)), laid(4, of("\x80\x90", 24, 30, 31)), laid(31, of("\x91\x92\xa0\xa1")), gone(32)}},
		{"a key of the node in the middle", deep("\x10\x20", "\x50\x60", "\x90\xa0"), "\x60", 1, []api.Change{
			laid(1, of("\x80", 2, 4)), laid(2, of("\x10\x20\x40\x52", 10, 11, 12, 20, 22)), gone(3), laid(20, of("\x41\x42\x50\x51")), gone(21)}},
		{"a key of the root", deep("\x10\x20\x30", "\x50\x60", "\x90\xa0"), "\x40", 1, []api.Change{
			laid(1, of("\x32\x80", 2, 3, 4)), laid(2, of("\x10\x20", 10, 11, 12)), laid(12, of("\x21\x22\x30\x31")), gone(13)}},
		{"a key of the root, and its kid becomes one with the one left of it", deep("\x10\x20", "\x50\x60", "\x90\xa0"), "\x80", 1, []api.Change{
			laid(1, of("\x62", 2, 4)), laid(2, of("\x10\x20\x40\x50", 10, 11, 12, 20, 21)), gone(3), laid(21, of("\x51\x52\x60\x61")), gone(22)}},
		{"a key of the root, and its kid is cut with the one left of it", deep("\x10\x20\x30", "\x50\x60", "\x90\xa0"), "\x80", 1, []api.Change{
			laid(1, of("\x30\x62", 2, 3, 4)), laid(2, of("\x10\x20", 10, 11, 12)), laid(3, of("\x40\x50", 13, 20, 21)), laid(21, of("\x51\x52\x60\x61")), gone(22)}},
	} {
		d.holds(t)
	}
}

// TestDeepRoot: a root without keys gives its place to its kid, with all that is below that.
func TestDeepRoot(t *testing.T) {
	was := records{1: of("m", 2, 3), 2: of("dh", 4, 5, 6), 3: of("qu", 7, 8, 9), 4: of("ab"), 5: of("ef"), 6: of("ij"), 7: of("no"), 8: of("rs"), 9: of("vw")}
	for _, d := range []dropped{
		{"below the first", was, "a", 2, []api.Change{gone(1), laid(2, of("hmqu", 4, 6, 7, 8, 9)), gone(3), laid(4, of("bdef")), gone(5)}},
		{"below the last", was, "w", 2, []api.Change{gone(1), laid(2, of("dhmq", 4, 5, 6, 7, 8)), gone(3), laid(8, of("rsuv")), gone(9)}},
		{"its only key", was, "m", 2, []api.Change{gone(1), laid(2, of("djqu", 4, 5, 7, 8, 9)), gone(3), laid(5, of("efhi")), gone(6)}},
		{"all of them", was, "abdefhijmnoqrsuvw", 0, []api.Change{gone(1), gone(2), gone(3), gone(4), gone(5), gone(6), gone(7), gone(8), gone(9)}},
	} {
		d.holds(t)
	}
}

// TestChanges: what was laid and went is told as what was there and went; what was laid again as it was is told, too.
func TestChanges(t *testing.T) {
	x := fresh(t, "abcde")
	drop(t, x, "a")
	changed(t, x, laid(1, of("bcde")), gone(2), gone(3))
	add(t, x, "f")
	changed(t, x, laid(1, of("bc")), gone(2), gone(3), laid(4, of("ef")), laid(5, of("d", 1, 4)))
	stands(t, x, 5, 6)

	was := records{}.with(x.Changes())
	x = tree.New(was.get, 5, 6)
	changed(t, x)
	add(t, x, "a")
	changed(t, x, laid(1, of("abc")))
	drop(t, x, "a")
	changed(t, x, laid(1, of("bc")))
	drop(t, x, "f")
	changed(t, x, laid(1, of("bcde")), gone(4), gone(5))
	drop(t, x, each("bcde")...)
	changed(t, x, gone(1), gone(4), gone(5))
	add(t, x, "z")
	changed(t, x, gone(1), gone(4), gone(5), laid(6, of("z")))
	drop(t, x, "z")
	changed(t, x, gone(1), gone(4), gone(5), gone(6))
	stands(t, x, 0, 7)
	sound(t, x, 0)
}

// TestAnew: a tree that is begun anew over the records that it laid is the same.
func TestAnew(t *testing.T) {
	all := "abcdefghijklmnopqrstuvwxyz"
	x, over := tree.New(nil, 0, 50), records{}
	for i := range 26 {
		add(t, x, all[i*7%26:i*7%26+1])
		over = over.with(x.Changes())
		x = tree.New(over.get, x.Root(), x.Next())
		if _, ok := x.Sound(); !ok || len(keys(x, api.Span{})) != i+1 {
			t.Fatalf("behind %d keys: %q", i+1, keys(x, api.Span{}))
		}
	}
	for i := range 26 {
		drop(t, x, all[i*11%26:i*11%26+1])
		over = over.with(x.Changes())
		x = tree.New(over.get, x.Root(), x.Next())
		if _, ok := x.Sound(); !ok || len(keys(x, api.Span{})) != 25-i {
			t.Fatalf("behind %d keys less: %q", i+1, keys(x, api.Span{}))
		}
	}
	if len(over) != 0 || x.Root() != 0 {
		t.Errorf("without keys: %d records, root %d", len(over), x.Root())
	}
}

// TestKept: a tree over records that are kept on a device.
func TestKept(t *testing.T) {
	d, _ := dev.New(60)
	s, e := rec.Open(d)
	if e != api.OK {
		t.Fatal(e)
	}
	x := tree.New(s.Snap(), 0, 100)
	for round, l := range []string{"abcdefghijklmnopq", "aeimq", "zaeyix", "abcdefghijklnopxyz"} {
		for _, k := range each(l) {
			if round%2 == 0 {
				add(t, x, k)
			} else {
				drop(t, x, k)
			}
		}
		if e := s.Commit(x.Changes()); e != api.OK {
			t.Fatal(e)
		}
		d.Crash(0, 0)
		d.Up()
		all := keys(x, api.Span{})
		if s, e = rec.Open(d); e != api.OK {
			t.Fatal(e)
		}
		x = tree.New(s.Snap(), x.Root(), x.Next())
		has(t, x, all)
		if _, ok := x.Sound(); !ok {
			t.Errorf("round %d: it isn't sound", round)
		}
	}
	if len(s.IDs()) != 0 {
		t.Errorf("without keys: %d records", len(s.IDs()))
	}
}
