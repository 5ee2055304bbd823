package tree_test

import (
	"slices"
	"testing"

	"offshoot/api"
	"offshoot/tree"
)

// ends has keys at which spans may begin or end: those of a list, what is next to them on both sides, and what is far from all.
func ends(l []string) []string {
	all := []string{"", "\x00", "\xff", "\xff\xff", long(91), long(1000)}
	for _, k := range l {
		all = append(all, k, k+"\x00", k+"\xff", k[:len(k)/2])
		if k != "" {
			last := len(k) - 1
			all = append(all, k[:last]+string([]byte{k[last] - 1}), k[:last]+string([]byte{k[last] + 1}))
		}
	}
	slices.Sort(all)
	return slices.Compact(all)
}

// some has lists of keys, rising, of trees of up to three depths.
func some() [][]string {
	return [][]string{
		nil, {""}, {"b"}, each("bd"), each("bdfh"), each("bdfhj"),
		{"", "\x00", "\x00\x00", "\x00\x01", "\x01", "a", "a\x00", "aa", "ab", "b", "ba", "bb", "\xfe", "\xff", "\xff\xfe", "\xff\xff"},
		each("bdfhjlnprtvxz~"),
		each("\x01\x03\x05\x07\x09\x0b\x0d\x0f\x11\x13\x15\x17\x19\x1b\x1d\x1f\x21\x23\x25\x27\x29\x2b\x2d\x2f"),
	}
}

// TestRange: spans of all kinds, those that are empty or without end among them, over trees that are held and over their records.
func TestRange(t *testing.T) {
	for _, l := range some() {
		held := tree.New(nil, 0, 1)
		add(t, held, l...)
		over := tree.New(records{}.with(held.Changes()).get, held.Root(), held.Next())
		for _, x := range []*tree.Tree{held, over} {
			all := ends(l)
			for _, low := range all {
				for _, high := range all {
					s := api.Span{Low: low, High: high}
					if got, want := keys(x, s), within(l, s); !slices.Equal(got, want) {
						t.Fatalf("%q from %q to %q: %q, must be %q", l, low, high, got, want)
					}
				}
			}
		}
		changed(t, over)
	}
}

// TestLeft: a walk that is left gives no key any more, wherever it is left, and the next walk begins anew.
func TestLeft(t *testing.T) {
	for _, l := range some() {
		x := tree.New(nil, 0, 1)
		add(t, x, l...)
		for from := range len(l) {
			walk := x.Range(api.Span{Low: l[from]})
			for n := range len(l) - from {
				var got []string
				walk(func(k string) bool {
					got = append(got, k)
					return len(got) <= n
				})
				if !slices.Equal(got, l[from:from+n+1]) {
					t.Fatalf("%q from %q, left behind %d: %q", l, l[from], n+1, got)
				}
			}
			if got := slices.Collect(walk); !slices.Equal(got, l[from:]) {
				t.Errorf("%q from %q: %q", l, l[from], got)
			}
		}
	}
}

// TestLeftAsks: of a walk that is left only those records are asked for that stand ahead of where it is left.
func TestLeftAsks(t *testing.T) {
	asked := 0
	was := records{}.with(fresh(t, "abcdefghijklmnopq").Changes())
	x := tree.New(func(id uint64) (string, bool) {
		asked++
		return was.get(id)
	}, 9, 10)
	for range x.Range(api.Span{}) {
		break
	}
	if asked != 3 {
		t.Errorf("%d records are asked for, ahead of the first key", asked)
	}
	asked = 0
	if n := len(keys(x, api.Span{Low: "d", High: "e"})); n != 1 || asked != 3 {
		t.Errorf("%d keys, %d records are asked for", n, asked)
	}
}

// TestRangeNow: a walk goes over the keys as they are when it is asked for, whatever is done later.
func TestRangeNow(t *testing.T) {
	all := each("abcdefghijklmnopq")
	for _, begin := range []func() *tree.Tree{
		func() *tree.Tree { return fresh(t, "abcdefghijklmnopq") },
		func() *tree.Tree {
			return tree.New(records{}.with(fresh(t, "abcdefghijklmnopq").Changes()).get, 9, 10)
		},
	} {
		x := begin()
		walk := x.Range(api.Span{})
		add(t, x, "aa", "cc", "z")
		drop(t, x, "a", "i", "q")
		if got := slices.Collect(walk); !slices.Equal(got, all) {
			t.Errorf("behind changes: %q", got)
		}
		has(t, x, []string{"aa", "b", "c", "cc", "d", "e", "f", "g", "h", "j", "k", "l", "m", "n", "o", "p", "z"})

		x = begin()
		var got []string
		for k := range x.Range(api.Span{}) {
			got = append(got, k)
			drop(t, x, k)
			add(t, x, k+"x", "x"+k)
		}
		if !slices.Equal(got, all) {
			t.Errorf("of keys that go while they are gone over: %q", got)
		}
		if n := len(keys(x, api.Span{})); n != 2*len(all) {
			t.Errorf("%d keys are left", n)
		}
		if _, ok := x.Sound(); !ok {
			t.Error("it isn't sound")
		}
	}
	// Of a tree without keys, too.
	x := tree.New(nil, 0, 1)
	walk := x.Range(api.Span{})
	add(t, x, "a")
	if got := slices.Collect(walk); len(got) != 0 {
		t.Errorf("of no keys: %q", got)
	}
}

// TestRangeAfter: walks of several times stand beside one another.
func TestRangeAfter(t *testing.T) {
	x := tree.New(nil, 0, 1)
	var walks []func(func(string) bool)
	all := each("abcdefghijklmnopqrst")
	for _, k := range all {
		walks = append(walks, x.Range(api.Span{}))
		add(t, x, k)
	}
	for _, k := range all {
		walks = append(walks, x.Range(api.Span{}))
		drop(t, x, k)
	}
	for i, walk := range walks {
		want := all[:min(i, len(all))]
		if i > len(all) {
			want = all[i-len(all):]
		}
		if got := slices.Collect(walk); !slices.Equal(got, want) {
			t.Errorf("walk %d: %q, must be %q", i, got, want)
		}
	}
}
