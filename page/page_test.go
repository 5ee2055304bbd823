package page_test

import (
	"slices"
	"testing"
	"unsafe"

	"offshoot/api"
	"offshoot/page"
)

func TestNew(t *testing.T) {
	if n := page.New().Free(); n != 510 {
		t.Errorf("%d bytes are left of a new page", n)
	}
	is(t, page.New())
	is(t, &page.Page{})
	p := page.New()
	put(t, p, 1, "a")
	is(t, page.New())
}

func TestNil(t *testing.T) {
	var p *page.Page
	for _, id := range ends() {
		if p.Put(id, "") || p.Put(id, "a") || p.Drop(id) {
			t.Error("a nil page has", id)
		}
		if s, ok := p.Get(id); s != "" || ok {
			t.Error(s, ok)
		}
	}
	if p.Free() != 0 || len(p.All()) != 0 || p.Encode() != "" {
		t.Error(p.Free(), p.All(), p.Encode())
	}
}

func TestPut(t *testing.T) {
	p := page.New()
	put(t, p, 7, "seven")
	is(t, p, api.Body{ID: 7, S: "seven"})
	put(t, p, 9, "nine")
	is(t, p, api.Body{ID: 7, S: "seven"}, api.Body{ID: 9, S: "nine"})
	put(t, p, 8, "\x00\xff\x00")
	is(t, p, api.Body{ID: 7, S: "seven"}, api.Body{ID: 8, S: "\x00\xff\x00"}, api.Body{ID: 9, S: "nine"})
	put(t, p, 3, "")
	is(t, p, api.Body{ID: 3}, api.Body{ID: 7, S: "seven"}, api.Body{ID: 8, S: "\x00\xff\x00"}, api.Body{ID: 9, S: "nine"})
	if p.Free() != 510-4*12-5-3-4 {
		t.Error(p.Free())
	}
}

// TestZero: a page that nobody made by New is one without records, too.
func TestZero(t *testing.T) {
	var p page.Page
	if p.Drop(0) {
		t.Error("it was there")
	}
	put(t, &p, 5, "five")
	is(t, &p, api.Body{ID: 5, S: "five"})
}

// TestPutLast: what fits to the last byte fits, one byte more doesn't.
func TestPutLast(t *testing.T) {
	if api.MostBody != 498 {
		t.Fatal(api.MostBody)
	}
	for _, id := range ends() {
		for _, n := range []int{499, 500, 510, 511, 512, 513, 65536, 1 << 20} {
			refuses(t, page.New(), id, text(1, n))
		}
		p := page.New()
		put(t, p, id, text(1, 498))
		is(t, p, api.Body{ID: id, S: text(1, 498)})
		refuses(t, p, id+1, "")
		refuses(t, p, id-1, "a")
	}
	for n := range 487 {
		a := api.Body{ID: 10, S: text(2, n)}
		for _, id := range []uint64{9, 11} {
			p := made(t, a)
			refuses(t, p, id, text(3, 487-n))
			b := api.Body{ID: id, S: text(3, 486-n)}
			put(t, p, b.ID, b.S)
			if id < a.ID {
				is(t, p, b, a)
			} else {
				is(t, p, a, b)
			}
		}
	}
}

// TestPutSlot: a record without bytes takes a slot, too.
func TestPutSlot(t *testing.T) {
	for over := range 30 {
		a := api.Body{ID: 1, S: text(1, 498-over)}
		p := made(t, a)
		if over < 12 {
			refuses(t, p, 2, "")
			refuses(t, p, 0, "")
			continue
		}
		put(t, p, 2, "")
		is(t, p, a, api.Body{ID: 2})
		refuses(t, p, 2, text(2, over-11))
		put(t, p, 2, text(2, over-12))
		is(t, p, a, api.Body{ID: 2, S: text(2, over-12)})
	}
}

func TestPutInPlace(t *testing.T) {
	for _, n := range []int{0, 1, 2, 100, 473, 474} {
		a, c := api.Body{ID: 1, S: text(1, 0)}, api.Body{ID: 3, S: text(3, 474-n)}
		for size := range 476 {
			p := made(t, a, api.Body{ID: 2, S: text(2, n)}, c)
			refuses(t, p, 4, "")
			if size > n {
				refuses(t, p, 2, text(4, size))
				continue
			}
			put(t, p, 2, text(4, size))
			is(t, p, a, api.Body{ID: 2, S: text(4, size)}, c)
			refuses(t, p, 2, text(5, n+1))
			put(t, p, 2, text(5, n))
			is(t, p, a, api.Body{ID: 2, S: text(5, n)}, c)
		}
	}
}

// TestPutLonger: in the place of a shorter one a record may take all that is left, and no more.
func TestPutLonger(t *testing.T) {
	for n := range 499 {
		p := made(t, api.Body{ID: 1, S: text(1, n)})
		refuses(t, p, 1, text(2, 499))
		put(t, p, 1, text(2, 498))
		is(t, p, api.Body{ID: 1, S: text(2, 498)})
		put(t, p, 1, text(3, n))
		is(t, p, api.Body{ID: 1, S: text(3, n)})
	}
}

// TestMost: 42 records are the most that a page can have; 6 bytes are left for them.
func TestMost(t *testing.T) {
	p := page.New()
	var l []api.Body
	for id := range uint64(42) {
		put(t, p, id*id, "")
		l = append(l, api.Body{ID: id * id})
		is(t, p, l...)
	}
	if p.Free() != 6 {
		t.Error(p.Free())
	}
	refuses(t, p, 3, "")
	refuses(t, p, 42*42, "")
	refuses(t, p, 16, text(1, 7))
	for i, s := range []string{"a", "bc", "def"} {
		put(t, p, l[i*20].ID, s)
		l[i*20].S = s
		is(t, p, l...)
	}
	refuses(t, p, 1, "g")
	reads(t, p.Encode(), l...)
}

func TestEnds(t *testing.T) {
	var l []api.Body
	for i, id := range ends() {
		l = append(l, api.Body{ID: id, S: text(i, i)})
	}
	is(t, made(t, l...), l...)
	reads(t, form(l...), l...)
	back := slices.Clone(l)
	slices.Reverse(back)
	is(t, made(t, back...), l...)
	for i, b := range l {
		p := made(t, back...)
		if !p.Drop(b.ID) || p.Drop(b.ID) {
			t.Error("Drop", b.ID)
		}
		is(t, p, slices.Concat(l[:i], l[i+1:])...)
	}
}

// orders calls f with a list in all its orders.
func orders(l []api.Body, n int, f func([]api.Body)) {
	if n == len(l) {
		f(l)
		return
	}
	for i := n; i < len(l); i++ {
		l[n], l[i] = l[i], l[n]
		orders(l, n+1, f)
		l[n], l[i] = l[i], l[n]
	}
}

// TestOrders: in whatever order records are put and taken away, they are told by their numbers.
func TestOrders(t *testing.T) {
	l := []api.Body{{ID: 2, S: "two"}, {ID: 3}, {ID: 300, S: "many"}, {ID: 1 << 40, S: text(4, 200)}, {ID: 1 << 63, S: "x"}}
	orders(slices.Clone(l), 0, func(m []api.Body) {
		p := made(t, m...)
		is(t, p, l...)
		rest := slices.Clone(l)
		for _, b := range m {
			if !p.Drop(b.ID) {
				t.Fatal("it was not there:", b.ID)
			}
			rest = slices.DeleteFunc(rest, func(x api.Body) bool { return x.ID == b.ID })
			is(t, p, rest...)
		}
	})
}

func TestDrop(t *testing.T) {
	a, b, c := api.Body{ID: 1, S: "one"}, api.Body{ID: 2, S: text(2, 471)}, api.Body{ID: 4}
	p := made(t, a, b, c)
	refuses(t, p, 3, "")
	for _, id := range []uint64{0, 3, 5, 1 << 63, 1<<64 - 1} {
		if p.Drop(id) {
			t.Error("it was there:", id)
		}
		is(t, p, a, b, c)
	}
	if !p.Drop(2) {
		t.Error("it was not there")
	}
	is(t, p, a, c)
	if p.Drop(2) {
		t.Error("it was there still")
	}
	is(t, p, a, c)
	put(t, p, 3, text(3, 471))
	is(t, p, a, api.Body{ID: 3, S: text(3, 471)}, c)
	refuses(t, p, 2, "")
	if !p.Drop(4) || !p.Drop(1) || !p.Drop(3) || p.Drop(3) {
		t.Error("Drop of the last ones")
	}
	is(t, p)
	put(t, p, 4, text(4, 498))
	is(t, p, api.Body{ID: 4, S: text(4, 498)})
}

// TestTwo: pages have nothing to do with each other, nor with the bytes that they were read of.
func TestTwo(t *testing.T) {
	a := api.Body{ID: 1, S: "one"}
	p, q := made(t, a), page.New()
	r, u := reads(t, form(a), a), reads(t, form(a), a)
	put(t, p, 2, "two")
	put(t, q, 1, "uno")
	put(t, r, 1, "ein")
	is(t, p, a, api.Body{ID: 2, S: "two"})
	is(t, q, api.Body{ID: 1, S: "uno"})
	is(t, r, api.Body{ID: 1, S: "ein"})
	is(t, u, a)
}

// TestOwn: what All told is the caller's own, and stays as it is.
func TestOwn(t *testing.T) {
	l := []api.Body{{ID: 1, S: "one"}, {ID: 2, S: "two"}, {ID: 3, S: "three"}}
	p := made(t, l...)
	all := p.All()
	all[0] = api.Body{ID: 9, S: "nine"}
	_ = append(all[:1], all[2:]...)
	is(t, p, l...)
	all = p.All()
	p.Drop(2)
	put(t, p, 1, "uno")
	put(t, p, 0, "zero")
	if !slices.Equal(all, l) {
		t.Errorf("%v", all)
	}
	_ = append(p.All(), api.Body{ID: 4, S: "four"})
	is(t, p, api.Body{ID: 0, S: "zero"}, api.Body{ID: 1, S: "uno"}, l[2])
}

// TestBytes: no text shares its bytes with one that was handed in, nor with one that is told.
func TestBytes(t *testing.T) {
	raw := []byte("a text")
	in := unsafe.String(&raw[0], len(raw))
	p := page.New()
	put(t, p, 1, in)
	copy(raw, "others")
	is(t, p, api.Body{ID: 1, S: "a text"})
	put(t, p, 1, in)
	copy(raw, "a text")
	is(t, p, api.Body{ID: 1, S: "others"})

	raw = []byte(form(api.Body{ID: 3, S: "whole"}))
	q := reads(t, unsafe.String(&raw[0], len(raw)), api.Body{ID: 3, S: "whole"})
	clear(raw)
	is(t, q, api.Body{ID: 3, S: "whole"})

	s, _ := q.Get(3)
	again, _ := q.Get(3)
	at := map[*byte]bool{}
	for _, s := range []string{s, again, q.All()[0].S, q.All()[0].S} {
		at[unsafe.StringData(s)] = true
	}
	if len(at) != 4 {
		t.Error("two answers share their bytes")
	}
}
