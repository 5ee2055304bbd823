package rec

import (
	"cmp"
	"maps"
	"slices"
	"strings"

	"offshoot/api"
	"offshoot/dev"
	"offshoot/log"
	"offshoot/page"
	"offshoot/val"
)

const firstBytes = 8 // of the number of the log's first entry

// image is all records at one time; turn 0: there is none.
type image struct {
	turn  uint64
	bytes string
}

// part is how many sectors an image's place has.
func part(d *dev.Dev) int { return 2 * d.Len() / 5 }

// find is the image that stands in a place.
func find(d *dev.Dev, at int) image {
	// Only what stands there knows its turn.
	head, _ := d.Read(at)
	turn := val.Wide(head)
	_, l, _ := log.Open(d, at, at+part(d), turn)
	if len(l) == 0 {
		return image{}
	}
	return image{turn: turn, bytes: l[0]}
}

// lay lays an image in a place.
func lay(d *dev.Dev, at int, turn uint64, s string) api.Errno {
	l, _, e := log.Open(d, at, at+part(d), turn)
	if e != api.OK {
		return e
	}
	return l.Add(s)
}

// write is an image's bytes.
func write(first uint64, all records) string {
	l := slices.SortedFunc(maps.Values(all), func(a, b api.Body) int { return cmp.Compare(a.ID, b.ID) })
	var p pages
	for _, r := range l {
		p.put(r)
	}
	var b strings.Builder
	b.WriteString(val.Eight(first))
	for _, x := range p.l {
		b.WriteString(x.Encode())
	}
	return b.String()
}

// read is the number of the log's first entry, and the records; false: the image is of another form.
func (m image) read() (uint64, records, bool) {
	if len(m.bytes) < firstBytes {
		return 0, nil, false
	}
	first, all := val.Wide(m.bytes), records{}
	for rest := m.bytes[firstBytes:]; rest != ""; {
		n := min(len(rest), api.PageBytes)
		p, e := page.Decode(rest[:n])
		if e != api.OK {
			return 0, nil, false
		}
		for _, b := range p.All() {
			all[b.ID] = b
		}
		rest = rest[n:]
	}
	// An image's bytes are of the form when they are those of its records, and only then.
	if first == 0 || write(first, all) != m.bytes {
		return 0, nil, false
	}
	return first, all, true
}

// pages are those of an image that is laid.
type pages struct {
	l    []*page.Page
	free []int
	from [api.MostBody + 1]int // by a record's length: no page ahead of this one has room for it
}

// put lays a record in the first page that has room for it: pages only fill up, so none is looked at twice for one length.
func (p *pages) put(r api.Body) {
	at, need := p.from[len(r.S)], api.SlotBytes+len(r.S)
	for at < len(p.l) && p.free[at] < need {
		at++
	}
	p.from[len(r.S)] = at
	if at == len(p.l) {
		p.l = append(p.l, page.New())
		p.free = append(p.free, p.l[at].Free())
	}
	p.l[at].Put(r.ID, r.S)
	p.free[at] -= need
}
