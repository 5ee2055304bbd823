package rec

import (
	"strings"

	"offshoot/api"
	"offshoot/val"
)

const (
	countBytes = 2 // that say how many changes there are

	// What a change has behind its number, by its places.
	sizeAt = 8
	bodyAt = 10

	goes = 0xffff // how long a record is that goes
)

// Batch is the bytes of changes.
func Batch(l []api.Change) string {
	var b strings.Builder
	b.WriteString(val.Two(len(l)))
	for _, c := range l {
		b.WriteString(val.Eight(c.ID))
		if c.Gone {
			b.WriteString(val.Two(goes))
			continue
		}
		b.WriteString(val.Two(len(c.S)))
		b.WriteString(c.S)
	}
	return b.String()
}

// Unbatch is the changes of bytes.
func Unbatch(s string) ([]api.Change, api.Errno) {
	if len(s) < countBytes {
		return nil, api.ErrCut
	}
	n, rest := number(s), s[countBytes:]
	var l []api.Change
	for range n {
		c, size, e := change(rest)
		if e != api.OK {
			return nil, e
		}
		l, rest = append(l, c), rest[size:]
	}
	if rest != "" {
		return nil, api.ErrTail
	}
	return l, api.OK
}

// change is the change at the beginning of bytes, and how many it has.
func change(s string) (api.Change, int, api.Errno) {
	if len(s) < bodyAt {
		return api.Change{}, 0, api.ErrCut
	}
	c, size := api.Change{ID: val.Wide(s)}, number(s[sizeAt:])
	if size == goes {
		c.Gone = true
		return c, bodyAt, api.OK
	}
	if len(s) < bodyAt+size {
		return api.Change{}, 0, api.ErrCut
	}
	if size > api.MostBody {
		return api.Change{}, 0, api.ErrShape
	}
	c.S = strings.Clone(s[bodyAt : bodyAt+size])
	return c, bodyAt + size, api.OK
}

// number is the number of the first two bytes.
func number(s string) int { return int(val.Wide(s[:2])) }
