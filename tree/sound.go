package tree

import "offshoot/api"

// Sound tells whether all nodes are as they must be: how deep the tree is, and that; 0: it has no keys.
func (t *Tree) Sound() (int, bool) {
	if t == nil {
		return 0, false
	}
	if t.root == 0 {
		return 0, true
	}
	s := &sounding{all: t.all}
	return s.deep(t.root, 1, deepest)
}

// sounding goes over all keys in order: each stands between the two beside it when each is above the one ahead of it.
type sounding struct {
	all   nodes
	last  string
	begun bool
}

// deep is how deep it is from a node on, which must have at least so many keys and be at most so deep.
func (s *sounding) deep(id uint64, least, most int) (int, bool) {
	n, below := s.all.node(id), 0
	if len(n.keys) < least || most == 0 {
		return 0, false
	}
	for at := range len(n.keys) + 1 {
		if !n.leaf() {
			d, ok := s.deep(n.kids[at], api.LeastKeys, most-1)
			if !ok || at > 0 && d != below {
				return 0, false
			}
			below = d
		}
		if at < len(n.keys) && !s.rises(n.keys[at]) {
			return 0, false
		}
	}
	return below + 1, true
}

func (s *sounding) rises(k string) bool {
	ok := !s.begun || k > s.last
	s.last, s.begun = k, true
	return ok
}
