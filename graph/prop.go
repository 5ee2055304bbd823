package graph

import (
	"slices"
	"strings"

	"offshoot/api"
	"offshoot/val"
)

// Values is the values of a property; none, if it is not there.
func Values(l []api.Prop, k string) []api.Value {
	for _, p := range l {
		if p.Key == k {
			return val.List(p.L...).L
		}
	}
	return nil
}

// with is properties of which one has a value more, if it is a list and stays one, or else that value alone.
func with(l []api.Prop, k string, v api.Value, list bool) []api.Prop {
	l = slices.Clone(l)
	at, ok := slices.BinarySearchFunc(l, k, func(p api.Prop, k string) int { return strings.Compare(p.Key, k) })
	p := api.Prop{Key: k, List: list, L: []api.Value{v}}
	if !ok {
		return slices.Insert(l, at, p)
	}
	if list && l[at].List {
		p.L = slices.Concat(l[at].L, p.L)
	}
	l[at] = p
	return l
}

func putProps(l []api.Prop) api.Value {
	var parts []api.Value
	for _, p := range l {
		v := val.List(p.L...)
		if !p.List {
			// Within a map, so that it is told from a list, which may be a value, too.
			v = val.Map(val.None(), p.L[0])
		}
		parts = append(parts, val.Text(p.Key), v)
	}
	return val.Map(parts...)
}

func getProps(v api.Value) ([]api.Prop, bool) {
	if v.Kind != api.Map {
		return nil, false
	}
	var l []api.Prop
	for i := 0; i < len(v.L); i += 2 {
		p, ok := getProp(v.L[i], v.L[i+1])
		if !ok {
			return nil, false
		}
		l = append(l, p)
	}
	return l, true
}

func getProp(k, v api.Value) (api.Prop, bool) {
	switch {
	case !Name(k.S): // what is no text has none
	case v.Kind == api.List && len(v.L) > 0:
		return api.Prop{Key: k.S, List: true, L: v.L}, true
	case v.Kind == api.Map && len(v.L) == 2 && v.L[0].Kind == api.Null:
		return api.Prop{Key: k.S, L: v.L[1:]}, true
	}
	return api.Prop{}, false
}
