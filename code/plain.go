package code

import (
	"offshoot/api"
	"offshoot/val"
)

// plain is the instruction of a step that has neither traversals nor steps that belong to it.
func plain(s api.Step) api.Ins {
	in, l := api.Ins{Op: op(s.Name)}, s.Args
	switch s.Name {
	case "V", "E", "hasId", "tail", "range":
		in.N = each(l, number)
	case "limit":
		in.N = []int64{0, number(l[0])}
	case "skip":
		in.N = []int64{number(l[0]), none}
	case "inject", "constant", "add", "mul":
		in.V = each(l, value)
	case "addV", "hasNot", "select", "as", "hasLabel", "values":
		in.S = names(l)
	case "has":
		in.S = names(l[:1])
		if len(l) == 2 {
			in.Op, in.P = api.OpHasP, test(l[1])
		}
	case "is":
		in.P = test(l[0])
	case "out", "in", "both":
		in.N, in.S = []int64{direction(s.Name), 0}, names(l)
	case "outE", "inE", "bothE":
		in.N, in.S = []int64{direction(s.Name), 1}, names(l)
	case "outV", "inV", "bothV":
		in.N = []int64{direction(s.Name)}
	case "count", "sum", "min", "max", "mean":
		in.N = []int64{reduction(s.Name)}
	case "property":
		key := len(l) - 2
		in.S, in.V = names(l[key:key+1]), each(l[key+1:], value)
		in.Flag = key > 0 && l[0].V.S == "list"
	}
	return in
}

// each is what f makes of all of a list.
func each[A, B any](l []A, f func(A) B) []B {
	var out []B
	for _, a := range l {
		out = append(out, f(a))
	}
	return out
}

func number(a api.Arg) int64 { return a.V.N }

func value(a api.Arg) api.Value { return val.Copy(a.V) }

func names(l []api.Arg) []string {
	return each(l, func(a api.Arg) string { return a.V.S })
}

// test is an argument's predicate.
func test(a api.Arg) api.Pred {
	if a.Kind == api.ArgValue {
		return api.Pred{Op: "eq", L: []api.Value{value(a)}}
	}
	return predicate(a.P)
}

// predicate is one that shares no list with p.
func predicate(p api.Pred) api.Pred {
	return api.Pred{Op: p.Op, L: each(p.L, val.Copy), Kids: each(p.Kids, predicate)}
}

func direction(name string) int64 {
	switch name {
	case "out", "outE", "outV":
		return api.Out
	case "in", "inE", "inV":
		return api.In
	}
	return api.Both
}

func reduction(name string) int64 {
	switch name {
	case "count":
		return api.ReduceCount
	case "sum":
		return api.ReduceSum
	case "min":
		return api.ReduceMin
	case "max":
		return api.ReduceMax
	}
	return api.ReduceMean
}
