package check

import (
	"offshoot/api"
	"offshoot/graph"
)

// arguments tells what is wrong with a step's name, or with its arguments.
func arguments(s api.Step) api.Errno {
	ok, l := false, s.Args
	switch s.Name {
	case "V", "E", "hasId":
		ok = all(l, isID)
	case "inject":
		ok = some(l, isValue)
	case "addV", "addE", "hasNot", "as", "select":
		ok = are(l, isName)
	case "has":
		ok = are(l, isName) || are(l, isName, isTest)
	case "hasLabel", "out", "in", "both", "outE", "inE", "bothE", "values":
		ok = all(l, isName)
	case "is":
		ok = are(l, isTest)
	case "where", "not", "optional", "repeat", "local", "until", "to", "from":
		ok = are(l, isTraversal)
	case "and", "or", "union", "coalesce":
		ok = some(l, isTraversal)
	case "choose":
		ok = are(l, isTraversal, isTraversal, isTraversal)
	case "limit", "skip", "tail", "times":
		ok = are(l, isCount)
	case "range":
		ok = are(l, isCount, isCount)
	case "constant", "add", "mul":
		ok = are(l, isValue)
	case "property":
		ok = are(l, isName, isValue) || are(l, isHow, isName, isValue)
	case "by":
		ok = are(l) || are(l, isKey) || are(l, isWay) || are(l, isKey, isWay)
	case "dedup", "simplePath", "outV", "inV", "bothV", "id", "label", "identity", "path", "fold", "unfold", "count", "sum", "min", "max", "mean", "group", "groupCount", "order", "barrier", "emit", "drop":
		ok = are(l)
	default:
		return api.ErrStep
	}
	if !ok {
		return api.ErrArgs
	}
	return api.OK
}

// are tells whether arguments are as many as is asked of them, and each is what is asked of it.
func are(l []api.Arg, asked ...func(api.Arg) bool) bool {
	if len(l) != len(asked) {
		return false
	}
	for i, is := range asked {
		if !is(l[i]) {
			return false
		}
	}
	return true
}

func all(l []api.Arg, is func(api.Arg) bool) bool {
	for _, a := range l {
		if !is(a) {
			return false
		}
	}
	return true
}

// some tells whether all of them are so, and there is one.
func some(l []api.Arg, is func(api.Arg) bool) bool { return len(l) > 0 && all(l, is) }

func isValue(a api.Arg) bool { return a.Kind == api.ArgValue }

func isID(a api.Arg) bool { return isValue(a) && a.V.Kind == api.Int && a.V.N >= 1 }

func isCount(a api.Arg) bool { return isValue(a) && a.V.Kind == api.Int && a.V.N >= 0 }

func isName(a api.Arg) bool { return isValue(a) && a.V.Kind == api.Str && graph.Name(a.V.S) }

// isTest tells whether an argument is what a value is held against.
func isTest(a api.Arg) bool { return a.Kind == api.ArgPred || isValue(a) }

func isTraversal(a api.Arg) bool { return a.Kind == api.ArgTrav }

// isKey tells whether an argument is what things are told apart by.
func isKey(a api.Arg) bool { return isName(a) || isTraversal(a) }

// isWay tells whether an argument is the way in which things are ordered.
func isWay(a api.Arg) bool { return isWord(a, "asc") || isWord(a, "desc") }

// isHow tells whether an argument is how a property is kept.
func isHow(a api.Arg) bool { return isWord(a, "single") || isWord(a, "list") }

func isWord(a api.Arg, s string) bool { return a.Kind == api.ArgWord && a.V.S == s }
