package pred

import (
	"strings"

	"offshoot/api"
	"offshoot/val"
)

// Holds tells whether a value is such, by a predicate that may be.
func Holds(p api.Pred, v api.Value) bool { return Check(p) && holds(p, v) }

func holds(p api.Pred, v api.Value) bool {
	switch p.Op {
	case and:
		return holds(p.Kids[0], v) && holds(p.Kids[1], v)
	case or:
		return holds(p.Kids[0], v) || holds(p.Kids[1], v)
	case not:
		return !holds(p.Kids[0], v)
	case "eq", "within":
		return isOneOf(v, p.L)
	case "neq", "without":
		return !isOneOf(v, p.L)
	case "between":
		return isNotBelow(v, p.L[0]) && isBelow(v, p.L[1])
	case "inside":
		return isAbove(v, p.L[0]) && isBelow(v, p.L[1])
	case "outside":
		return isBelow(v, p.L[0]) || isAbove(v, p.L[1])
	}
	return holdsTo(p.Op, v, p.L[0])
}

// holdsTo tells of the predicates of one value, but those that ask for the same.
func holdsTo(op string, v, to api.Value) bool {
	switch op {
	case "lt":
		return isBelow(v, to)
	case "lte":
		return isNotAbove(v, to)
	case "gt":
		return isAbove(v, to)
	case "gte":
		return isNotBelow(v, to)
	}
	return v.Kind == api.Str && to.Kind == api.Str && hasText(op, v.S, to.S)
}

func hasText(op, s, part string) bool {
	switch op {
	case "startingWith":
		return strings.HasPrefix(s, part)
	case "endingWith":
		return strings.HasSuffix(s, part)
	}
	return strings.Contains(s, part)
}

func isOneOf(v api.Value, l []api.Value) bool {
	for _, x := range l {
		if val.Same(v, x) {
			return true
		}
	}
	return false
}

// Values of other kinds are ordered, too, but here none of them is below, above, or neither.

func isBelow(v, to api.Value) bool    { return alike(v, to) && val.Cmp(v, to) < 0 }
func isAbove(v, to api.Value) bool    { return alike(v, to) && val.Cmp(v, to) > 0 }
func isNotBelow(v, to api.Value) bool { return alike(v, to) && val.Cmp(v, to) >= 0 }
func isNotAbove(v, to api.Value) bool { return alike(v, to) && val.Cmp(v, to) <= 0 }

// alike tells whether values are of one kind, as which all numbers count.
func alike(a, b api.Value) bool { return a.Kind == b.Kind || isNumber(a) && isNumber(b) }

func isNumber(v api.Value) bool { return v.Kind == api.Int || v.Kind == api.Float }
