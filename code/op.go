package code

import (
	"offshoot/api"
)

// op is what a step's instruction does: of has what it does with a name alone.
func op(name string) int {
	switch name {
	case "has":
		return api.OpHas
	case "hasNot":
		return api.OpHasNot
	case "hasLabel":
		return api.OpHasL
	case "hasId":
		return api.OpHasID
	case "is":
		return api.OpIs
	case "where":
		return api.OpWhere
	case "not":
		return api.OpNot
	case "and":
		return api.OpAnd
	case "or":
		return api.OpOr
	case "dedup":
		return api.OpDedup
	case "limit", "skip", "range":
		return api.OpRange
	case "tail":
		return api.OpTail
	case "simplePath":
		return api.OpSimple
	case "identity":
		return api.OpIdent
	case "barrier":
		return api.OpBarrier
	}
	return goer(name)
}

// goer is what is done by the steps that go on to values, one behind the other.
func goer(name string) int {
	switch name {
	case "V":
		return api.OpV
	case "E":
		return api.OpE
	case "inject":
		return api.OpInject
	case "constant":
		return api.OpConst
	case "out", "in", "both", "outE", "inE", "bothE":
		return api.OpWalk
	case "outV", "inV", "bothV":
		return api.OpEnds
	case "values":
		return api.OpValues
	case "id":
		return api.OpID
	case "label":
		return api.OpLabel
	case "path":
		return api.OpPath
	case "select":
		return api.OpSelect
	case "add":
		return api.OpAdd
	case "mul":
		return api.OpMul
	case "unfold":
		return api.OpUnfold
	case "as":
		return api.OpAs
	}
	return other(name)
}

// other is what is done by the steps that make one of many, change the graph, order, or have ways.
func other(name string) int {
	switch name {
	case "fold":
		return api.OpFold
	case "count", "sum", "min", "max", "mean":
		return api.OpReduce
	case "group":
		return api.OpGroup
	case "groupCount":
		return api.OpCounts
	case "order":
		return api.OpOrder
	case "addV":
		return api.OpAddV
	case "addE":
		return api.OpAddE
	case "property":
		return api.OpProp
	case "drop":
		return api.OpDrop
	case "union":
		return api.OpUnion
	case "coalesce":
		return api.OpFirst
	case "optional":
		return api.OpMaybe
	case "choose":
		return api.OpChoose
	case "local":
		return api.OpLocal
	case "repeat":
		return api.OpRepeat
	}
	return 0
}
