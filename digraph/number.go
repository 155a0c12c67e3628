package digraph

import "tenter/api"

// An arc's number has its From highest, then Kind, Label and To, so that arcs stand in the order of their numbers.
const (
	toBits    = 12
	labelBits = 20
	kindBits  = 2

	labelShift = toBits
	kindShift  = labelShift + labelBits
	fromShift  = kindShift + kindBits

	toMask    = 1<<toBits - 1
	labelMask = 1<<labelBits - 1
	kindMask  = 1<<kindBits - 1

	// perKind is from the first number of a node and a kind to that of the next kind.
	perKind = 1 << kindShift
)

// number tells the number of an arc that is right for a digraph: so no part has more bits than its own.
func number(a api.Arc) uint64 {
	return uint64(a.From)<<fromShift | uint64(a.Kind)<<kindShift | uint64(a.Label)<<labelShift | uint64(a.To)
}

// arc tells the arc whose number x is.
func arc(x uint64) api.Arc {
	return api.Arc{From: int(x >> fromShift), To: int(x & toMask), Kind: int(x >> kindShift & kindMask), Label: int(x >> labelShift & labelMask)}
}
