// Package pack has edges and versions as one number each: see ../../shared/DOC.md and doc/02-pack.md.
package pack

import (
	"cmp"
	"slices"

	"tenter/api"
)

// Ids, and keys, have 20 bits, a kind 2, a version's number 12.
const (
	idBits   = 20
	keyBits  = 20
	kindBits = 2
	nthBits  = 12
)

// Where the parts of an edge's number stand; To stands lowest.
const (
	edgeKey  = idBits
	edgeKind = edgeKey + keyBits
	edgeFrom = edgeKind + kindBits
	edgeBits = edgeFrom + idBits
)

// Where the parts of a version's number stand; Nth stands lowest.
const (
	versionKey  = nthBits
	versionTx   = versionKey + keyBits
	versionBits = versionTx + idBits
)

// Edge tells an edge's number.
func Edge(e api.Edge) (uint64, api.Errno) {
	if !edgeRight(e) {
		return 0, api.ErrRange
	}
	x := uint64(e.From)<<edgeFrom | uint64(e.Kind)<<edgeKind | uint64(e.Key)<<edgeKey | uint64(e.To)
	return x, api.OK
}

// Unedge tells the edge of a number.
func Unedge(x uint64) (api.Edge, api.Errno) {
	e := api.Edge{
		From: part(x, edgeFrom, idBits),
		To:   part(x, 0, idBits),
		Kind: part(x, edgeKind, kindBits),
		Key:  part(x, edgeKey, keyBits),
	}
	if x>>edgeBits != 0 || !edgeRight(e) {
		return api.Edge{}, api.ErrForm
	}
	return e, api.OK
}

// Version tells a version's number.
func Version(v api.Version) (uint64, api.Errno) {
	if !versionRight(v) {
		return 0, api.ErrRange
	}
	x := uint64(v.Tx)<<versionTx | uint64(v.Key)<<versionKey | uint64(v.Nth)
	return x, api.OK
}

// Unversion tells the version of a number.
func Unversion(x uint64) (api.Version, api.Errno) {
	v := api.Version{
		Tx:  part(x, versionTx, idBits),
		Key: part(x, versionKey, keyBits),
		Nth: part(x, 0, nthBits),
	}
	if x>>versionBits != 0 || !versionRight(v) {
		return api.Version{}, api.ErrForm
	}
	return v, api.OK
}

// Less tells whether a stands ahead of b.
func Less(a, b api.Edge) bool { return compare(a, b) < 0 }

// Sort tells the edges of l in order, each once.
func Sort(l []api.Edge) []api.Edge {
	sorted := slices.Clone(l)
	slices.SortFunc(sorted, compare)
	return slices.Compact(sorted)
}

// compare looks at numbers one by one, and not at those of Edge, which not every edge has.
func compare(a, b api.Edge) int {
	x, y := ranks(a), ranks(b)
	for i := range x {
		if x[i] != y[i] {
			return cmp.Compare(x[i], y[i])
		}
	}
	return 0
}

// ranks has what an edge stands in order by, what weighs most first.
func ranks(e api.Edge) [4]int { return [4]int{e.From, e.Kind, e.Key, e.To} }

// part tells what stands in some bits of x, from the bit at on.
func part(x uint64, at, size int) int { return int(x >> at & (1<<size - 1)) }

func edgeRight(e api.Edge) bool {
	return within(e.From, 1, api.MaxId) && within(e.To, 1, api.MaxId) &&
		within(e.Kind, api.WW, api.RW) && within(e.Key, 1, api.MaxKey)
}

func versionRight(v api.Version) bool {
	if v.Tx == 0 && v.Nth != 0 || v.Tx != 0 && !within(v.Nth, 1, api.MaxNth) {
		return false
	}
	return within(v.Tx, 0, api.MaxId) && within(v.Key, 1, api.MaxKey)
}

func within(n, least, most int) bool { return n >= least && n <= most }
