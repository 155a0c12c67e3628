// Package bitrow has rows of places that are set or not: see ../../shared/DOC.md and doc/01-bitrow.md.
package bitrow

import (
	"math/bits"
	"slices"

	"tenter/api"
)

// A place stands in the word place >> wordShift, at the bit place & wordMask; the shift rounds down below 0, too.
const (
	wordBits  = 64
	wordShift = 6
	wordMask  = wordBits - 1
)

// Row is what chapter 1 calls so. The bits of the last word that are no places are never set, so that words can be counted and compared whole.
type Row struct {
	n     int
	words []uint64
}

// New makes a row without set places.
func New(n int) *Row {
	n = min(max(n, 0), api.MaxBits)
	return &Row{n: n, words: make([]uint64, (n+wordMask)>>wordShift)}
}

// Of makes a row, with those of l set that are places of it.
func Of(n int, l ...int) *Row {
	r := New(n)
	for _, i := range l {
		r.Set(i, true)
	}
	return r
}

// Len tells how many places there are.
func (r *Row) Len() int {
	if r == nil {
		return 0
	}
	return r.n
}

// isPlace is false of a nil row, for any i: whoever asks it first may look at the words.
func (r *Row) isPlace(i int) bool { return i >= 0 && i < r.Len() }

// Set sets a place, or not, and tells whether it was otherwise.
func (r *Row) Set(i int, on bool) bool {
	if !r.isPlace(i) || r.Has(i) == on {
		return false
	}
	r.words[i>>wordShift] ^= 1 << (i & wordMask)
	return true
}

// Has tells whether a place is set.
func (r *Row) Has(i int) bool {
	return r.isPlace(i) && r.words[i>>wordShift]>>(i&wordMask)&1 == 1
}

// Count tells how many places are set.
func (r *Row) Count() int {
	if r == nil {
		return 0
	}
	sum := 0
	for _, w := range r.words {
		sum += bits.OnesCount64(w)
	}
	return sum
}

// Next tells the least place from i on that is set, or -1.
func (r *Row) Next(i int) int { return r.NextBoth(r, i) }

// NextBoth tells the least place from i on that is set in both rows, or -1.
func (r *Row) NextBoth(o *Row, i int) int {
	i = max(i, 0)
	if !r.isPlace(i) {
		return -1
	}
	at, below := i>>wordShift, i&wordMask
	both := (r.words[at] & o.word(at)) >> below << below
	for both == 0 {
		at++
		if at == len(r.words) {
			return -1
		}
		both = r.words[at] & o.word(at)
	}
	return at<<wordShift + bits.TrailingZeros64(both)
}

// Or sets what is set in o, too.
func (r *Row) Or(o *Row) bool {
	return r.merge(o, func(mine, theirs uint64) uint64 { return mine | theirs })
}

// Minus takes away what is set in o.
func (r *Row) Minus(o *Row) bool {
	return r.merge(o, func(mine, theirs uint64) uint64 { return mine &^ theirs })
}

// And takes away what is not set in o.
func (r *Row) And(o *Row) bool {
	return r.merge(o, func(mine, theirs uint64) uint64 { return mine & theirs })
}

// merge puts r together with o, word by word, and tells whether that changed r.
func (r *Row) merge(o *Row, rule func(mine, theirs uint64) uint64) bool {
	if r == nil {
		return false
	}
	changed := false
	for at, mine := range r.words {
		merged := rule(mine, o.word(at)) & r.places(at)
		changed = changed || merged != mine
		r.words[at] = merged
	}
	return changed
}

// word tells 0 where there is no word, so that rows of any lengths can be put together.
func (r *Row) word(at int) uint64 {
	if r == nil || at < 0 || at >= len(r.words) {
		return 0
	}
	return r.words[at]
}

// places has those bits of the word at that are places.
func (r *Row) places(at int) uint64 {
	if left := r.n - at<<wordShift; left < wordBits {
		return 1<<left - 1
	}
	return ^uint64(0)
}

// Moved tells a row with all places moved up by k.
func (r *Row) Moved(k int) *Row {
	m := New(r.Len())
	// Whoever is moved so far falls off; and a smaller k can't overflow below.
	if k >= m.n || k <= -m.n {
		return m
	}
	for at := range m.words {
		m.words[at] = r.window(at<<wordShift-k) & m.places(at)
	}
	return m
}

// window tells the bits of a word's worth of places, from one on that need not be a place.
func (r *Row) window(from int) uint64 {
	at, shift := from>>wordShift, from&wordMask
	return r.word(at)>>shift | r.word(at+1)<<(wordBits-shift)
}

// List tells the places that are set, rising.
func (r *Row) List() []int {
	l := make([]int, 0, r.Count())
	for i := r.Next(0); i >= 0; i = r.Next(i + 1) {
		l = append(l, i)
	}
	return l
}

// Copy tells a row of the same length and places.
func (r *Row) Copy() *Row {
	c := New(r.Len())
	c.Or(r)
	return c
}

// Same tells whether two rows have one length, and the same places set.
func Same(a, b *Row) bool {
	if a.Len() == 0 || b.Len() == 0 {
		return a.Len() == b.Len()
	}
	return a.n == b.n && slices.Equal(a.words, b.words)
}
