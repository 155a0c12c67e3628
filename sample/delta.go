package sample

import (
	"strings"

	"tenter/api"
)

// Delta reads what was, behind -, and what is, behind +, with ; between: -1 c w5; +1 a w5; -5: 1 2; +5: 2. Nothing is put right.
func Delta(text string) api.Delta {
	var d api.Delta
	for part := range strings.SplitSeq(text, ";") {
		part = strings.TrimSpace(part)
		was, is := strings.CutPrefix(part, "-")
		h := History(strings.TrimPrefix(was, "+"))
		if is {
			d.Was, d.Old = append(d.Was, h.Txs...), append(d.Old, h.Orders...)
		} else {
			d.Now, d.New = append(d.Now, h.Txs...), append(d.New, h.Orders...)
		}
	}
	return d
}

// Was tells what was, as if it were a history.
func Was(d api.Delta) api.History { return api.History{Txs: d.Was, Orders: d.Old} }

// Now tells what is, likewise.
func Now(d api.Delta) api.History { return api.History{Txs: d.Now, Orders: d.New} }

func deltaOf(was, now api.History) api.Delta {
	return api.Delta{Was: was.Txs, Now: now.Txs, Old: was.Orders, New: now.Orders}
}

// DeltaText tells what was, and what is.
func DeltaText(d api.Delta) string {
	return "-{" + Text(Was(d)) + "} +{" + Text(Now(d)) + "}"
}

// CopyDelta tells d, in new memory.
func CopyDelta(d api.Delta) api.Delta { return deltaOf(Copy(Was(d)), Copy(Now(d))) }

// SpoilDelta changes all memory of d.
func SpoilDelta(d api.Delta) {
	Spoil(Was(d))
	Spoil(Now(d))
}

// DrawOther tells a delta with one thing other than d has it, mostly one that does not fit any more.
func DrawOther(d api.Delta, draw func(n int) int) api.Delta {
	d = CopyDelta(d)
	back := draw(2) == 0
	if back {
		d = deltaOf(Now(d), Was(d))
	}
	switch draw(9) {
	case 0:
		d.Was = append(d.Was, DrawTx(draw))
	case 1:
		d.Now = append([]api.Tx{DrawTx(draw)}, d.Now...)
	case 2:
		d.Now = append(d.Now, api.Tx{Id: 9 + draw(3)})
	case 3:
		d.New = append(d.New, api.Order{Key: draw(8), Txs: []int{1 + draw(6)}})
	case 4:
		d.Old = append(d.Old, api.Order{Key: draw(8)})
	case 5:
		d.Was = d.Was[:max(len(d.Was)-1, 0)]
	case 6:
		d.New = d.New[:max(len(d.New)-1, 0)]
	case 7:
		d.Old, d.New = d.Old[:max(len(d.Old)-1, 0)], d.New[:max(len(d.New)-1, 0)]
	default:
		d.Now, d.Was = d.Now[:max(len(d.Now)-1, 0)], append([]api.Tx{{Id: -draw(2)}}, d.Was...)
	}
	if back {
		d = deltaOf(Now(d), Was(d))
	}
	return d
}
