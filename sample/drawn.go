package sample

import (
	"tenter/api"
	"tenter/history"
)

// A draw tells a number from 0 to one less than n, as it likes. Ids and keys that are drawn are few, so that they meet.

// DrawTx draws a transaction; some of what it reads is nowhere, and some operations are not right.
func DrawTx(draw func(n int) int) api.Tx {
	t := api.Tx{Id: 1 + draw(6), Done: draw(3) > 0}
	for range draw(7) {
		key := 1 + draw(3)
		switch draw(6) {
		case 0:
			t.Ops = append(t.Ops, api.Op{Read: true, Key: key})
		case 1:
			t.Ops = append(t.Ops, api.Op{Read: true, Key: key, Tx: 1 + draw(6), Nth: 1 + draw(2)})
		default:
			t.Ops = append(t.Ops, api.Op{Key: key})
		}
	}
	if draw(40) == 0 {
		t.Ops = append(t.Ops, api.Op{Key: -1})
	}
	return t
}

// DrawEdit draws what an edit makes of a right history: another right one, or the same.
func DrawEdit(h api.History, draw func(n int) int) api.History {
	next, why := drawEdit(h, draw)
	if why != api.OK {
		return Copy(h)
	}
	return next
}

func drawEdit(h api.History, draw func(n int) int) (api.History, api.Errno) {
	switch draw(8) {
	case 0, 1, 2:
		return history.Insert(h, DrawTx(draw))
	case 3, 4:
		return history.Amend(h, DrawTx(draw))
	case 5:
		return history.Delete(h, 1+draw(6))
	default:
		return history.Move(h, 1+draw(3), 1+draw(6), draw(4))
	}
}
