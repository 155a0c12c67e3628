package sample

import (
	"slices"

	"tenter/api"
	"tenter/history"
	"tenter/txn"
)

// A draw tells a number from 0 to one less than n, as it likes. Ids and keys that are drawn are few, so that they meet.

// DrawTx draws a transaction; some of what it reads is nowhere, and some operations are not right.
func DrawTx(draw func(n int) int) api.Tx {
	t := api.Tx{Id: 1 + draw(6), Done: draw(3) > 0}
	for range draw(7) {
		key := 1 + draw(3)
		switch draw(6) {
		case 0:
			t.Ops = append(t.Ops, api.Op{Read: true, Key: key})
		case 1:
			t.Ops = append(t.Ops, api.Op{Read: true, Key: key, Tx: 1 + draw(6), Nth: 1 + draw(2)})
		default:
			t.Ops = append(t.Ops, api.Op{Key: key})
		}
	}
	if draw(40) == 0 {
		t.Ops = append(t.Ops, api.Op{Key: -1})
	}
	return t
}

// DrawEdit draws what an edit makes of a right history: another right one, or the same.
func DrawEdit(h api.History, draw func(n int) int) api.History {
	next, why := drawEdit(h, draw)
	if why != api.OK {
		return Copy(h)
	}
	return next
}

func drawEdit(h api.History, draw func(n int) int) (api.History, api.Errno) {
	switch draw(8) {
	case 0, 1, 2:
		return history.Insert(h, DrawTx(draw))
	case 3, 4:
		return history.Amend(h, DrawTx(draw))
	case 5:
		return history.Delete(h, 1+draw(6))
	default:
		return history.Move(h, 1+draw(3), 1+draw(6), draw(4))
	}
}

// DrawHistory draws a right history in which there is much that is read, mostly of versions that are last.
func DrawHistory(draw func(n int) int) api.History {
	var h api.History
	for id := 1; id <= 6; id++ {
		t := api.Tx{Id: id, Done: draw(5) > 0}
		for range draw(4) {
			t.Ops = append(t.Ops, api.Op{Key: 1 + draw(3)})
		}
		if draw(6) > 0 {
			h.Txs = append(h.Txs, t)
		}
	}
	for i := range h.Txs {
		for range draw(5) {
			h.Txs[i].Ops = drawRead(h, i, draw)
		}
	}
	for key := 1; key <= 3; key++ {
		if ids := drawOrder(h, key, draw); len(ids) > 0 {
			h.Orders = append(h.Orders, api.Order{Key: key, Txs: ids})
		}
	}
	return h
}

// drawRead draws a read for the transaction at a place, and tells its operations with it: a read of its own behind all, others anywhere.
func drawRead(h api.History, place int, draw func(n int) int) []api.Op {
	t := h.Txs[place]
	o := api.Op{Read: true, Key: 1 + draw(3)}
	of := h.Txs[draw(len(h.Txs))]
	if n := txn.Writes(of, o.Key); n > 0 && draw(4) > 0 {
		o.Tx, o.Nth = of.Id, n-draw(min(n, 2))
	}
	at := draw(len(t.Ops) + 1)
	if o.Tx == t.Id {
		at = len(t.Ops)
	}
	return slices.Insert(t.Ops, at, o)
}

// drawOrder draws an order of the writers of a key.
func drawOrder(h api.History, key int, draw func(n int) int) []int {
	var ids []int
	for _, t := range h.Txs {
		if t.Done && txn.Writes(t, key) > 0 {
			ids = slices.Insert(ids, draw(len(ids)+1), t.Id)
		}
	}
	return ids
}
