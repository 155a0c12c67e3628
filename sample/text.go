// Package sample has histories for the tests of other packages: read from text, or drawn. The program itself does not call it.
package sample

import (
	"slices"
	"strings"

	"tenter/api"
	"tenter/num"
	"tenter/op"
	"tenter/txn"
)

// must ends a test whose text is not what it is meant to be.
func must(text string, why api.Errno) {
	if why != api.OK {
		panic("no sample: " + text)
	}
}

func number(text string) int {
	n, why := num.Read(text)
	must(text, why)
	return n
}

// Tx reads a transaction: 3 c w5 r5@3.1. It need not be right.
func Tx(text string) api.Tx {
	words := strings.Fields(text)
	t := api.Tx{Id: number(words[0]), Done: words[1] == "c"}
	for _, word := range words[2:] {
		o, why := op.Read(word)
		must(word, why)
		t.Ops = append(t.Ops, o)
	}
	return t
}

// Order reads an order: 5: 2 1.
func Order(text string) api.Order {
	key, ids, _ := strings.Cut(text, ":")
	o := api.Order{Key: number(strings.TrimSpace(key))}
	for _, id := range strings.Fields(ids) {
		o.Txs = append(o.Txs, number(id))
	}
	return o
}

// History reads transactions and orders with ; between: 1 c w5; 2 a w5 r5@1.1; 5: 1. Nothing is put right.
func History(text string) api.History {
	var h api.History
	for _, part := range strings.Split(text, ";") {
		if strings.Contains(part, ":") {
			h.Orders = append(h.Orders, Order(part))
		} else if strings.TrimSpace(part) != "" {
			h.Txs = append(h.Txs, Tx(part))
		}
	}
	return h
}

// Text tells a history as History reads it.
func Text(h api.History) string {
	var parts []string
	for _, t := range h.Txs {
		parts = append(parts, txn.Text(t))
	}
	for _, o := range h.Orders {
		parts = append(parts, strings.TrimSpace(num.Text(o.Key)+": "+num.Words(o.Txs)))
	}
	return strings.Join(parts, "; ")
}

// Copy tells h, in new memory.
func Copy(h api.History) api.History {
	var all api.History
	for _, t := range h.Txs {
		all.Txs = append(all.Txs, api.Tx{Id: t.Id, Done: t.Done, Ops: slices.Clone(t.Ops)})
	}
	for _, o := range h.Orders {
		all.Orders = append(all.Orders, api.Order{Key: o.Key, Txs: slices.Clone(o.Txs)})
	}
	return all
}

// Spoil changes all memory of h, so that whoever shares it is found out.
func Spoil(h api.History) {
	const other = 777
	for i := range h.Txs {
		for k := range h.Txs[i].Ops {
			h.Txs[i].Ops[k] = api.Op{Key: other}
		}
		h.Txs[i] = api.Tx{Id: other}
	}
	for i := range h.Orders {
		for k := range h.Orders[i].Txs {
			h.Orders[i].Txs[k] = other
		}
		h.Orders[i] = api.Order{Key: other}
	}
}
