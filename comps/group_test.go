package comps

import (
	"testing"

	"tenter/api"
)

// An arc that is there MaxNum times is full, which takes too many Adds for a test: what the closure tells is told, and nothing changes.
func TestFullIsTold(t *testing.T) {
	c := New(2)
	c.Add(0, 1)
	c.Add(1, 0)
	c.Clean()
	full := func(u, v int) api.Errno { return api.ErrFull }
	if why := c.change(0, 1, full); why != api.ErrFull {
		t.Errorf("of a full arc: %d", why)
	}
	if l := c.Stale(); len(l) != 0 || len(c.turned) != 0 || len(c.Members(0)) != 2 {
		t.Errorf("what was refused changed something: %v, %v, %v", l, c.turned, c.Members(0))
	}
}

// What came and went leaves nothing behind, nor what came ahead of a Clean.
func TestNothingTurnedNothingKept(t *testing.T) {
	c := New(70)
	for node := range 70 {
		c.Add(node, 69-node)
		c.Add(node, 69-node)
	}
	if len(c.turned) != 70 {
		t.Fatalf("%d arcs", len(c.turned))
	}
	for node := range 70 {
		c.Drop(node, 69-node)
		c.Drop(node, 69-node)
	}
	if len(c.turned) != 0 {
		t.Fatalf("%d arcs", len(c.turned))
	}
	c.Add(0, 1)
	c.Clean()
	if len(c.turned) != 0 {
		t.Fatalf("%d arcs", len(c.turned))
	}
}
