package swarm_test

import (
	"fmt"
	"testing"

	"stolon/api"
	"stolon/swarm"
)

// trial is a world to which the same events happen as to its model.
type trial struct {
	*history
	m        *model
	writable bool // only events happen that can be written
	logged   int  // how many outcomes were seen
}

// newTrial returns a trial in which nothing has happened. Its disks and its quota may be too small.
func newTrial(t *testing.T, seed uint64, seen map[string]int) *trial {
	t.Helper()
	h := newHistory(t, seed)
	if h.r.IntN(2) == 0 {
		h.narrow()
	}
	h.seen = seen
	return &trial{history: h, m: newModel(h.setup), writable: seed%2 == 0}
}

// strange returns an event of which some fields are not as usual.
func (c *trial) strange() api.Event {
	e := c.anyEvent()
	kinds := 7
	if c.writable {
		kinds = 4
	}
	switch c.r.IntN(kinds) {
	case 0:
		e.Kind = []api.EventKind{0, 15, 16, 255}[c.r.IntN(4)]
	case 1:
		e.Draw = []uint64{0, 256, 1<<64 - 1, 1<<64 - 256, 1}[c.r.IntN(5)]
	case 2:
		e.Peer = []int{c.setup.Peers, 16, 255}[c.r.IntN(3)]
	case 3:
		e.Data = make([]byte, []int{8191, 8192, 8193, 65535}[c.r.IntN(4)])
	case 4:
		e.Peer = []int{-1, 256, 1 << 40, -1 << 63}[c.r.IntN(4)]
	case 5:
		e.A = []int{-1, -12345, 1 << 40, -1 << 63, 1<<63 - 1}[c.r.IntN(5)]
	case 6:
		e.B = []int{-1, -12345, 1 << 40, -1000, 1000}[c.r.IntN(5)]
	}
	return e
}

// happen lets an event happen to the world and to its model.
func (c *trial) happen(e api.Event) {
	c.t.Helper()
	name := fmt.Sprint("kind ", e.Kind)
	c.script = append(c.script, e)
	applies := c.w.Do(e)
	if want := c.m.do(e); applies != want {
		c.t.Fatal(name, "Do returns", applies)
	}
	if !applies {
		name += " fails"
	}
	c.seen[name]++
	c.seen[fmt.Sprint("violated ", c.m.violated())]++
	for ; c.logged < len(c.m.log); c.logged++ {
		c.seen[fmt.Sprint("code ", c.m.log[c.logged].Result.Code)]++
	}
	c.m.expectLike(c.t, c.w)
}

// calm starts most peers, and makes fair rounds until the swarm is settled or that takes too long.
func (c *trial) calm() {
	for i := range c.setup.Peers {
		if c.r.IntN(6) != 0 {
			c.happen(api.Event{Kind: api.EvStart, Peer: i})
		}
	}
	for range 120 {
		if c.w.Settled() {
			return
		}
		c.happen(api.Event{Kind: api.EvRound, Draw: c.r.Uint64()})
	}
}

// step lets something happen.
func (c *trial) step() {
	switch n := c.r.IntN(300); {
	case n == 0:
		c.calm()
	case n < 30:
		c.happen(c.strange())
	default:
		c.happen(c.anyEvent())
	}
}

// P10.3 to P10.6, T1: a world does what its model does, whatever happens.
func TestWorldsLikeTheModel(t *testing.T) {
	seen := parallel(t, 80, func(t *testing.T, seed uint64, seen map[string]int) {
		c := newTrial(t, seed, seen)
		for range 400 {
			c.step()
		}
		if c.writable {
			c.expectPlayed()
		}
	})
	least := map[string]int{
		"kind 0 fails": 50, "kind 15 fails": 50, "kind 255 fails": 50, "kind 1 fails": 1000, "kind 14": 2000,
		"code 0": 100, "code 8": 5, "code 12": 30, "code 30": 3, "code 40": 3, "code 41": 1, "code 90": 1,
		"violated []": 4000, "violated [1]": 3000, "violated [2]": 800, "violated [3]": 800, "violated [4]": 30, "violated [5]": 8,
	}
	for kind := api.EvTick; kind <= api.EvLeave; kind++ {
		least[fmt.Sprint("kind ", kind)] = 12
		least[fmt.Sprint("kind ", kind, " fails")] = 12
	}
	t.Log(seen)
	expectSeen(t, seen, least)
}

// expectPlayed checks P10.4: that the script of a trial makes the same world.
func (c *trial) expectPlayed() {
	c.t.Helper()
	script, e := swarm.Script(c.setup, c.script)
	if e != api.OK {
		c.t.Fatal("Script", e)
	}
	w, e := swarm.Play(script)
	if e != api.OK {
		c.t.Fatal("Play", e)
	}
	c.m.expectLike(c.t, w)
}
