package member_test

import (
	"math/rand/v2"
	"slices"
	"testing"

	"stolon/api"
	"stolon/member"
)

// trial is a machine that is used at random, and its model.
type trial struct {
	r    *rand.Rand
	m    *member.Machine
	o    *model
	seen map[string]int
}

// newTrial returns a trial with a new machine.
func newTrial(t *testing.T, seed uint64, seen map[string]int) *trial {
	t.Helper()
	r := rand.New(rand.NewPCG(seed, 55))
	peers := 2 + r.IntN(6)
	if r.IntN(4) == 0 {
		peers = 2 + r.IntN(15)
	}
	self := r.IntN(peers)
	inc := uint64(1 + r.IntN(4))
	return &trial{r: r, m: newMachine(t, self, peers, inc), o: newModel(self, peers, inc), seen: seen}
}

// message returns a message for the machine, that is mostly one that it accepts.
func (c *trial) message() api.Message {
	peers := c.o.peers
	msg := api.Message{
		Kind: api.Kind(1 + c.r.IntN(3)), From: (c.o.self + 1 + c.r.IntN(peers-1)) % peers, To: c.o.self,
		Seq: c.o.number - uint64(c.r.IntN(12)), Origin: c.r.IntN(peers), Target: c.r.IntN(peers), Table: slices.Clone(c.o.table),
	}
	if c.r.IntN(2) == 0 {
		msg.Origin = c.o.self
	}
	// Entries that are a little newer or older than the known ones.
	for range c.r.IntN(3) {
		i := c.r.IntN(peers)
		inc := msg.Table[i].Inc + uint64(c.r.IntN(3))
		msg.Table[i] = api.Member{}
		if inc > 1 {
			msg.Table[i] = entry(inc-1, api.Status(1+c.r.IntN(4)))
		}
	}
	switch c.r.IntN(40) {
	case 0:
		msg.Kind = api.Kind(c.r.IntN(20))
	case 1:
		msg.From = c.r.IntN(20) - 2
	case 2:
		msg.To = c.r.IntN(20) - 2
	case 3:
		msg.Origin, msg.Target = c.r.IntN(20)-2, c.r.IntN(20)-2
	case 4:
		msg.Table = msg.Table[1:]
	case 5:
		msg.Table[c.r.IntN(peers)] = entry(uint64(c.r.IntN(3)), api.Status(c.r.IntN(8)))
	}
	return msg
}

// step makes one call of the machine and of its model.
func (c *trial) step(t *testing.T) {
	t.Helper()
	var name string
	var got, want []api.Message
	var e, f api.Errno
	switch n := c.r.IntN(1000); {
	case n < 550:
		name = "Tick"
		draw := c.r.Uint64() >> c.r.IntN(64)
		got, want = c.m.Tick(draw), c.o.tick(draw)
		c.seen["requests"] += len(requestsOf(got))
	case n < 950:
		name = "Receive"
		msg := c.message()
		got, e = c.m.Receive(msg)
		want, f = c.o.receive(msg)
	case n < 998:
		name = "Reincarnate"
		inc := c.o.table[c.o.self].Inc + uint64(c.r.IntN(5)) - 1
		e, f = c.m.Reincarnate(inc), c.o.reincarnate(inc)
	default:
		name = "Leave"
		got, want = c.m.Leave(), c.o.leave()
	}
	if e != f {
		t.Fatalf("%s returns %d instead of %d", name, e, f)
	}
	c.seen[name]++
	if e != api.OK {
		c.seen[name+" fails"]++
	}
	expectMessages(t, name, got, want...)
	expectView(t, name, c.m, c.o.view())
}

// P5.4 to P5.11: a machine does what its model does, and no entry becomes older.
func TestMachineAgainstTheModel(t *testing.T) {
	seen := make(map[string]int)
	for seed := range uint64(600) {
		c := newTrial(t, seed, seen)
		before := c.m.Table()
		for range 400 {
			c.step(t)
			after := c.m.Table()
			if !member.Valid(after) {
				t.Fatal("not a valid table", after)
			}
			for i := range after {
				if member.Newer(before[i], after[i]) {
					t.Fatalf("%v is replaced by %v", before[i], after[i])
				}
				if before[i].Status == api.Suspect && after[i] == entry(before[i].Inc, api.Dead) {
					seen["Dead"]++
				}
			}
			before = after
		}
	}
	for _, name := range []string{"Tick", "requests", "Receive", "Receive fails", "Reincarnate", "Reincarnate fails", "Leave", "Dead"} {
		if seen[name] < 100 {
			t.Error("seldom seen:", name, seen[name])
		}
	}
}

// P5.12: whatever a machine has received, it finds all others not live when it has received nothing for long enough.
func TestDetection(t *testing.T) {
	for seed := range uint64(300) {
		c := newTrial(t, 5000+seed, make(map[string]int))
		for range c.r.IntN(200) {
			if c.step(t); c.o.left {
				break
			}
		}
		if c.o.left {
			continue
		}
		table := slices.Repeat([]api.Member{entry(50, api.Alive)}, c.o.peers)
		table[c.o.self] = api.Member{}
		if seed%2 == 0 {
			tell(t, c.m, c.o.self, table...)
		}
		ticks(c.m, c.o.peers-1+10+10+3*c.o.peers)
		if got := c.m.Live(); !slices.Equal(got, []int{c.o.self}) {
			t.Fatal("live are", got, c.m.Table())
		}
	}
}

// P5.12: the bound is reached, by the peer that was pinged just before it stopped.
func TestDetectionIsNotEarlier(t *testing.T) {
	for peers := 2; peers <= 16; peers++ {
		m := newMachine(t, 0, peers, 1)
		m.Tick(0)
		table := make([]api.Member, peers)
		table[1] = entry(1, api.Alive)
		receive(t, m, api.Message{Kind: api.KindAck, From: 1, To: 0, Seq: 1, Origin: 0, Table: table})
		bound := peers - 1 + api.ProbeWait + member.SuspectWait(peers)
		ticks(m, bound-1)
		expectEntry(t, m, 1, entry(1, api.Suspect))
		m.Tick(0)
		expectEntry(t, m, 1, entry(1, api.Dead))
	}
}
