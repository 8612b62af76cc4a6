package member_test

import (
	"math"
	"slices"
	"testing"

	"stolon/api"
	"stolon/member"
)

// ticks lets a machine tick n times.
func ticks(m *member.Machine, n int) {
	for range n {
		m.Tick(0)
	}
}

// requestsOf returns those messages that are PingReqs.
func requestsOf(list []api.Message) []api.Message {
	return slices.DeleteFunc(slices.Clone(list), func(msg api.Message) bool { return msg.Kind != api.KindPingReq })
}

// P5.5 and example 2 of the chapter: who is pinged, for all swarms and all peers.
func TestPings(t *testing.T) {
	for peers := 2; peers <= 16; peers++ {
		for self := range peers {
			m := newMachine(t, self, peers, 3)
			to := self
			for tick := 1; tick <= 3; tick++ {
				if to = (to + 1) % peers; to == self {
					to = (to + 1) % peers
				}
				got := m.Tick(uint64(tick))
				expectMessages(t, "a tick", got, api.Message{Kind: api.KindPing, From: self, To: to, Seq: uint64(tick), Origin: self, Table: m.Table()})
				probe := api.Probe{Seq: uint64(tick), Target: to, Sent: uint64(tick)}
				if p := m.Probes(); len(p) != tick || p[tick-1] != probe || m.Clock() != uint64(tick) {
					t.Fatal("the probes", p, m.Clock())
				}
			}
		}
	}
	m := newMachine(t, 0, 3, 5)
	for i, want := range []int{1, 2, 1} {
		if l := m.Tick(0); len(l) != 1 || l[0].To != want || l[0].Seq != uint64(i+1) {
			t.Error("example 2", l)
		}
	}
}

// P5.5: a peer is pinged whatever its Status is, and it does not matter whether others were acknowledged.
func TestPingsOfEveryStatus(t *testing.T) {
	m := newMachine(t, 2, 6, 1)
	tell(t, m, 2, entry(1, api.Left), entry(1, api.Dead), api.Member{}, entry(1, api.Suspect), api.Member{}, entry(1, api.Alive))
	for round := range 2 {
		for i, want := range []int{3, 4, 5, 0, 1} {
			l := m.Tick(0)
			if p := l[len(l)-1]; p.Kind != api.KindPing || p.To != want {
				t.Error(round, i, l)
			}
		}
		receive(t, m, api.Message{Kind: api.KindAck, From: 3, To: 2, Seq: 2, Origin: 2, Table: make([]api.Member, 6)})
	}
}

// P5.5: the ages at which others are asked, and at which a probe is removed and its target suspected.
func TestAges(t *testing.T) {
	m := newMachine(t, 0, 3, 1)
	tell(t, m, 0, api.Member{}, entry(4, api.Alive), entry(4, api.Alive))
	for clock := 1; clock <= 20; clock++ {
		list := m.Tick(0)
		asks := requestsOf(list)
		if clock <= 4 && len(asks) != 0 {
			t.Fatal("too early", clock, asks)
		}
		if clock >= 5 {
			// The probe that is 4 ticks old, of the peer 1 at odd clocks.
			target := 2 - clock%2
			expectMessages(t, "requests", asks, api.Message{Kind: api.KindPingReq, From: 0, To: 3 - target, Seq: uint64(clock - 4), Target: target, Table: m.Table()})
		}
		probes := m.Probes()
		first := max(1, clock-9)
		if len(probes) != clock-first+1 {
			t.Fatal("clock", clock, "probes", probes)
		}
		for i, p := range probes {
			sent := uint64(first + i)
			if p != (api.Probe{Seq: sent, Target: 2 - int(sent)%2, Sent: sent, Asked: clock-int(sent) >= 4}) {
				t.Fatal("clock", clock, "probe", p)
			}
		}
		for peer, since := range map[int]int{1: 11, 2: 12} {
			want := entry(4, api.Alive)
			if clock >= since {
				want = entry(4, api.Suspect)
			}
			expectEntry(t, m, peer, want)
		}
	}
}

// P5.5: a probe that was acknowledged has no consequence any more.
func TestAcknowledgedProbes(t *testing.T) {
	m := newMachine(t, 0, 2, 1)
	tell(t, m, 0, api.Member{}, entry(4, api.Alive))
	for clock := range uint64(100) {
		expectMessages(t, "a tick", m.Tick(0), api.Message{Kind: api.KindPing, To: 1, Seq: clock + 1, Table: []api.Member{entry(1, api.Alive), entry(4, api.Alive)}})
		if clock >= 8 {
			receive(t, m, api.Message{Kind: api.KindAck, From: 1, To: 0, Seq: clock - 7, Origin: 0, Table: make([]api.Member, 2)})
		}
	}
	if got := m.Probes(); len(got) != 8 || got[0].Seq != 93 {
		t.Error(got)
	}
}

// P5.5: the end of a probe makes an Alive target Suspect, and leaves every other one as it is.
func TestTargetsOfEveryStatus(t *testing.T) {
	for _, c := range []struct{ before, after api.Member }{
		{api.Member{}, api.Member{}},
		{entry(8, api.Alive), entry(8, api.Suspect)},
		{entry(math.MaxUint64, api.Alive), entry(math.MaxUint64, api.Suspect)},
		{entry(8, api.Suspect), entry(8, api.Suspect)},
		{entry(8, api.Dead), entry(8, api.Dead)},
		{entry(8, api.Left), entry(8, api.Left)},
	} {
		m := newMachine(t, 1, 2, 1)
		ticks(m, 10)
		tell(t, m, 1, c.before, api.Member{})
		if got := m.Probes(); len(got) != 10 {
			t.Fatal(got)
		}
		list := m.Tick(0)
		expectEntry(t, m, 0, c.after)
		if got := m.Probes(); len(got) != 10 || got[0].Seq != 2 {
			t.Fatal(got)
		}
		expectMessages(t, "the tick", list, api.Message{Kind: api.KindPing, From: 1, To: 0, Seq: 11, Origin: 1, Table: m.Table()})
	}
}

// helperTable returns the table of peer 0 of n + 4, in which the live peers but itself and the target, which is 1, are 2 to n + 1.
func helperTable(n int) []api.Member {
	table := []api.Member{{}, entry(1, api.Alive)}
	for i := range n {
		table = append(table, entry(1, api.Status(1+i%2)))
	}
	return append(table, entry(1, api.Dead), entry(1, api.Left))
}

// P5.5: the helpers, for every number of candidates and for draws at the ends of their range.
func TestHelpers(t *testing.T) {
	draws := []uint64{math.MaxUint64, math.MaxUint64 - 1, math.MaxUint64 - 2, 1 << 63, 1<<63 - 1, 1 << 32, 1<<32 - 1}
	for draw := range uint64(30) {
		draws = append(draws, draw)
	}
	for n := range 13 {
		for _, draw := range draws {
			m := newMachine(t, 0, n+4, 1)
			tell(t, m, 0, helperTable(n)...)
			ticks(m, 4)
			list := m.Tick(draw)
			var want []api.Message
			for i := range min(n, 2) {
				want = append(want, api.Message{Kind: api.KindPingReq, To: 2 + modulo(draw, i, n), Seq: 1, Target: 1, Table: m.Table()})
			}
			want = append(want, list[len(list)-1])
			expectMessages(t, "helpers", list, want...)
			if !m.Probes()[0].Asked {
				t.Fatal("not asked")
			}
		}
	}
}

// P5.5: a probe whose target is not live has helpers as well, and others are asked once only, also if there were none.
func TestHelpersAreAskedOnce(t *testing.T) {
	m := newMachine(t, 0, 3, 1)
	ticks(m, 5)
	if p := m.Probes(); !p[0].Asked || p[1].Asked {
		t.Fatal(p)
	}
	tell(t, m, 0, api.Member{}, entry(1, api.Dead), entry(1, api.Alive))
	// The probe 1 has been asked about; the probe 2 has the only candidate as its target; the probe 3 is of the dead peer.
	if got := requestsOf(m.Tick(0)); len(got) != 0 {
		t.Error(got)
	}
	got := requestsOf(m.Tick(0))
	expectMessages(t, "requests", got, api.Message{Kind: api.KindPingReq, To: 2, Seq: 3, Target: 1, Table: m.Table()})
}

// P5.5: several probes may ask in one tick, in the order of their numbers, each with the same draw.
func TestRequestsOfManyProbes(t *testing.T) {
	m := newMachine(t, 0, 4, 1)
	tell(t, m, 0, api.Member{}, entry(1, api.Alive), entry(1, api.Alive), entry(1, api.Alive))
	for clock := range 9 {
		list := m.Tick(uint64(clock))
		if clock < 4 {
			continue
		}
		seq := clock - 3
		target := 1 + (seq-1)%3
		others := []int{1, 2, 3}
		others = slices.Delete(others, target-1, target)
		var want []api.Message
		for i := range 2 {
			want = append(want, api.Message{Kind: api.KindPingReq, To: others[(clock+i)%2], Seq: uint64(seq), Target: target, Table: m.Table()})
		}
		want = append(want, api.Message{Kind: api.KindPing, To: 1 + clock%3, Seq: uint64(clock + 1), Table: m.Table()})
		expectMessages(t, "a tick", list, want...)
	}
}

// P5.5 and example 4 of the chapter: Alive, Suspect at 11, Dead at 30.
func TestSuspicionExample(t *testing.T) {
	m := newMachine(t, 0, 3, 1)
	tell(t, m, 0, api.Member{}, entry(7, api.Alive), api.Member{})
	for clock := 1; clock <= 60; clock++ {
		list := m.Tick(0)
		want := entry(7, api.Alive)
		if clock >= 11 {
			want = entry(7, api.Suspect)
		}
		if clock >= 30 {
			want = entry(7, api.Dead)
		}
		expectEntry(t, m, 1, want)
		// All messages carry the table as it is when the call returns.
		for _, msg := range list {
			if !slices.Equal(msg.Table, m.Table()) {
				t.Fatal("the table of a message", msg.Table)
			}
		}
	}
}

// P5.5: for every number of peers, a Suspect is declared dead after SuspectWait ticks and not before.
func TestSuspectWait(t *testing.T) {
	for peers := 2; peers <= 16; peers++ {
		for self := range peers {
			m := newMachine(t, self, peers, 1)
			ticks(m, 7)
			table := make([]api.Member, peers)
			for i := range table {
				table[i] = entry(5, api.Suspect)
			}
			tell(t, m, self, table...)
			ticks(m, 10+3*peers-1)
			for i := range peers {
				if i != self {
					expectEntry(t, m, i, entry(5, api.Suspect))
				}
			}
			m.Tick(0)
			for i := range peers {
				if i != self {
					expectEntry(t, m, i, entry(5, api.Dead))
				}
			}
			expectEntry(t, m, self, entry(1, api.Alive))
		}
	}
}

// P5.7: when an entry comes into the table.
func TestSuspicionBegins(t *testing.T) {
	for _, c := range []struct {
		name   string
		first  api.Member // at the clock 0
		then   []api.Member
		at     int // the clock at which the entries of `then` are received
		status api.Status
		dead   int // the clock at which the peer is declared dead
	}{
		{"at once", entry(5, api.Suspect), nil, 0, api.Suspect, 16},
		{"the same entry again", entry(5, api.Suspect), []api.Member{entry(5, api.Suspect)}, 6, api.Suspect, 16},
		{"an older entry", entry(5, api.Suspect), []api.Member{entry(5, api.Alive), entry(4, api.Dead), {}}, 6, api.Suspect, 16},
		{"another incarnation", entry(5, api.Suspect), []api.Member{entry(6, api.Suspect)}, 6, api.Suspect, 22},
		{"after it was alive", entry(5, api.Suspect), []api.Member{entry(6, api.Alive), entry(6, api.Suspect)}, 6, api.Suspect, 22},
		{"after it was dead", entry(5, api.Dead), []api.Member{entry(6, api.Suspect)}, 6, api.Suspect, 22},
		{"after it was absent", api.Member{}, []api.Member{entry(1, api.Suspect)}, 6, api.Suspect, 22},
		{"after it had left", entry(5, api.Left), []api.Member{entry(6, api.Suspect)}, 15, api.Suspect, 31},
		{"alive in the meantime", entry(5, api.Suspect), []api.Member{entry(6, api.Alive)}, 6, api.Suspect, 27},
		{"alive at last", entry(5, api.Suspect), []api.Member{entry(6, api.Alive)}, 15, api.Suspect, 32},
	} {
		m := newMachine(t, 0, 2, 1)
		tell(t, m, 0, api.Member{}, c.first)
		for clock := 0; clock <= c.dead; clock++ {
			if clock > 0 {
				m.Tick(0)
			}
			if clock == c.at {
				for _, e := range c.then {
					tell(t, m, 0, api.Member{}, e)
				}
			}
			status := m.Table()[1].Status
			if clock == c.dead-1 && status != c.status || clock == c.dead && status != api.Dead {
				t.Errorf("%s: the status at %d is %d", c.name, clock, status)
			}
		}
	}
}

// P5.5: helpers are chosen before suspects are declared dead; the messages carry the table after that.
func TestOrderOfTheSteps(t *testing.T) {
	m := newMachine(t, 0, 3, 1)
	tell(t, m, 0, api.Member{}, entry(1, api.Dead), entry(1, api.Suspect))
	// At the clock 19, the suspicion of peer 2 ends, and the probe 15, of peer 1, asks peer 2 for help.
	ticks(m, 18)
	expectEntry(t, m, 2, entry(1, api.Suspect))
	list := m.Tick(0)
	table := []api.Member{entry(1, api.Alive), entry(1, api.Dead), entry(1, api.Dead)}
	expectMessages(t, "the tick", list,
		api.Message{Kind: api.KindPingReq, To: 2, Seq: 15, Target: 1, Table: table},
		api.Message{Kind: api.KindPing, To: 1, Seq: 19, Table: table})
	// At the next ticks, nobody is left to help.
	for range 20 {
		if got := requestsOf(m.Tick(0)); len(got) != 0 {
			t.Fatal(got)
		}
	}
}

// P5.5: Reincarnate does not touch probes, the clock or the suspicions.
func TestReincarnateLeavesTheRest(t *testing.T) {
	m := newMachine(t, 0, 2, 1)
	tell(t, m, 0, api.Member{}, entry(1, api.Suspect))
	ticks(m, 15)
	before := look(m)
	if e := m.Reincarnate(9); e != api.OK {
		t.Fatal(e)
	}
	before.Table[0] = entry(9, api.Alive)
	expectView(t, "Reincarnate", m, before)
	m.Tick(0)
	expectEntry(t, m, 1, entry(1, api.Dead))
}
