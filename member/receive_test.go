package member_test

import (
	"math"
	"math/rand/v2"
	"slices"
	"testing"

	"stolon/api"
)

// P5.6: each reason for ErrArg; nothing changes.
func TestReceiveErrors(t *testing.T) {
	good := func(kind api.Kind) api.Message {
		return api.Message{Kind: kind, From: 0, To: 1, Seq: 1, Origin: 2, Target: 2, Table: []api.Member{entry(9, api.Alive), entry(9, api.Dead), entry(9, api.Suspect)}}
	}
	table := func(list ...api.Member) func(msg *api.Message) {
		return func(msg *api.Message) { msg.Table = list }
	}
	for _, c := range []struct {
		name  string
		kinds []api.Kind
		spoil func(msg *api.Message)
	}{
		{"no kind", []api.Kind{0}, func(*api.Message) {}},
		{"another kind", []api.Kind{4, 5, 6, 7, 8, 9, 10, 11, 12, 13, 14, 255}, func(*api.Message) {}},
		{"from itself", []api.Kind{1, 2, 3}, func(msg *api.Message) { msg.From = 1 }},
		{"from no peer", []api.Kind{1, 2, 3}, func(msg *api.Message) { msg.From = 3 }},
		{"from below 0", []api.Kind{1, 2, 3}, func(msg *api.Message) { msg.From = -1 }},
		{"from far away", []api.Kind{1, 2, 3}, func(msg *api.Message) { msg.From = math.MaxInt }},
		{"to another peer", []api.Kind{1, 2, 3}, func(msg *api.Message) { msg.To = 0 }},
		{"to no peer", []api.Kind{1, 2, 3}, func(msg *api.Message) { msg.To = -1 }},
		{"no table", []api.Kind{1, 2, 3}, table()},
		{"a short table", []api.Kind{1, 2, 3}, table(entry(9, api.Alive), entry(9, api.Dead))},
		{"a long table", []api.Kind{1, 2, 3}, table(entry(9, api.Alive), entry(9, api.Dead), api.Member{}, api.Member{})},
		{"an entry without a status", []api.Kind{1, 2, 3}, table(entry(9, api.Alive), entry(9, api.Dead), entry(1, api.Absent))},
		{"an entry without an incarnation", []api.Kind{1, 2, 3}, table(entry(9, api.Alive), entry(0, api.Dead), entry(1, api.Alive))},
		{"an unknown status", []api.Kind{1, 2, 3}, table(entry(9, 5), entry(9, api.Dead), entry(1, api.Alive))},
		{"an Origin above", []api.Kind{1, 2}, func(msg *api.Message) { msg.Origin = 3 }},
		{"an Origin below 0", []api.Kind{1, 2}, func(msg *api.Message) { msg.Origin = -1 }},
		{"a Target above", []api.Kind{3}, func(msg *api.Message) { msg.Target = 3 }},
		{"a Target below 0", []api.Kind{3}, func(msg *api.Message) { msg.Target = math.MinInt }},
	} {
		for _, kind := range c.kinds {
			m := newMachine(t, 1, 3, 4)
			ticks(m, 3)
			before := look(m)
			msg := good(kind)
			c.spoil(&msg)
			if list, e := m.Receive(msg); e != api.ErrArg || len(list) != 0 {
				t.Error(c.name, kind, list, e)
			}
			expectView(t, c.name, m, before)
		}
	}
	for _, kind := range []api.Kind{1, 2, 3} {
		m := newMachine(t, 1, 3, 4)
		if _, e := m.Receive(good(kind)); e != api.OK {
			t.Error("the good message", kind, e)
		}
	}
}

// P5.6: fields that the kind does not use are not examined, and come into no answer.
func TestUnusedFields(t *testing.T) {
	for _, c := range []struct {
		kind           api.Kind
		origin, target int
		want           api.Message
	}{
		{api.KindPing, 2, -9, api.Message{Kind: api.KindAck, From: 1, To: 0, Seq: 8, Origin: 2}},
		{api.KindAck, 2, 99, api.Message{Kind: api.KindAck, From: 1, To: 2, Seq: 8, Origin: 2}},
		{api.KindPingReq, -9, 2, api.Message{Kind: api.KindPing, From: 1, To: 2, Seq: 8, Origin: 0}},
		{api.KindPingReq, 99, 1, api.Message{Kind: api.KindAck, From: 1, To: 0, Seq: 8, Origin: 0}},
	} {
		m := newMachine(t, 1, 3, 4)
		got := receive(t, m, api.Message{
			Kind: c.kind, From: 0, To: 1, Seq: 8, Origin: c.origin, Target: c.target, Table: make([]api.Member, 3),
			Low: make([]byte, 50), High: []byte{1}, Count: -1, Root: api.Digest{1}, Records: make([]api.Record, 100), Want: true,
			Object: api.Digest{1}, Manifest: api.Manifest{K: -1}, Piece: api.Piece{Index: -1, Data: []byte{1}}, Code: -1,
		})
		c.want.Table = m.Table()
		expectMessages(t, "unused fields", got, c.want)
	}
}

// P5.6: the answers to the kinds, for all numbers of the peers.
func TestAnswers(t *testing.T) {
	const peers, self = 4, 2
	for _, seq := range []uint64{0, 1, 77, math.MaxUint64} {
		for from := range peers {
			if from == self {
				continue
			}
			for third := range peers {
				given := api.Message{From: from, To: self, Seq: seq, Table: make([]api.Member, peers)}
				table := make([]api.Member, peers)
				table[self] = entry(3, api.Alive)

				ping := given
				ping.Kind, ping.Origin = api.KindPing, third
				expectMessages(t, "ping", receive(t, newMachine(t, self, peers, 3), ping), api.Message{Kind: api.KindAck, From: self, To: from, Seq: seq, Origin: third, Table: table})

				request := given
				request.Kind, request.Target = api.KindPingReq, third
				want := api.Message{Kind: api.KindPing, From: self, To: third, Seq: seq, Origin: from, Table: table}
				if third == self {
					want = api.Message{Kind: api.KindAck, From: self, To: from, Seq: seq, Origin: from, Table: table}
				}
				expectMessages(t, "pingreq", receive(t, newMachine(t, self, peers, 3), request), want)

				ack := given
				ack.Kind, ack.Origin = api.KindAck, third
				got := receive(t, newMachine(t, self, peers, 3), ack)
				if third == self {
					expectMessages(t, "ack", got)
				} else {
					expectMessages(t, "ack", got, api.Message{Kind: api.KindAck, From: self, To: third, Seq: seq, Origin: third, Table: table})
				}
			}
		}
	}
}

// P5.6: which probe an Ack removes.
func TestAcks(t *testing.T) {
	for _, c := range []struct {
		name         string
		from, origin int
		seq          uint64
		gone         bool
	}{
		{"of the target", 1, 0, 3, true},
		{"of a helper", 2, 0, 3, true},
		{"of another probe", 1, 0, 1, true},
		{"of the last probe", 1, 0, 5, true},
		{"of no probe", 1, 0, 6, false},
		{"without a number", 1, 0, 0, false},
		{"for another peer", 1, 2, 3, false},
	} {
		m := newMachine(t, 0, 3, 1)
		ticks(m, 5)
		want := m.Probes()
		if c.gone {
			want = slices.DeleteFunc(want, func(p api.Probe) bool { return p.Seq == c.seq })
		}
		msg := api.Message{Kind: api.KindAck, From: c.from, To: 0, Seq: c.seq, Origin: c.origin, Table: make([]api.Member, 3)}
		for range 2 { // the second one finds nothing to remove
			receive(t, m, msg)
			if got := m.Probes(); !slices.Equal(got, want) {
				t.Error(c.name, got)
			}
		}
	}
}

// P5.6: neither a Ping nor a PingReq removes a probe, also with the number of one.
func TestOtherKindsRemoveNoProbe(t *testing.T) {
	m := newMachine(t, 0, 3, 1)
	ticks(m, 5)
	want := m.Probes()
	receive(t, m, api.Message{Kind: api.KindPing, From: 1, To: 0, Seq: 3, Origin: 0, Table: make([]api.Member, 3)})
	receive(t, m, api.Message{Kind: api.KindPingReq, From: 1, To: 0, Seq: 3, Target: 0, Table: make([]api.Member, 3)})
	if got := m.Probes(); !slices.Equal(got, want) {
		t.Error(got)
	}
}

// P5.6: every kind merges the tables before it answers, and the own entry stays.
func TestReceiveMerges(t *testing.T) {
	r := rand.New(rand.NewPCG(2, 5))
	for range 2000 {
		self := r.IntN(4)
		m := newMachine(t, self, 4, 3)
		first, second := randomTable(r, 4), randomTable(r, 4)
		first[self] = api.Member{}
		tell(t, m, self, first...)
		from := (self + 1 + r.IntN(3)) % 4
		list := receive(t, m, api.Message{Kind: api.Kind(1 + r.IntN(3)), From: from, To: self, Seq: 4, Origin: r.IntN(4), Target: r.IntN(4), Table: second})
		for i := range 4 {
			want := first[i]
			if second[i].Inc > want.Inc || second[i].Inc == want.Inc && second[i].Status > want.Status {
				want = second[i]
			}
			if i == self {
				want = entry(3, api.Alive)
			}
			expectEntry(t, m, i, want)
		}
		for _, msg := range list {
			if !slices.Equal(msg.Table, m.Table()) {
				t.Fatal("the answer has the table", msg.Table)
			}
		}
	}
}

// P5.6: a peer that does not answer is reached by way of a helper, whose Ack removes the probe.
func TestThreePeers(t *testing.T) {
	a, b, c := newMachine(t, 0, 3, 1), newMachine(t, 1, 3, 1), newMachine(t, 2, 3, 1)
	tell(t, a, 0, api.Member{}, entry(1, api.Alive), entry(1, api.Alive))
	ticks(a, 4)
	requests := requestsOf(a.Tick(0))
	if len(requests) != 1 || requests[0].To != 2 || requests[0].Target != 1 {
		t.Fatal(requests)
	}
	pings := receive(t, c, requests[0])
	acks := receive(t, b, pings[0])
	if len(acks) != 1 || acks[0].To != 2 || acks[0].Origin != 0 {
		t.Fatal(acks)
	}
	relayed := receive(t, c, acks[0])
	if len(relayed) != 1 || relayed[0].To != 0 {
		t.Fatal(relayed)
	}
	if p := a.Probes(); len(p) != 5 || p[0].Seq != 1 {
		t.Fatal(p)
	}
	if list := receive(t, a, relayed[0]); len(list) != 0 {
		t.Error(list)
	}
	if p := a.Probes(); len(p) != 4 || p[0].Seq != 2 {
		t.Error(p)
	}
}
