package member_test

import (
	"math"
	"reflect"
	"slices"
	"testing"

	"stolon/api"
	"stolon/member"
)

// P5.4, P5.10: all numbers of peers, and a little beyond.
func TestNew(t *testing.T) {
	for peers := -2; peers <= 18; peers++ {
		for self := -2; self <= 18; self++ {
			for _, inc := range []uint64{0, 1, 7, math.MaxUint64} {
				m, e := member.New(self, peers, inc)
				if peers < 2 || peers > 16 || self < 0 || self >= peers || inc == 0 {
					if e != api.ErrArg || m != nil {
						t.Errorf("New(%d, %d, %d) returns %v, %d", self, peers, inc, m, e)
					}
					continue
				}
				if e != api.OK {
					t.Fatalf("New(%d, %d, %d) returns %d", self, peers, inc, e)
				}
				expectView(t, "a new machine", m, newModel(self, peers, inc).view())
				if got := m.Live(); !slices.Equal(got, []int{self}) {
					t.Error("Live", got)
				}
			}
		}
	}
}

// P5.4: numbers far outside.
func TestNewErrors(t *testing.T) {
	for _, c := range []struct{ self, peers int }{{0, math.MaxInt}, {0, math.MinInt}, {math.MaxInt, 3}, {math.MinInt, 3}, {0, 256 + 3}, {1 << 32, 16}} {
		if m, e := member.New(c.self, c.peers, 1); m != nil || e != api.ErrArg {
			t.Error(c, m, e)
		}
	}
}

// P5.8 and example 3 of the chapter.
func TestChallengeExample(t *testing.T) {
	m := newMachine(t, 1, 3, 2)
	got := receive(t, m, api.Message{Kind: api.KindPing, From: 0, To: 1, Seq: 9, Origin: 0, Table: []api.Member{entry(5, api.Alive), entry(2, api.Suspect), {}}})
	table := []api.Member{entry(5, api.Alive), entry(2, api.Alive), {}}
	expectMessages(t, "the answer", got, api.Message{Kind: api.KindAck, From: 1, To: 0, Seq: 9, Origin: 0, Table: table})
	if m.Challenge() != 2 || m.Reincarnate(2) != api.ErrArg || m.Challenge() != 2 {
		t.Error("Challenge", m.Challenge())
	}
	if e := m.Reincarnate(3); e != api.OK || m.Challenge() != 0 {
		t.Error(e, m.Challenge())
	}
	expectEntry(t, m, 1, entry(3, api.Alive))
}

// P5.6, P5.8: what makes a challenge, and how great it is.
func TestChallenge(t *testing.T) {
	for _, c := range []struct {
		name   string
		claims []api.Member
		want   uint64
	}{
		{"no claim", []api.Member{{}}, 0},
		{"an older one", []api.Member{entry(4, api.Left)}, 0},
		{"the own one", []api.Member{entry(5, api.Alive)}, 0},
		{"Suspect", []api.Member{entry(5, api.Suspect)}, 5},
		{"Dead", []api.Member{entry(5, api.Dead)}, 5},
		{"Left", []api.Member{entry(5, api.Left)}, 5},
		{"alive in a greater incarnation", []api.Member{entry(9, api.Alive)}, 9},
		{"a greater one after a smaller one", []api.Member{entry(6, api.Dead), entry(7, api.Alive)}, 7},
		{"a smaller one after a greater one", []api.Member{entry(7, api.Alive), entry(6, api.Dead)}, 7},
		{"an old one after a greater one", []api.Member{entry(7, api.Alive), entry(2, api.Dead)}, 7},
		{"the greatest one", []api.Member{entry(math.MaxUint64, api.Suspect)}, math.MaxUint64},
	} {
		m := newMachine(t, 0, 2, 5)
		for _, claim := range c.claims {
			tell(t, m, 0, claim, api.Member{})
		}
		if got := m.Challenge(); got != c.want {
			t.Errorf("%s: the challenge is %d instead of %d", c.name, got, c.want)
		}
		expectEntry(t, m, 0, entry(5, api.Alive))
	}
}

// P5.8: the errors of Reincarnate, with and without a challenge.
func TestReincarnate(t *testing.T) {
	m := newMachine(t, 0, 2, 5)
	for _, inc := range []uint64{0, 1, 4, 5} {
		if e := m.Reincarnate(inc); e != api.ErrArg {
			t.Errorf("Reincarnate(%d) returns %d", inc, e)
		}
	}
	expectEntry(t, m, 0, entry(5, api.Alive))
	if e := m.Reincarnate(6); e != api.OK {
		t.Error("without a challenge", e)
	}
	expectEntry(t, m, 0, entry(6, api.Alive))

	tell(t, m, 0, entry(10, api.Dead), api.Member{})
	for _, inc := range []uint64{0, 6, 7, 9, 10} {
		if e := m.Reincarnate(inc); e != api.ErrArg {
			t.Errorf("with a challenge, Reincarnate(%d) returns %d", inc, e)
		}
	}
	expectView(t, "after errors", m, view{[]api.Member{entry(6, api.Alive), {}}, []int{0}, 0, []api.Probe{}, 10})
	if e := m.Reincarnate(math.MaxUint64); e != api.OK {
		t.Error(e)
	}
	expectView(t, "born again", m, view{[]api.Member{entry(math.MaxUint64, api.Alive), {}}, []int{0}, 0, []api.Probe{}, 0})
	if e := m.Reincarnate(math.MaxUint64); e != api.ErrArg {
		t.Error(e)
	}
}

// P5.8: after Reincarnate, a claim about an earlier incarnation is no challenge any more, and one about the new incarnation is.
func TestChallengeAfterReincarnate(t *testing.T) {
	m := newMachine(t, 0, 2, 5)
	tell(t, m, 0, entry(5, api.Dead), api.Member{})
	if e := m.Reincarnate(6); e != api.OK {
		t.Fatal(e)
	}
	tell(t, m, 0, entry(5, api.Dead), api.Member{})
	if got := m.Challenge(); got != 0 {
		t.Error(got)
	}
	tell(t, m, 0, entry(6, api.Suspect), api.Member{})
	if got := m.Challenge(); got != 6 {
		t.Error(got)
	}
}

// P5.9
func TestLeave(t *testing.T) {
	m := newMachine(t, 2, 6, 4)
	tell(t, m, 2, entry(1, api.Suspect), entry(2, api.Dead), entry(4, api.Suspect), entry(3, api.Alive), entry(1, api.Left), entry(7, api.Alive))
	m.Tick(0)
	probes := m.Probes()
	got := m.Leave()
	table := []api.Member{entry(1, api.Suspect), entry(2, api.Dead), entry(4, api.Left), entry(3, api.Alive), entry(1, api.Left), entry(7, api.Alive)}
	var want []api.Message
	for _, to := range []int{0, 3, 5} {
		want = append(want, api.Message{Kind: api.KindAck, From: 2, To: to, Seq: 0, Origin: to, Table: table})
	}
	expectMessages(t, "Leave", got, want...)
	after := view{table, []int{0, 3, 5}, 1, probes, 4}
	expectView(t, "after Leave", m, after)

	expectMessages(t, "Leave again", m.Leave())
	expectMessages(t, "Tick", m.Tick(1))
	if e := m.Reincarnate(100); e != api.ErrState {
		t.Error("Reincarnate", e)
	}
	if e := m.Reincarnate(0); e != api.ErrState {
		t.Error("Reincarnate with a bad number", e)
	}
	if list, e := m.Receive(api.Message{Kind: api.KindPing, From: 0, To: 2, Table: make([]api.Member, 6)}); e != api.ErrState || len(list) != 0 {
		t.Error("Receive", list, e)
	}
	if list, e := m.Receive(api.Message{}); e != api.ErrState || len(list) != 0 {
		t.Error("Receive of a bad message", list, e)
	}
	expectView(t, "after that", m, after)
}

// P5.9: a machine that knows nobody.
func TestLeaveAlone(t *testing.T) {
	m := newMachine(t, 0, 16, 1)
	expectMessages(t, "Leave", m.Leave())
	expectEntry(t, m, 0, entry(1, api.Left))
	if got := m.Live(); len(got) != 0 {
		t.Error(got)
	}
}

// P5.9: the messages of Leave make the receivers know it, and are not answered.
func TestLeaveIsUnderstood(t *testing.T) {
	m := newMachine(t, 0, 3, 1)
	tell(t, m, 0, api.Member{}, entry(1, api.Alive), entry(1, api.Suspect))
	for _, msg := range m.Leave() {
		other := newMachine(t, msg.To, 3, 5)
		if list := receive(t, other, msg); len(list) != 0 {
			t.Error("it is answered", list)
		}
		expectEntry(t, other, 0, entry(1, api.Left))
	}
}

// A nil Machine.
func TestNilMachine(t *testing.T) {
	var m *member.Machine
	if list := m.Tick(5); len(list) != 0 {
		t.Error("Tick", list)
	}
	if list, e := m.Receive(api.Message{Kind: api.KindPing, From: 1, Table: make([]api.Member, 2)}); len(list) != 0 || e != api.ErrNil {
		t.Error("Receive", list, e)
	}
	if e := m.Reincarnate(5); e != api.ErrNil {
		t.Error("Reincarnate", e)
	}
	if list := m.Leave(); len(list) != 0 {
		t.Error("Leave", list)
	}
	if m.Challenge() != 0 || m.Clock() != 0 || len(m.Table()) != 0 || len(m.Live()) != 0 || len(m.Probes()) != 0 {
		t.Error("not zero")
	}
}

// spoil writes into everything that a caller has of messages.
func spoil(list []api.Message) {
	for i := range list {
		for j := range list[i].Table {
			list[i].Table[j] = entry(77, 77)
		}
		list[i].To = -5
	}
}

// P5.10 and rule R4: what is written into arguments and results changes nothing.
func TestMachineSharesNothing(t *testing.T) {
	m, twin := newMachine(t, 0, 4, 1), newMachine(t, 0, 4, 1)
	msg := func() api.Message {
		return api.Message{Kind: api.KindPing, From: 1, To: 0, Origin: 3, Table: []api.Member{{}, entry(3, api.Alive), entry(3, api.Suspect), entry(3, api.Alive)}}
	}
	both := func(name string, call func(m *member.Machine) []api.Message) {
		t.Helper()
		got, want := call(m), call(twin)
		for i := range got {
			spoil(got[i : i+1])
			if i+1 < len(got) && !reflect.DeepEqual(got[i+1], want[i+1]) {
				t.Fatal(name, "has messages that share memory")
			}
		}
		for i := range m.Table() {
			m.Table()[i] = entry(77, 77)
		}
		for i := range m.Live() {
			m.Live()[i] = 77
		}
		for i := range m.Probes() {
			m.Probes()[i] = api.Probe{Seq: 77, Target: 77}
		}
		expectView(t, name, m, look(twin))
	}
	both("Receive", func(m *member.Machine) []api.Message {
		given := msg()
		list := receive(t, m, given)
		if !reflect.DeepEqual(given, msg()) {
			t.Error("the argument has changed")
		}
		spoil([]api.Message{given})
		return list
	})
	for tick := range 12 {
		both("Tick", func(m *member.Machine) []api.Message { return m.Tick(uint64(tick)) })
	}
	both("Leave", func(m *member.Machine) []api.Message { return m.Leave() })
}
