package peer_test

import (
	"bytes"
	"slices"
	"testing"

	"stolon/api"
	"stolon/member"
)

// sumsTo returns to whom the summaries of a list go.
func sumsTo(l []api.Message) []int {
	var to []int
	for _, msg := range l {
		if msg.Kind == api.KindSum {
			to = append(to, msg.To)
		}
	}
	return to
}

// concat joins lists of messages.
func concat(lists ...[]api.Message) []api.Message { return slices.Concat(lists...) }

// P9.2, example 1: a peer that knows no other one pings alone.
func TestTickAlone(t *testing.T) {
	n := start(t, 0, 2)
	expectMessages(t, "the first tick", n.tick(), api.Message{Kind: api.KindPing, From: 0, To: 1, Seq: 1, Origin: 0, Table: table(2, 0)})
}

// P9.2: the messages of a tick are those of the machine, of the duties in the order of the objects, of the operations, and a summary.
func TestOrderOfTick(t *testing.T) {
	const self = 2
	n := startLive(t, self, 4)
	machine, _ := member.New(self, 4, 1)
	machine.Receive(api.Message{Kind: api.KindAck, From: 3, To: self, Origin: self, Table: table(4, 0, 1, 2, 3)})
	n.ticks(5)
	for range 5 {
		machine.Tick(0)
	}
	backup, restored := newObject(t, 1, 4, 4, "to be stored"), newObject(t, 1, 1, 4, "fetched")
	n.learnHolders(restored, 3)
	n.backup(backup)
	n.restore(restored)
	n.ticks(5)
	for range 5 {
		machine.Tick(0)
	}
	shed, build := rankedObject(t, 1, 2, 4, self, 3), rankedObject(t, 1, 3, 4, self, 1)
	n.hold(shed)
	n.learnHolders(build, build.rank[0], build.rank[2])
	duties := map[api.Digest][]api.Message{
		shed.id: about(api.KindAsk, self, shed, shed.rank[0], shed.rank[1]),
		build.id: concat(about(api.KindClaim, self, build, build.rank[0], build.rank[2]),
			about(api.KindFetch, self, build, min(build.rank[0], build.rank[2]), max(build.rank[0], build.rank[2]))),
	}
	if n.Status(restored.id).Held || restored.rank[0] == self {
		t.Fatal("this object has a duty, too")
	}
	var want []api.Message
	for _, id := range ids(shed, build) {
		want = append(want, duties[id]...)
	}
	got, e := n.Tick(9)
	expectCode(t, "Tick", e, api.OK)
	sum := got[len(got)-1]
	if sum.Kind != api.KindSum || sum.Count != len(n.Records()) {
		t.Error("the last message", sum)
	}
	expectMessages(t, "Tick", got[:len(got)-1],
		concat(machine.Tick(9), want, about(api.KindInstall, self, backup, 0, 1, 3), about(api.KindFetch, self, restored, 3))...)
}

// P9.2: a tick examines the next one of the held pieces, and then settles.
func TestTickScrubs(t *testing.T) {
	n := startLive(t, 0, 2)
	list := []object{newObject(t, 1, 1, 2, "a"), newObject(t, 1, 1, 2, "b"), newObject(t, 1, 1, 2, "c")}
	slices.SortFunc(list, func(a, b object) int { return bytes.Compare(a.id[:], b.id[:]) })
	n.hold(list...)
	n.rot(list[1])
	n.tick()
	n.expectHeld("after one tick", list...)
	n.tick()
	n.expectHeld("after two ticks", list[0], list[2])
	if got := n.Records()[2]; got != lostRecord(list[1], 0, 1, 4) {
		t.Error("the record of the damaged piece", got)
	}
	n.rot(list[0])
	n.tick()
	n.expectHeld("after three ticks", list[0], list[2])
	n.tick()
	n.expectHeld("after four ticks", list[2])
}

// P9.2: a tick settles before it does its duties.
func TestTickSettlesFirst(t *testing.T) {
	o := rankedObject(t, 1, 1, 3, 0, 1)
	n := startLive(t, 0, 3)
	n.hold(o)
	n.rot(o)
	expectMessages(t, "a shed of a damaged piece", tasksOnly(n.tick()))
	n.expectTasks("a shed of a damaged piece", nil, nil)
}

// P9.2: the summaries go to the live peers in turn.
func TestSynchronization(t *testing.T) {
	n := start(t, 2, 6)
	turns := func(count int) []int {
		var to []int
		for range count {
			to = append(to, sumsTo(n.tick())...)
		}
		return to
	}
	if got := turns(2); len(got) != 0 {
		t.Error("nobody is live, but", got)
	}
	n.meet(table(6, 1, 3, 5))
	if got := turns(7); !slices.Equal(got, []int{3, 5, 1, 3, 5, 1, 3}) {
		t.Error("summaries go to", got)
	}
	l := table(6, 1, 4, 5)
	l[3] = api.Member{Inc: 1, Status: api.Left}
	n.meet(l)
	if got := turns(1); !slices.Equal(got, []int{4}) {
		t.Error("summaries go to", got)
	}
	l[1], l[4], l[5] = l[3], l[3], l[3]
	n.meet(l)
	if got := turns(3); len(got) != 0 {
		t.Error("nobody is live any more, but", got)
	}
	l[4] = api.Member{Inc: 2, Status: api.Suspect}
	n.meet(l)
	if got := turns(2); !slices.Equal(got, []int{4, 4}) {
		t.Error("one is suspected, but summaries go to", got)
	}
}

// P9.2: a summary is about the whole inventory, as it is after the rest of the tick.
func TestSummary(t *testing.T) {
	n := startLive(t, 0, 2)
	n.hold(newObject(t, 1, 1, 2, "a"), newObject(t, 1, 2, 2, "b"))
	n.learn(baseRecord(1, 1))
	l := n.tick()
	other := startLive(t, 1, 2)
	other.hold(newObject(t, 1, 1, 2, "c"))
	answers := other.receive(l[len(l)-1])
	if len(answers) != 1 || answers[0].Kind != api.KindItems || !answers[0].Want || len(answers[0].Low)+len(answers[0].High) != 0 {
		t.Fatal("the summary is answered by", answers)
	}
	for _, msg := range n.receive(answers[0]) {
		other.receive(msg)
	}
	if l := other.Records(); len(l) != 5 {
		t.Error("the records of the other one", l)
	}
	n.expectRecords("both have the same", other.Records()...)
	l = n.tick()
	expectMessages(t, "the same inventory", other.receive(l[len(l)-1]))
}

// P9.2: the requests of operations that have not ended are sent again at certain ticks, to those who have not answered; after 30 ticks the operations end.
func TestRequestsAgain(t *testing.T) {
	n := startLive(t, 1, 5)
	first, second := newObject(t, 2, 5, 5, "first"), newObject(t, 4, 4, 5, "second")
	n.learnHolders(second, 0, 2, 3, 4)
	n.ticks(2)
	one, _ := n.backup(first)
	n.ticks(1)
	two, _ := n.restore(second)
	waiting := []int{0, 2, 3, 4}
	for i := 1; i <= 31; i++ {
		var want []api.Message
		switch {
		case i+1 < 30 && (i+1)%6 == 0:
			want = about(api.KindInstall, 1, first, waiting...)
		case i < 30 && i%6 == 0:
			want = about(api.KindFetch, 1, second, waiting...)
		}
		got := slices.DeleteFunc(tasksOnly(n.tick()), func(msg api.Message) bool { return msg.Kind == api.KindClaim || msg.Kind == api.KindFetch && i%6 != 0 })
		expectMessages(t, "tick", got, want...)
		switch i {
		case 13: // each of the two has an answer
			n.stored(3, first.id, api.OK)
			n.offer(3, second)
			waiting = []int{0, 2, 4}
		case 20:
			n.stored(0, first.id, api.OK)
			n.say(api.KindLack, 0, second.id)
			waiting = []int{2, 4}
		case 28:
			n.expectPending("before the end", one, two)
			n.expectResults("before the end")
		case 29:
			n.expectPending("after 30 ticks of the first", two)
			n.expectResults("after 30 ticks of the first", endOf(one, api.OpBackup, first, api.ErrTimeout))
		case 30:
			n.expectPending("after 30 ticks of both")
			n.expectResults("after 30 ticks of both", endOf(two, api.OpRestore, second, api.ErrTimeout))
		}
	}
}

// P9.2: operations that end in one tick end in the order of their tickets.
func TestTimeoutsInOrder(t *testing.T) {
	n := startLive(t, 0, 3)
	var want []api.Result
	for i := range 12 {
		o := newObject(t, 1, 3, 3, string(rune('a'+i)))
		if i%3 == 0 {
			n.learnHolders(o, 2)
			ticket, _ := n.restore(o)
			want = append(want, endOf(ticket, api.OpRestore, o, api.ErrTimeout))
			continue
		}
		ticket, _ := n.backup(o)
		want = append(want, endOf(ticket, api.OpBackup, o, api.ErrTimeout))
	}
	n.ticks(29)
	n.expectResults("before the last tick")
	n.tick()
	n.expectResults("after it", want...)
}
