package peer_test

import (
	"slices"
	"testing"

	"stolon/api"
)

// begun returns the messages with which the build of an object begins.
func begun(self int, o object, claims, fetches []int) []api.Message {
	return concat(about(api.KindClaim, self, o, claims...), about(api.KindFetch, self, o, fetches...))
}

// expectTick checks what one tick sends about objects.
func (n node) expectTick(name string, want ...api.Message) {
	n.t.Helper()
	expectMessages(n.t, name, tasksOnly(n.tick()), want...)
}

// P9.2: a build begins with claims, the best peer first, and with fetches in ascending order.
func TestBuildBegins(t *testing.T) {
	for at := range 3 {
		o := rankedObject(t, 2, 3, 6, 4, at)
		n := startLive(t, 4, 6)
		claims := without(slices.Clone(o.rank[:3]), n.self)
		fetches := slices.Concat(claims, o.rank[3:4], o.rank[5:])
		n.learnHolders(o, fetches...)
		slices.Sort(fetches)
		n.expectTick("the build begins", begun(4, o, claims, fetches)...)
		n.expectTasks("the build begins", []object{o}, nil)
		n.expectTick("the build goes on")
	}
}

// P9.2: only live peers are chosen, and only live holders are asked.
func TestBuildAmongTheLive(t *testing.T) {
	const self = 1
	o := rankedObject(t, 1, 2, 5, self, 3)
	n := start(t, self, 5)
	n.learnHolders(o, o.rank[0], o.rank[1], o.rank[4])
	n.expectTick("nobody is live")
	n.meet(table(5, o.rank[2]))
	n.expectTick("no holder is live")
	n.meet(table(5, o.rank[4]))
	n.expectTick("a holder is live", begun(self, o, []int{o.rank[2]}, []int{o.rank[4]})...)
	n.expectTasks("a holder is live", []object{o}, nil)
	n.meet(table(5, o.rank[0]))
	n.expectTick("two better ones are live now")
	n.expectTasks("two better ones are live now", nil, nil)
}

// P9.2: a build ends after 8 ticks, and the next one begins 20 ticks after the last one has begun.
func TestBuildAgain(t *testing.T) {
	o := rankedObject(t, 2, 2, 3, 0, 0)
	n := startLive(t, 0, 3)
	n.ticks(4)
	n.learnHolders(o, 1, 2)
	for i := range 64 {
		var want []api.Message
		if i%20 == 0 {
			n.greet() // in case that they were suspected for too long
			want = begun(0, o, o.rank[1:2], []int{1, 2})
		}
		n.expectTick("tick", want...)
		var builds []object
		if i%20 < 8 {
			builds = []object{o}
		}
		n.expectTasks("tick", builds, nil)
		for _, from := range []int{1, 2} {
			n.meet(n.answerOf(from))
		}
	}
}

// answerOf returns a table in which a suspected peer is alive again.
func (n node) answerOf(from int) []api.Member {
	l := n.Table()
	if l[from].Status != api.Alive {
		l[from] = api.Member{Inc: l[from].Inc + 1, Status: api.Alive}
	}
	return l
}

// P9.2: a build that has ended early does not begin again earlier than others.
func TestBuildAfterAnEarlyEnd(t *testing.T) {
	o := rankedObject(t, 2, 2, 3, 0, 0)
	n := startLive(t, 0, 3)
	n.learnHolders(o, 1, 2)
	n.tick()
	n.say(api.KindLack, 1, o.id)
	n.say(api.KindLack, 2, o.id)
	n.expectTasks("all have answered", nil, nil)
	for range 19 {
		n.expectTick("too early")
		n.meet(n.answerOf(1))
		n.meet(n.answerOf(2))
	}
	n.expectTick("early enough", begun(0, o, o.rank[1:2], []int{1, 2})...)
}

// P9.2, P9.3: the claim of a better-ranked live peer that is no holder is respected for 12 ticks.
func TestClaims(t *testing.T) {
	o := rankedObject(t, 1, 3, 4, 3, 1)
	better, worse, holder := o.rank[0], o.rank[2], o.rank[3]
	for _, c := range []struct {
		name     string
		claimant int
		blocked  bool
	}{{"a better one", better, true}, {"a worse one", worse, false}, {"a holder", holder, false}} {
		n := startLive(t, 3, 4)
		n.ticks(2)
		n.learnHolders(o, holder)
		if l := n.say(api.KindClaim, c.claimant, o.id); len(l) != 0 {
			t.Error("a claim is answered by", l)
		}
		for i := 1; i < 12 && c.blocked; i++ {
			n.expectTick(c.name)
		}
		n.greet()
		n.expectTick(c.name, begun(3, o, []int{better, worse}, []int{holder})...)
	}
	n := startLive(t, 3, 4)
	n.learnHolders(o, holder, better)
	n.say(api.KindClaim, better, o.id)
	n.expectTick("a better one that is a holder already", begun(3, o, []int{better, worse}, []int{min(holder, better), max(holder, better)})...)
	n = startLive(t, 3, 4)
	n.learnHolders(o, holder)
	n.say(api.KindClaim, better, rankedObject(t, 1, 2, 4, 0, 0).id)
	n.expectTick("a claim of another object", begun(3, o, []int{better, worse}, []int{holder})...)
	n = start(t, 3, 4)
	n.meet(table(4, worse, holder))
	n.learnHolders(o, holder)
	n.say(api.KindClaim, better, o.id)
	n.expectTick("one that is not live", begun(3, o, []int{worse, holder}, []int{holder})...)
}

// P9.2: how many pieces are wanted is what the holder with the smallest number says.
func TestDemandOfBuild(t *testing.T) {
	o := rankedObject(t, 1, 3, 5, 4, 2)
	n := startLive(t, 4, 5)
	first, second := heldRecord(o, 1, 1, 1), heldRecord(o, 2, 1, 1)
	first.N = 2
	n.learn(first, second)
	n.expectTick("two are wanted")
	n.learn(lostRecord(o, 1, 1, 2))
	n.expectTick("three are wanted", begun(4, o, o.rank[:2], []int{2})...)
}

// P9.2: a build ends when it is not the duty any more.
func TestBuildEnds(t *testing.T) {
	o := rankedObject(t, 2, 2, 3, 2, 0)
	fresh := func() node {
		n := startLive(t, 2, 3)
		n.learnHolders(o, 0, 1)
		n.tick()
		n.expectTasks("begun", []object{o}, nil)
		return n
	}
	n := fresh()
	n.hold(o)
	n.expectTasks("installed", []object{o}, nil)
	n.expectTick("installed")
	n.expectTasks("installed, after a tick", nil, nil)
	n = fresh()
	n.learn(graveRecord(o.id))
	n.expectTasks("deleted", nil, nil)
	n = fresh()
	n.learn(lostRecord(o, 0, 1, 2), lostRecord(o, 1, 1, 2))
	n.expectTasks("no holders", []object{o}, nil)
	n.expectTick("no holders")
	n.expectTasks("no holders, after a tick", nil, nil)
	n = fresh()
	n.learn(lostRecord(o, 0, 1, 2))
	n.expectTick("a holder")
	n.expectTasks("a holder", []object{o}, nil)
}

// P9.2: a shed begins with asks, the best peer first; after 8 ticks the next one begins.
func TestShedBegins(t *testing.T) {
	const self = 3
	for at := 2; at < 5; at++ {
		o := rankedObject(t, 1, 2, 5, self, at)
		n := startLive(t, self, 5)
		n.hold(o)
		n.expectTasks("before a tick", nil, nil)
		for i := range 20 {
			var want []api.Message
			if i%8 == 0 {
				want = about(api.KindAsk, self, o, o.rank[:2]...)
			}
			n.expectTick("tick", want...)
			n.expectTasks("tick", nil, []object{o})
			for _, i := range o.rank {
				if i != self {
					n.meet(n.answerOf(i))
				}
			}
		}
	}
	for at := range 2 {
		o := rankedObject(t, 1, 2, 5, self, at)
		n := startLive(t, self, 5)
		n.hold(o)
		n.expectTick("chosen")
		n.expectTasks("chosen", nil, nil)
	}
}

// P9.2: of the own piece there is a shed only if enough others are live, and as many are wanted as its manifest says.
func TestShedAmongTheLive(t *testing.T) {
	const self = 1
	o := rankedObject(t, 1, 2, 4, self, 3)
	n := start(t, self, 4)
	n.hold(o)
	n.expectTick("nobody is live")
	n.meet(table(4, o.rank[2]))
	n.expectTick("one is live")
	wrong := heldRecord(o, 0, 1, 1)
	wrong.N = 1
	n.learn(wrong)
	n.expectTick("another demand")
	n.meet(table(4, o.rank[0]))
	n.expectTick("two are live", about(api.KindAsk, self, o, o.rank[0], o.rank[2])...)
	n.expectTasks("two are live", nil, []object{o})
	l := n.Table()
	l[o.rank[2]].Status = api.Left
	n.meet(l)
	n.expectTasks("one has left", nil, []object{o})
	n.expectTick("one has left")
	n.expectTasks("one has left, after a tick", nil, nil)
}

// P9.2: a shed ends when the object is deleted, or is not held any more.
func TestShedEnds(t *testing.T) {
	const self = 1
	o := rankedObject(t, 1, 1, 4, self, 2)
	fresh := func() node {
		n := startLive(t, self, 4)
		n.hold(o)
		n.tick()
		n.expectTasks("begun", nil, []object{o})
		return n
	}
	n := fresh()
	n.learn(graveRecord(o.id))
	n.expectTasks("deleted", nil, nil)
	n.expectHeld("deleted")
	n = fresh()
	n.rot(o)
	n.say(api.KindFetch, 0, o.id)
	n.expectHeld("damaged")
	n.expectTasks("damaged", nil, []object{o})
	n.tick()
	n.expectTasks("damaged, after a tick", nil, nil)
	n = fresh()
	n.learnHolders(o, o.rank[1])
	n.rot(o)
	n.tick()
	n.expectTasks("damaged, and there is another holder", nil, nil)
}

// P9.2: the builds and sheds of one object do not disturb those of others.
func TestManyTasks(t *testing.T) {
	const self = 2
	n := startLive(t, self, 4)
	var builds, sheds []object
	for i := range 12 {
		o := newObject(t, 1, 2, 4, string(rune('A'+i)))
		switch slices.Index(o.rank, self) {
		case 0, 1:
			n.learnHolders(o, (self+1)%4)
			builds = append(builds, o)
		default:
			n.hold(o)
			sheds = append(sheds, o)
		}
	}
	if len(builds) < 3 || len(sheds) < 3 {
		t.Fatal("too few tasks")
	}
	var want []api.Message
	for _, id := range ids(append(slices.Clone(builds), sheds...)...) {
		for _, o := range builds {
			if o.id == id {
				want = append(want, begun(self, o, without(slices.Clone(o.rank[:2]), self), []int{3})...)
			}
		}
		for _, o := range sheds {
			if o.id == id {
				want = append(want, about(api.KindAsk, self, o, o.rank[:2]...)...)
			}
		}
	}
	n.expectTick("all begin", want...)
	n.expectTasks("all begin", builds, sheds)
	n.offer(3, builds[1])
	n.say(api.KindKeep, sheds[0].rank[0], sheds[0].id)
	n.say(api.KindKeep, sheds[0].rank[1], sheds[0].id)
	n.expectTasks("two have ended", slices.Delete(slices.Clone(builds), 1, 2), sheds[1:])
	n.expectHeld("two have ended", append(slices.Clone(sheds[1:]), builds[1])...)
}
