package swarm_test

import (
	"slices"
	"testing"

	"stolon/api"
	"stolon/member"
	"stolon/swarm"
)

// Example 2, P10.3: two peers meet.
func TestTwoPeersMeet(t *testing.T) {
	w := newWorld(t, 2)
	for i := range 2 {
		do(t, w, api.Event{Kind: api.EvStart, Peer: i})
	}
	rounds(t, w, 5)
	for i := range 2 {
		if live := member.Live(w.Table(i)); !slices.Equal(live, []int{0, 1}) {
			t.Error("live at peer", i, "are", live)
		}
	}
	if !w.Settled() || w.Applied() != 7 {
		t.Error("not settled after", w.Applied(), "events")
	}
}

// Example 10 of the document: a backup, and restores at every peer.
func TestPrecious(t *testing.T) {
	for peer := range 3 {
		w := newWorld(t, 3)
		for i := range 3 {
			do(t, w, api.Event{Kind: api.EvStart, Peer: i})
		}
		rounds(t, w, 5)
		id := backup(t, w, 1, 2, 2, "precious")
		rounds(t, w, 3)
		if l := w.Acknowledged(); !slices.Equal(l, []api.Digest{id}) {
			t.Fatal("acknowledged are", l)
		}
		bound := swarm.Bound(3, 1, 2)
		if bound != 272 {
			t.Error("the bound is", bound)
		}
		rounds(t, w, bound)
		if !w.Settled() {
			t.Fatal("not settled")
		}
		do(t, w, api.Event{Kind: api.EvRestore, Peer: peer})
		rounds(t, w, 3)
		l := w.Log()
		last := l[len(l)-1]
		if last.Peer != peer || last.Result.Kind != api.OpRestore || last.Result.Code != api.OK || string(last.Result.Data) != "precious" {
			t.Error("a restore at peer", peer, "has ended with", last)
		}
	}
}

// P10.4: a script plays as its events happen one after another.
func TestPlay(t *testing.T) {
	s := api.Setup{Peers: 3, Blocks: 64, Quota: 1000}
	events := []api.Event{
		{Kind: api.EvStart}, {Kind: api.EvStart, Peer: 1}, {Kind: api.EvStart, Peer: 1}, {Kind: api.EvStart, Peer: 2}, {Kind: 77}, {Kind: api.EvTick, Peer: 200},
		{Kind: api.EvRound, Draw: 1}, {Kind: api.EvRound, Draw: 2}, {Kind: api.EvRound, Draw: 3}, {Kind: api.EvRound, Draw: 4}, {Kind: api.EvRound, Draw: 5},
		{Kind: api.EvBackup, Peer: 1, A: 2, B: 3, Data: []byte("data")}, {Kind: api.EvDeliver, A: 3}, {Kind: api.EvLose, A: 2}, {Kind: api.EvCrash, Peer: 2},
		{Kind: api.EvWipe, Peer: 2}, {Kind: api.EvRound, Draw: 6}, {Kind: api.EvStart, Peer: 2}, {Kind: api.EvRound, Draw: 7}, {Kind: api.EvTick, Peer: 1},
	}
	for n := range len(events) + 1 {
		script, e := swarm.Script(s, events[:n])
		if e != api.OK {
			t.Fatal("Script returns", e)
		}
		w, e := swarm.Play(append(script, "the beginning"...)) // less than an event
		if e != api.OK {
			t.Fatal("Play returns", e)
		}
		want, _ := swarm.New(s)
		for _, event := range events[:n] {
			want.Do(event)
		}
		if view(w) != view(want) {
			t.Error("the script of", n, "events makes another world")
		}
	}
}
