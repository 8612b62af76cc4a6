package swarm_test

import (
	"bytes"
	"strconv"
	"testing"

	"stolon/api"
)

// expectDurable checks P10.9: enough disks have a sound piece of each object that was acknowledged and never deleted.
func (h *history) expectDurable() {
	h.t.Helper()
	faulty := len(h.w.Faulty())
	for _, id := range h.w.Acknowledged() {
		o := h.objects[id]
		if o.deleted {
			continue
		}
		holders := h.holders(id)
		if len(holders) < o.m.N-faulty {
			h.t.Fatal("of an object", o.m.N, "pieces are wanted,", faulty, "peers are faulty, and pieces are at", holders)
		}
		if len(holders) < o.m.N {
			h.seen["too few pieces"]++
		}
		if o.m.N > faulty {
			h.seen["durable"]++
		}
	}
}

// expectRestored checks P10.10: every restore that has succeeded returned what was backed up.
func (h *history) expectRestored() {
	h.t.Helper()
	for _, x := range h.w.Log() {
		if x.Result.Kind != api.OpRestore || x.Result.Code != api.OK {
			continue
		}
		if o := h.objects[x.Result.Object]; o == nil || !bytes.Equal(x.Result.Data, o.data) {
			h.t.Fatal("a restore returns", x.Result.Data)
		}
		h.seen["restored"]++
	}
}

// expectSeen checks that things were seen often enough.
func expectSeen(t *testing.T, seen, least map[string]int) {
	t.Helper()
	for name, n := range least {
		if seen[name] < n {
			t.Error("seldom seen:", name, seen[name])
		}
	}
}

// parallel runs a trial for each of some numbers, several of them at the same time, and returns what was seen in all of them.
func parallel(t *testing.T, trials int, try func(t *testing.T, seed uint64, seen map[string]int)) map[string]int {
	t.Helper()
	const groups = 16
	all := make([]map[string]int, groups)
	t.Run("trials", func(t *testing.T) {
		for group := range groups {
			all[group] = make(map[string]int)
			t.Run(strconv.Itoa(group), func(t *testing.T) {
				t.Parallel()
				for seed := group; seed < trials; seed += groups {
					try(t, uint64(seed), all[group])
				}
			})
		}
	})
	sum := make(map[string]int)
	for _, seen := range all {
		for name, n := range seen {
			sum[name] += n
		}
	}
	return sum
}

// P10.8 to P10.10, P10.13: pieces that are stored are right and stay, whatever happens.
func TestDurability(t *testing.T) {
	seen := parallel(t, 100, func(t *testing.T, seed uint64, seen map[string]int) {
		h := newHistory(t, seed)
		h.seen = seen
		if seed%3 == 0 {
			h.narrow()
		}
		for range 700 {
			h.do(h.anyEvent())
			h.expectDurable()
		}
		h.expectRestored()
	})
	t.Log(seen)
	expectSeen(t, seen, map[string]int{
		"durable": 25000, "restored": 100, "sound pieces": 5000, "too few pieces": 5000, "remembered": 400, "torn": 40,
		"kind 5": 300, "kind 6": 150, "kind 7": 15, "kind 8": 300, "kind 9": 100, "kind 10": 150, "kind 11": 50, "kind 12": 30, "kind 13": 60,
	})
}
