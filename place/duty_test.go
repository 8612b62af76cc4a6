package place_test

import (
	"math"
	"math/rand/v2"
	"slices"
	"testing"

	"stolon/api"
	"stolon/place"
)

// P7.3: the cases of the chapter, one by one; example 2.
func TestDutyCases(t *testing.T) {
	for i := range 20 {
		object := numbered(i)
		l := place.Ranking(object, 5)
		for _, c := range []struct {
			name         string
			self, n      int
			live         []int
			held, buried bool
			want         api.Duty
		}{
			{"buried and held", l[0], 2, l, true, true, api.DutyClear},
			{"buried and held, not chosen", l[4], 2, l, true, true, api.DutyClear},
			{"buried and held, n 0", l[0], 0, l, true, true, api.DutyClear},
			{"buried and not held", l[0], 2, l, false, true, api.DutyNone},
			{"n 0 and held", l[0], 0, l, true, false, api.DutyNone},
			{"n 0 and not held", l[0], 0, l, false, false, api.DutyNone},
			{"n -1 and held", l[0], -1, l, true, false, api.DutyNone},
			{"the smallest n", l[0], math.MinInt, l, true, false, api.DutyNone},
			{"chosen and not held", l[1], 2, l, false, false, api.DutyBuild},
			{"chosen and held", l[1], 2, l, true, false, api.DutyNone},
			{"not chosen and held", l[2], 2, l, true, false, api.DutyShed},
			{"not chosen and not held", l[2], 2, l, false, false, api.DutyNone},
			{"chosen, as a better one is not live", l[2], 2, l[1:], false, false, api.DutyBuild},
			{"not live, n others live", l[0], 4, l[1:], true, false, api.DutyShed},
			{"not live, fewer others live", l[0], 5, l[1:], true, false, api.DutyNone},
			{"not live and not held", l[0], 2, l[1:], false, false, api.DutyNone},
			{"nobody live", l[0], 1, nil, true, false, api.DutyNone},
			{"fewer live than n", l[4], 9, l, false, false, api.DutyBuild},
			{"the greatest n", l[4], math.MaxInt, l, true, false, api.DutyNone},
			{"repetitions do not make n peers", l[4], 2, []int{l[0], l[0], 99, -1}, true, false, api.DutyNone},
			{"the peer 256 modulo 256", l[0] + 256, 2, l, false, false, api.DutyNone},
			{"the peer 256 modulo 256, which holds", l[0] + 256, 2, l, true, false, api.DutyShed},
			{"a peer below 0 in its own list", -1, 9, []int{-1}, false, false, api.DutyNone},
		} {
			if got := place.Duty(object, c.self, c.live, c.n, c.held, c.buried); got != c.want {
				t.Error(c.name, got)
			}
		}
		if place.Duty(object, 1, []int{0, 1, 2}, 3, false, false) != api.DutyBuild || place.Duty(object, 3, []int{0, 1, 2}, 3, true, false) != api.DutyShed || place.Duty(object, 3, []int{0, 1}, 3, true, false) != api.DutyNone {
			t.Error("example 2")
		}
	}
}

// P7.3: random lists, all n, and all that is held or buried.
func TestDutyLikeTheModel(t *testing.T) {
	r := rand.New(rand.NewPCG(7, 3))
	seen := map[api.Duty]int{}
	for range 1500 {
		object, live, self := numbered(r.IntN(1000)), randomList(r), randomPeer(r)
		kept := slices.Clone(live)
		for n := -1; n <= 17; n++ {
			for bits := range 4 {
				held, buried := bits&1 == 1, bits&2 == 2
				want := modelDuty(object, self, live, n, held, buried)
				if got := place.Duty(object, self, live, n, held, buried); got != want {
					t.Fatalf("Duty of %d with %v, n %d, held %v, buried %v: %d instead of %d", self, live, n, held, buried, got, want)
				}
				seen[want]++
			}
		}
		if !slices.Equal(live, kept) {
			t.Fatal("the argument has changed", live, kept)
		}
	}
	if len(seen) != 4 {
		t.Error("not all duties occur", seen)
	}
}

// P7.4: Sources, case by case and for random lists.
func TestSources(t *testing.T) {
	for _, c := range []struct {
		name          string
		self          int
		holders, live []int
		want          []int
	}{
		{"no holders", 1, nil, []int{1, 2}, nil},
		{"nobody live", 1, []int{1, 2}, nil, nil},
		{"both lists", 9, []int{4, 2, 3}, []int{3, 5, 4}, []int{3, 4}},
		{"without itself", 3, []int{4, 2, 3}, []int{3, 5, 4}, []int{4}},
		{"repetitions", 0, []int{4, 4, 2, 2, 2}, []int{2, 4, 4, 2}, []int{2, 4}},
		{"the ends", 7, []int{15, 0}, []int{0, 15}, []int{0, 15}},
		{"numbers of no peer", 7, append(strangeNumbers(), 8), append(strangeNumbers(), 8), []int{8}},
		{"a peer of no such number", -1, []int{15, 16, -1}, []int{15, 16, -1}, []int{15}},
		{"the peer 256 modulo 256", 256, []int{0, 1}, []int{0, 1}, []int{0, 1}},
	} {
		if got := place.Sources(c.self, c.holders, c.live); !slices.Equal(got, c.want) {
			t.Error(c.name, got)
		}
	}
	r := rand.New(rand.NewPCG(7, 4))
	for range 5000 {
		self, holders, live := randomPeer(r), randomList(r), randomList(r)
		keptHolders, keptLive := slices.Clone(holders), slices.Clone(live)
		var want []int
		for _, peer := range modelPeers(holders) {
			if slices.Contains(live, peer) && peer != self {
				want = append(want, peer)
			}
		}
		if got := place.Sources(self, holders, live); !slices.Equal(got, want) {
			t.Fatalf("Sources of %d, %v, %v: %v instead of %v", self, holders, live, got, want)
		}
		if !slices.Equal(holders, keptHolders) || !slices.Equal(live, keptLive) {
			t.Fatal("an argument has changed")
		}
	}
}

// P7.5: Covered, case by case.
func TestCoveredCases(t *testing.T) {
	for i := range 20 {
		object := numbered(i)
		l := place.Ranking(object, 6)
		for _, c := range []struct {
			name    string
			self, n int
			keeps   []int
			want    bool
		}{
			{"n better ones", l[2], 2, []int{l[1], l[0]}, true},
			{"more than n", l[5], 2, l, true},
			{"one too few", l[3], 3, []int{l[1], l[0]}, false},
			{"one twice", l[2], 2, []int{l[1], l[1]}, false},
			{"a worse one", l[2], 2, []int{l[1], l[3]}, false},
			{"itself", l[2], 3, []int{l[0], l[1], l[2]}, false},
			{"the best one of all", l[0], 1, l, false},
			{"the second one", l[1], 1, l, true},
			{"n 0", l[5], 0, l, false},
			{"n -1", l[5], -1, l, false},
			{"the smallest n", l[5], math.MinInt, l, false},
			{"the greatest n", l[5], math.MaxInt, l, false},
			{"no keeps", l[5], 1, nil, false},
			{"no keeps and n 0", l[5], 0, nil, false},
			{"numbers of no peer", l[5], 1, strangeNumbers(), false},
			{"a number with the score of a peer", l[5], 2, []int{l[0], l[0] + 256, l[0] - 256}, false},
			{"the peer 256 modulo 256 is worse", l[0] + 256, 1, []int{l[0]}, true},
			{"the peer below 0 is better", l[0] - 256, 1, l, false},
		} {
			if got := place.Covered(object, c.self, c.n, c.keeps); got != c.want {
				t.Error(c.name, got)
			}
		}
	}
}

// P7.5: random lists.
func TestCoveredLikeTheModel(t *testing.T) {
	r := rand.New(rand.NewPCG(7, 5))
	seen := map[bool]int{}
	for range 3000 {
		object, self, keeps := numbered(r.IntN(1000)), randomPeer(r), randomList(r)
		kept := slices.Clone(keeps)
		for n := -1; n <= 17; n++ {
			want := modelCovered(object, self, n, keeps)
			if got := place.Covered(object, self, n, keeps); got != want {
				t.Fatalf("Covered of %d, %d, %v is %v", self, n, keeps, got)
			}
			seen[want]++
		}
		if !slices.Equal(keeps, kept) {
			t.Fatal("the argument has changed")
		}
	}
	if seen[true] < 1000 || seen[false] < 1000 {
		t.Error(seen)
	}
}
