package place_test

import (
	"math"
	"math/rand/v2"
	"slices"
	"testing"

	"stolon/api"
	"stolon/place"
)

// expectClaimants checks the claimants of an object.
func expectClaimants(t *testing.T, name string, c *place.Claims, object api.Digest, want ...int) {
	t.Helper()
	if got := c.Claimants(object); !slices.Equal(got, want) {
		t.Errorf("%s: the claimants are %v instead of %v", name, got, want)
	}
}

// P7.6: Note and Claimants.
func TestNote(t *testing.T) {
	one, two := numbered(1), numbered(2)
	c := place.NewClaims()
	expectClaimants(t, "new", c, one)
	expectClaimants(t, "new", c, api.Digest{})
	c.Note(one, 9, 5)
	c.Note(one, 15, 7)
	c.Note(one, 0, 6)
	c.Note(two, 3, 5)
	expectClaimants(t, "in ascending order", c, one, 0, 9, 15)
	expectClaimants(t, "another object", c, two, 3)
	expectClaimants(t, "an object without claims", c, api.Digest{})
	c.Note(one, 9, 8)
	expectClaimants(t, "the same claimant again", c, one, 0, 9, 15)
	for _, number := range strangeNumbers() {
		c.Note(one, number, 5)
		c.Note(numbered(3), number, 5)
	}
	expectClaimants(t, "numbers of no peer", c, one, 0, 9, 15)
	expectClaimants(t, "numbers of no peer alone", c, numbered(3))
	clear(c.Claimants(one))
	expectClaimants(t, "after a change of a result", c, one, 0, 9, 15)
	expectClaimants(t, "other claims", place.NewClaims(), one)
}

// P7.6: which claims Sweep forgets; example 3 of the chapter.
func TestSweep(t *testing.T) {
	object := numbered(1)
	const last = math.MaxUint64
	for _, x := range []struct {
		noted, clock uint64
		current      bool
	}{
		{5, 0, false}, {5, 4, false}, {5, 5, true}, {5, 6, true}, {5, 16, true}, {5, 17, false}, {5, 18, false}, {5, last, false},
		{0, 0, true}, {0, 11, true}, {0, 12, false}, {0, last, false}, {1, 0, false},
		{last, last, true}, {last, 0, false}, {last, 10, false}, {last, last - 1, false},
		{last - 11, last, true}, {last - 12, last, false}, {last - 5, 3, false},
	} {
		c := place.NewClaims()
		c.Note(object, 4, x.noted)
		const worse = 4 + 256 // it has the same score as 4
		if got := c.Blocked(object, worse, x.clock, []int{4}, nil); got != x.current {
			t.Error("Blocked", x, got)
		}
		c.Sweep(x.clock)
		if x.current {
			expectClaimants(t, "current", c, object, 4)
		} else {
			expectClaimants(t, "not current", c, object)
		}
	}
}

// P7.6: Sweep forgets these claims for all clocks, and no others.
func TestSweepForgets(t *testing.T) {
	one, two := numbered(1), numbered(2)
	worst := place.Ranking(one, 16)[15]
	first := place.Ranking(one, 16)[0]
	c := place.NewClaims()
	c.Note(one, first, 5)
	c.Note(two, 3, 6)
	c.Note(two, 4, 5)
	c.Note(two, 5, 18)
	c.Sweep(17)
	expectClaimants(t, "one that is too old", c, one)
	expectClaimants(t, "one of three", c, two, 3)
	if c.Blocked(one, worst, 5, []int{first}, nil) {
		t.Error("a forgotten claim blocks")
	}
	c.Note(one, first, 5)
	if !c.Blocked(one, worst, 5, []int{first}, nil) {
		t.Error("a claim after Sweep does not block")
	}
	expectClaimants(t, "noted again", c, one, first)
	c.Sweep(0)
	expectClaimants(t, "all are later", c, one)
	expectClaimants(t, "all are later", c, two)
}

// P7.6: the last Note of an object and a claimant counts, whatever its clock.
func TestNoteReplaces(t *testing.T) {
	object := numbered(1)
	l := place.Ranking(object, 2)
	c := place.NewClaims()
	c.Note(object, l[0], 5)
	c.Note(object, l[0], 10)
	if c.Blocked(object, l[1], 9, l, nil) || !c.Blocked(object, l[1], 10, l, nil) || !c.Blocked(object, l[1], 21, l, nil) {
		t.Error("a later clock")
	}
	c.Note(object, l[0], 3)
	if !c.Blocked(object, l[1], 3, l, nil) || !c.Blocked(object, l[1], 14, l, nil) || c.Blocked(object, l[1], 15, l, nil) {
		t.Error("an earlier clock")
	}
}

// P7.7: each condition of Blocked alone.
func TestBlocked(t *testing.T) {
	for i := range 20 {
		object, other := numbered(i), numbered(i+1)
		l := place.Ranking(object, 16)
		self := l[5]
		for _, x := range []struct {
			name          string
			claimant      int
			object        api.Digest
			clock         uint64
			live, holders []int
			want          bool
		}{
			{"a better one", l[4], object, 30, l, nil, true},
			{"the best one", l[0], object, 30, l, nil, true},
			{"the next worse one", l[6], object, 30, l, nil, false},
			{"the worst one", l[15], object, 30, l, nil, false},
			{"itself", self, object, 30, l, nil, false},
			{"another object", l[4], other, 30, l, nil, false},
			{"too old", l[4], object, 18, l, nil, false},
			{"just new enough", l[4], object, 19, l, nil, true},
			{"from later on", l[4], object, 31, l, nil, false},
			{"not live", l[4], object, 30, slices.DeleteFunc(slices.Clone(l), func(peer int) bool { return peer == l[4] }), nil, false},
			{"live alone", l[4], object, 30, []int{l[4]}, nil, true},
			{"nobody live", l[4], object, 30, nil, nil, false},
			{"numbers of no peer live", l[4], object, 30, []int{l[4] + 16, l[4] - 256, l[4] + 256}, nil, false},
			{"a holder", l[4], object, 30, l, []int{l[4]}, false},
			{"others are holders", l[4], object, 30, l, append([]int{l[4] + 256}, l[:4]...), true},
			{"all are holders", l[4], object, 30, l, l, false},
		} {
			c := place.NewClaims()
			c.Note(x.object, x.claimant, x.clock)
			live, holders := slices.Clone(x.live), slices.Clone(x.holders)
			if got := c.Blocked(object, self, 30, x.live, x.holders); got != x.want {
				t.Error(x.name, got)
			}
			if !slices.Equal(x.live, live) || !slices.Equal(x.holders, holders) {
				t.Error("an argument has changed")
			}
			expectClaimants(t, x.name, c, x.object, x.claimant)
		}
	}
}

// P7.7: one claim of many is enough, and a peer of a strange number has a rank as well.
func TestBlockedByOneOfMany(t *testing.T) {
	object := numbered(3)
	l := place.Ranking(object, 16)
	for i := range l {
		c := place.NewClaims()
		for _, claimant := range l {
			c.Note(object, claimant, 7)
		}
		if got := c.Blocked(object, l[8], 7, []int{l[i]}, nil); got != (i < 8) {
			t.Error("live is one alone", i, got)
		}
		if got := c.Blocked(object, l[i]+256, 7, l[i:i+1], nil); !got {
			t.Error("a number above, with the same score", i)
		}
		if got := c.Blocked(object, l[i]-256, 7, l[i:i+1], nil); got {
			t.Error("a number below, with the same score", i)
		}
	}
}

// P7.6, P7.7: random calls, one after another.
func TestClaimsLikeTheModel(t *testing.T) {
	r := rand.New(rand.NewPCG(7, 7))
	seen := map[bool]int{}
	for range 300 {
		c, model := place.NewClaims(), modelClaims{}
		for range 60 {
			object, clock := numbered(r.IntN(3)), uint64(r.IntN(24))
			switch r.IntN(8) {
			case 0:
				c.Sweep(clock)
				model.sweep(clock)
			case 1, 2, 3, 4:
				claimant := randomPeer(r)
				c.Note(object, claimant, clock)
				model.note(object, claimant, clock)
			default:
				self, live := randomPeer(r), randomList(r)
				var holders []int
				if r.IntN(2) == 0 {
					holders = randomList(r)
				}
				want := model.blocked(object, self, clock, live, holders)
				if got := c.Blocked(object, self, clock, live, holders); got != want {
					t.Fatalf("Blocked of %d at %d with %v, %v and %v is %v", self, clock, model, live, holders, got)
				}
				seen[want]++
			}
			for i := range 3 {
				if got, want := c.Claimants(numbered(i)), model.claimants(numbered(i)); !slices.Equal(got, want) {
					t.Fatalf("Claimants: %v instead of %v", got, want)
				}
			}
		}
	}
	if seen[true] < 500 || seen[false] < 500 {
		t.Error(seen)
	}
}

// The methods of a nil Claims.
func TestNilClaims(t *testing.T) {
	var c *place.Claims
	c.Note(numbered(1), 1, 1)
	c.Sweep(1)
	if c.Blocked(numbered(1), 2, 1, []int{0, 1, 2}, nil) || c.Blocked(numbered(1), 257, 1, []int{1}, nil) || len(c.Claimants(numbered(1))) != 0 {
		t.Error("nil Claims")
	}
	if place.NewClaims() == nil {
		t.Error("NewClaims returns nil")
	}
}
