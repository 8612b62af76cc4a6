package place_test

import (
	"bytes"
	"crypto/sha256"
	"encoding/hex"
	"math"
	"math/rand/v2"
	"slices"
	"testing"

	"stolon/api"
	"stolon/place"
)

// P7.1: Score of every number that one byte holds, of others modulo 256, and one digest that was computed outside of this program.
func TestScore(t *testing.T) {
	for i := range 20 {
		object := numbered(i)
		for peer := -600; peer <= 600; peer++ {
			if got := place.Score(object, peer); got != modelScore(object, peer) {
				t.Fatal("Score", i, peer, got)
			}
		}
		for peer, same := range map[int]int{-1: 255, -256: 0, 256: 0, 259: 3, math.MaxInt: 255, math.MinInt: 0, math.MinInt + 7: 7} {
			if place.Score(object, peer) != place.Score(object, same) {
				t.Error("Score modulo 256", peer)
			}
		}
	}
	// The digest of 33 zero bytes.
	zero := place.Score(api.Digest{}, 0)
	if got := hex.EncodeToString(zero[:]); got != "7f9c9e31ac8256ca2f258583df262dbc7d6f68f2a03043d5c99a4ae5a7396ce9" {
		t.Error("Score of zero bytes", got)
	}
}

// P7.1: Better of all pairs, also of numbers with one score.
func TestBetter(t *testing.T) {
	numbers := append(strangeNumbers(), peersOf(1<<16-1, 16)...)
	for i := range 20 {
		object := numbered(i)
		for _, a := range numbers {
			for _, b := range numbers {
				if got := place.Better(object, a, b); got != modelBetter(object, a, b) {
					t.Fatal("Better", i, a, b, got)
				}
			}
		}
		for _, pair := range [][2]int{{-256, 0}, {0, 256}, {3, 259}, {-253, 3}, {math.MinInt, 0}, {15, math.MaxInt - 240}} {
			if place.Score(object, pair[0]) != place.Score(object, pair[1]) {
				t.Error("the scores differ", pair)
			}
			if !place.Better(object, pair[0], pair[1]) || place.Better(object, pair[1], pair[0]) {
				t.Error("Better with one score", pair)
			}
		}
	}
}

// P7.1: the scores decide from the first byte on.
func TestBetterComparesBytes(t *testing.T) {
	for i := range 200 {
		object := numbered(i)
		a, b := sha256.Sum256(append(object[:], 4)), sha256.Sum256(append(object[:], 9))
		if place.Better(object, 4, 9) != (bytes.Compare(a[:], b[:]) < 0) {
			t.Fatal("Better", i)
		}
	}
}

// P7.2: rankings of every length; example 1 of the chapter.
func TestRanking(t *testing.T) {
	for i := range 30 {
		object := numbered(i)
		for count := -3; count <= 40; count++ {
			used := min(max(count, 0), 16)
			want := modelChosen(object, peersOf(1<<used-1, used), used)
			if got := place.Ranking(object, count); !slices.Equal(got, want) || len(got) != used {
				t.Fatalf("Ranking of %d peers: %v instead of %v", count, got, want)
			}
		}
		if got := place.Ranking(object, math.MinInt); len(got) != 0 {
			t.Error("the smallest number of peers", got)
		}
		if got := place.Ranking(object, math.MaxInt); !slices.Equal(got, place.Ranking(object, 16)) {
			t.Error("the greatest number of peers", got)
		}
		three := place.Ranking(object, 3)
		if got := place.Chosen(object, []int{0, 1, 2}, 2); !slices.Equal(got, three[:2]) {
			t.Error("the chosen two of three", got, three)
		}
	}
}

// P7.2: every peer is the best one of some object.
func TestRankingDependsOnTheObject(t *testing.T) {
	best := map[int]int{}
	for i := range 400 {
		best[place.Ranking(numbered(i), 16)[0]]++
	}
	if len(best) != 16 {
		t.Error(best)
	}
}

// P7.2: lists with repetitions, in any order, with numbers of no peer, and every n.
func TestChosen(t *testing.T) {
	r := rand.New(rand.NewPCG(7, 2))
	for range 2000 {
		object, live := numbered(r.IntN(1000)), randomList(r)
		kept := slices.Clone(live)
		for n := -2; n <= 18; n++ {
			want := modelChosen(object, live, n)
			if got := place.Chosen(object, live, n); !slices.Equal(got, want) {
				t.Fatalf("Chosen of %v, %d: %v instead of %v", live, n, got, want)
			}
		}
		if !slices.Equal(live, kept) {
			t.Fatal("the argument has changed", live, kept)
		}
	}
}

// P7.2: lists and numbers at the limits.
func TestChosenLimits(t *testing.T) {
	object := numbered(1)
	all := peersOf(1<<16-1, 16)
	for _, n := range []int{16, 17, math.MaxInt} {
		if got := place.Chosen(object, all, n); !slices.Equal(got, place.Ranking(object, 16)) {
			t.Error("all peers", n, got)
		}
	}
	for _, n := range []int{0, -1, math.MinInt} {
		if got := place.Chosen(object, all, n); len(got) != 0 {
			t.Error("no peers", n, got)
		}
	}
	if got := place.Chosen(object, strangeNumbers(), 5); len(got) != 0 {
		t.Error("numbers of no peer", got)
	}
	if len(place.Chosen(object, nil, 5)) != 0 || len(place.Chosen(object, []int{}, 5)) != 0 {
		t.Error("an empty list")
	}
	if got := place.Chosen(object, slices.Repeat([]int{7}, 1000), 5); !slices.Equal(got, []int{7}) {
		t.Error("one peer a thousand times", got)
	}
}

// R4: results are new memory.
func TestListsAreNew(t *testing.T) {
	object, live := numbered(1), []int{3, 1, 2}
	for name, list := range map[string]func() []int{
		"Ranking": func() []int { return place.Ranking(object, 5) },
		"Chosen":  func() []int { return place.Chosen(object, live, 2) },
		"Sources": func() []int { return place.Sources(0, live, live) },
	} {
		first := list()
		want := slices.Clone(first)
		clear(first)
		_ = append(first, 99, 99, 99)
		if got := list(); !slices.Equal(got, want) {
			t.Error(name, got, want)
		}
	}
	if !slices.Equal(live, []int{3, 1, 2}) {
		t.Error("the argument has changed", live)
	}
}

// P7.11: all pairs of live lists of 7 peers, of which one is a part of the other.
func TestChosenPeersStay(t *testing.T) {
	const count = 7
	for i := range 4 {
		object := numbered(i)
		for n := range count + 2 {
			var chosen [1 << count][]int
			for bits := range chosen {
				chosen[bits] = place.Chosen(object, peersOf(bits, count), n)
			}
			for more := range chosen {
				for fewer := range chosen {
					if fewer&^more != 0 {
						continue
					}
					for _, peer := range chosen[more] {
						stayed := fewer>>peer&1 == 1
						if stayed && !slices.Contains(chosen[fewer], peer) {
							t.Fatal("one that was chosen and stayed is not chosen any more", chosen[more], chosen[fewer])
						}
					}
					if len(chosen[more]) < len(chosen[fewer]) || len(chosen[fewer]) < min(n, len(peersOf(fewer, count))) {
						t.Fatal("too few are chosen", chosen[more], chosen[fewer])
					}
				}
			}
		}
	}
}
