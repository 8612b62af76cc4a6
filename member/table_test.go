package member_test

import (
	"math"
	"math/rand/v2"
	"slices"
	"testing"

	"stolon/api"
	"stolon/member"
)

// entry returns an entry of a table.
func entry(inc uint64, status api.Status) api.Member { return api.Member{Inc: inc, Status: status} }

// someEntries returns entries, invalid ones among them, such that each one is newer than those before it.
func someEntries() []api.Member {
	var list []api.Member
	for _, inc := range []uint64{0, 1, 2, 255, 256, 1 << 32, 1 << 63, math.MaxUint64 - 1, math.MaxUint64} {
		for _, status := range []api.Status{0, 1, 2, 3, 4, 5, 128, 255} {
			list = append(list, entry(inc, status))
		}
	}
	return list
}

// randomEntry returns a valid entry with a small incarnation.
func randomEntry(r *rand.Rand) api.Member {
	if r.IntN(4) == 0 {
		return api.Member{}
	}
	return entry(uint64(1+r.IntN(4)), api.Status(1+r.IntN(4)))
}

// randomTable returns a valid table.
func randomTable(r *rand.Rand, peers int) []api.Member {
	table := make([]api.Member, peers)
	for i := range table {
		table[i] = randomEntry(r)
	}
	return table
}

// P5.1: every status with several incarnations, at every place of tables of every length.
func TestValid(t *testing.T) {
	for status := range 256 {
		for _, inc := range []uint64{0, 1, 2, 1 << 32, math.MaxUint64} {
			want := status <= 4 && (inc == 0) == (status == 0)
			for length := 1; length <= 16; length++ {
				table := make([]api.Member, length)
				for i := range table {
					table[i] = entry(uint64(i+1), api.Status(i%4+1))
				}
				for i := range table {
					other := slices.Clone(table)
					other[i] = entry(inc, api.Status(status))
					if got := member.Valid(other); got != want {
						t.Fatalf("Valid is %v with the entry %v at %d of %d", got, other[i], i, length)
					}
				}
			}
		}
	}
}

// P5.1: the lengths.
func TestValidLengths(t *testing.T) {
	for length := range 300 {
		absent := make([]api.Member, length)
		alive := slices.Repeat([]api.Member{entry(3, api.Alive)}, length)
		want := length >= 1 && length <= 16
		if member.Valid(absent) != want || member.Valid(alive) != want {
			t.Error("the length", length)
		}
	}
	if member.Valid(nil) {
		t.Error("no table")
	}
}

// P5.1: all pairs of entries, valid or not.
func TestNewerAndJoin(t *testing.T) {
	list := someEntries()
	for i, a := range list {
		for j, b := range list {
			if got := member.Newer(a, b); got != (i > j) {
				t.Errorf("Newer(%v, %v) is %v", a, b, got)
			}
			if got := member.Join(a, b); got != list[max(i, j)] {
				t.Errorf("Join(%v, %v) is %v", a, b, got)
			}
		}
	}
}

// Example 1 of the chapter.
func TestJoinExample(t *testing.T) {
	if got := member.Join(entry(3, api.Alive), entry(3, api.Suspect)); got != entry(3, api.Suspect) {
		t.Error(got)
	}
	if got := member.Join(entry(3, api.Dead), entry(4, api.Alive)); got != entry(4, api.Alive) {
		t.Error(got)
	}
}

// P5.2
func TestMerge(t *testing.T) {
	r := rand.New(rand.NewPCG(1, 5))
	for length := 1; length <= 16; length++ {
		for range 50 {
			a, b := randomTable(r, length), randomTable(r, length)
			keptA, keptB := slices.Clone(a), slices.Clone(b)
			got, e := member.Merge(a, b)
			if e != api.OK || len(got) != length {
				t.Fatal(got, e)
			}
			for i := range got {
				want := b[i]
				if a[i].Inc > b[i].Inc || a[i].Inc == b[i].Inc && a[i].Status >= b[i].Status {
					want = a[i]
				}
				if got[i] != want {
					t.Fatalf("Merge of %v and %v has %v", a[i], b[i], got[i])
				}
			}
			if !member.Valid(got) {
				t.Error("not valid", got)
			}
			for i := range got {
				got[i] = entry(99, 99)
			}
			if !slices.Equal(a, keptA) || !slices.Equal(b, keptB) {
				t.Fatal("an argument has changed")
			}
		}
	}
}

// P5.2: the errors and their order.
func TestMergeErrors(t *testing.T) {
	good := []api.Member{entry(3, api.Alive), {}}
	longer := []api.Member{entry(3, api.Alive), {}, {}}
	for _, c := range []struct {
		name string
		a, b []api.Member
		want api.Errno
	}{
		{"no table first", nil, good, api.ErrArg},
		{"no table second", good, nil, api.ErrArg},
		{"no tables", nil, []api.Member{}, api.ErrArg},
		{"too long tables", make([]api.Member, 17), make([]api.Member, 17), api.ErrArg},
		{"an invalid first table", []api.Member{entry(1, api.Absent), {}}, good, api.ErrArg},
		{"an invalid second table", good, []api.Member{{}, entry(0, api.Alive)}, api.ErrArg},
		{"an unknown status", good, []api.Member{{}, entry(1, 5)}, api.ErrArg},
		{"an invalid table of another length", good, []api.Member{entry(1, api.Left), {}, entry(0, api.Left)}, api.ErrArg},
		{"another length", good, longer, api.ErrShape},
		{"another length the other way", longer, good, api.ErrShape},
		{"the greatest and the smallest length", make([]api.Member, 16), make([]api.Member, 1), api.ErrShape},
	} {
		if got, e := member.Merge(c.a, c.b); e != c.want || len(got) != 0 {
			t.Error(c.name, got, e)
		}
	}
}

// P5.2: Live of any tables.
func TestLive(t *testing.T) {
	for _, c := range []struct {
		name  string
		table []api.Member
		want  []int
	}{
		{"no table", nil, nil},
		{"every status", []api.Member{{}, entry(1, api.Alive), entry(1, api.Suspect), entry(1, api.Dead), entry(1, api.Left)}, []int{1, 2}},
		{"invalid entries", []api.Member{entry(0, api.Alive), entry(7, api.Absent), entry(0, api.Suspect), entry(0, 5), entry(2, 255)}, []int{0, 2}},
		{"nobody", make([]api.Member, 3), nil},
	} {
		kept := slices.Clone(c.table)
		if got := member.Live(c.table); !slices.Equal(got, c.want) {
			t.Error(c.name, got)
		}
		if !slices.Equal(c.table, kept) {
			t.Error(c.name, "has changed")
		}
	}
	long := make([]api.Member, 1000)
	var want []int
	for i := range long {
		long[i] = entry(uint64(i), api.Status(i%6))
		if i%6 == 1 || i%6 == 2 {
			want = append(want, i)
		}
	}
	if got := member.Live(long); !slices.Equal(got, want) {
		t.Error("a long table", got)
	}
}

// P5.3
func TestWaits(t *testing.T) {
	for _, c := range []struct{ peers, wait, rounds int }{
		{math.MinInt, 10, 30}, {-1, 10, 30}, {0, 10, 30}, {1, 13, 36}, {2, 16, 42}, {3, 19, 48}, {15, 55, 120}, {16, 58, 126}, {17, 58, 126}, {math.MaxInt, 58, 126},
	} {
		if got := member.SuspectWait(c.peers); got != c.wait {
			t.Errorf("SuspectWait(%d) is %d", c.peers, got)
		}
		if got := member.Rounds(c.peers); got != c.rounds {
			t.Errorf("Rounds(%d) is %d", c.peers, got)
		}
	}
	for peers := range 17 {
		if member.SuspectWait(peers) != 10+3*peers || member.Rounds(peers) != 30+6*peers {
			t.Error(peers)
		}
	}
}
