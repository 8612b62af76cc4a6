package inventory_test

import (
	"fmt"
	"math"
	"math/rand/v2"
	"slices"
	"testing"

	"stolon/api"
	"stolon/inventory"
)

// P6.3: a new inventory, and records that are merged one after another.
func TestMerge(t *testing.T) {
	v := inventory.New()
	if v == nil {
		t.Fatal("New returns nil")
	}
	expectRecords(t, "new", v)
	merge(t, v)
	expectRecords(t, "no records merged", v)
	p, q := piece(numbered(1), 2, 3, 7, true), piece(numbered(1), 2, 3, 8, false)
	merge(t, v, p)
	expectRecords(t, "a piece", v, p)
	merge(t, v, p, p)
	expectRecords(t, "the same piece", v, p)
	merge(t, v, q)
	expectRecords(t, "a newer piece", v, q)
	merge(t, v, p)
	expectRecords(t, "the older piece", v, q)
	merge(t, v, base(4, 2), grave(numbered(9)), base(0, 1))
	expectRecords(t, "every kind", v, base(0, 1), base(4, 2), grave(numbered(9)), q)
	merge(t, v, base(4, 1))
	expectRecords(t, "an older base", v, base(0, 1), base(4, 2), grave(numbered(9)), q)
	merge(t, v, base(4, 3))
	expectRecords(t, "a newer base", v, base(0, 1), base(4, 3), grave(numbered(9)), q)
}

// P6.3: void pieces; examples 1 to 3 of the chapter.
func TestVoidPieces(t *testing.T) {
	old, same := piece(numbered(1), 2, 3, 1, true), piece(numbered(2), 2, 4, 1, true)
	other := piece(numbered(1), 3, 1, 1, true)
	v := build(t, old, same, other)
	merge(t, v, base(2, 4))
	expectRecords(t, "a base", v, base(2, 4), other, same)
	merge(t, v, old)
	expectRecords(t, "a piece below the base", v, base(2, 4), other, same)
	merge(t, v, piece(numbered(1), 2, 4, 1, false))
	expectRecords(t, "a piece of the base's incarnation", v, base(2, 4), piece(numbered(1), 2, 4, 1, false), other, same)
	merge(t, v, grave(numbered(1)))
	expectRecords(t, "a grave", v, base(2, 4), grave(numbered(1)), same)
	merge(t, v, other, piece(numbered(1), 9, math.MaxUint64, 1, true))
	expectRecords(t, "a piece of a buried object", v, base(2, 4), grave(numbered(1)), same)
	merge(t, v, grave(numbered(2)), base(2, 9))
	expectRecords(t, "nothing but bases and graves", v, base(2, 9), grave(numbered(1)), grave(numbered(2)))
	all := build(t, old, base(2, 4), other, grave(numbered(2)), same)
	expectRecords(t, "in one list", all, base(2, 4), grave(numbered(2)), other)
	zero := build(t, grave(api.Digest{}), base(0, 7), piece(api.Digest{}, 1, 9, 9, true), piece(numbered(1), 1, 1, 1, true))
	expectRecords(t, "the object whose id is zero", zero, base(0, 7), grave(api.Digest{}), piece(numbered(1), 1, 1, 1, true))
}

// P6.3, R2: if a record is not valid, nothing is merged.
func TestMergeErrors(t *testing.T) {
	have := []api.Record{base(2, 4), piece(numbered(1), 2, 4, 1, true), piece(numbered(2), 3, 1, 1, true)}
	good := []api.Record{base(2, 5), grave(numbered(2)), piece(numbered(3), 2, 5, 1, true)}
	for _, wrong := range someInvalid() {
		for at := range len(good) + 1 {
			v := build(t, have...)
			if e := v.Merge(slices.Insert(slices.Clone(good), at, wrong)); e != api.ErrArg {
				t.Error(wrong, "at", at, e)
			}
			expectRecords(t, "after an error", v, have...)
		}
	}
	// A record that another one outdates must be valid, too.
	v := build(t, grave(numbered(1)))
	if e := v.Merge([]api.Record{{Kind: api.RecordPiece, Object: numbered(1)}}); e != api.ErrArg {
		t.Error("a piece of a buried object that is not valid", e)
	}
}

// P6.3: random lists, merged one after another.
func TestMergeLikeTheModel(t *testing.T) {
	r := rand.New(rand.NewPCG(6, 3))
	for range 300 {
		v := inventory.New()
		var all []api.Record
		for range r.IntN(8) {
			list := randomRecords(r, r.IntN(40), 6)
			all = append(all, list...)
			kept := slices.Clone(list)
			merge(t, v, list...)
			if !slices.Equal(list, kept) {
				t.Fatal("the argument has changed")
			}
			clear(list) // none of it is kept
			expectRecords(t, "random", v, modelNormal(all)...)
		}
	}
}

// P6.4: the bounds that can make a difference, between few records.
func TestRange(t *testing.T) {
	records := []api.Record{base(0, 1), base(3, 1), grave(api.Digest{}), grave(numbered(1)), piece(numbered(2), 0, 1, 1, true), piece(numbered(2), 15, 1, 1, false), piece(numbered(300), 1, 1, 1, true)}
	v := build(t, records...)
	bounds := [][]byte{nil, {}, {0}, {1}, {2}, {3}, {4}, {255}, {3, 0}, {3, 1}, make([]byte, 34), make([]byte, 100)}
	for _, r := range records {
		k := modelKey(r)
		for _, s := range []string{k, k[:33], k[:20], k + "\x00", k + "a", k[:33] + "\xff", k[:33] + "\x10"} {
			bounds = append(bounds, []byte(s))
		}
	}
	for _, low := range bounds {
		for _, high := range bounds {
			want := modelRange(records, low, high)
			if got := v.Range(low, high); !slices.Equal(got, want) {
				t.Fatalf("Range(%v, %v) is %v instead of %v", low, high, got, want)
			}
			if got := inventory.New().Range(low, high); len(got) != 0 {
				t.Fatal("Range of an empty inventory", got)
			}
		}
	}
	if got := v.Range(nil, nil); !slices.Equal(got, records) {
		t.Error("the whole range", got)
	}
	if got := v.Range([]byte(modelKey(records[2])), []byte(modelKey(records[4]))); !slices.Equal(got, records[2:4]) {
		t.Error("low belongs to a range, high does not", got)
	}
}

// randomBound returns no bound, a part of a key, a key, or more than that.
func randomBound(r *rand.Rand, objects int) []byte {
	k := []byte(modelKey(randomRecord(r, objects)))
	switch r.IntN(4) {
	case 0:
		return nil
	case 1:
		return k[:r.IntN(len(k))]
	case 2:
		return append(k, 0)
	default:
		return k
	}
}

// P6.4: random records and bounds.
func TestRangeLikeTheModel(t *testing.T) {
	r := rand.New(rand.NewPCG(6, 4))
	for range 200 {
		list := randomRecords(r, r.IntN(100), 20)
		v, normal := build(t, list...), modelNormal(list)
		for range 30 {
			low, high := randomBound(r, 20), randomBound(r, 20)
			if got, want := v.Range(low, high), modelRange(normal, low, high); !slices.Equal(got, want) {
				t.Fatalf("Range(%v, %v) is %v instead of %v", low, high, got, want)
			}
		}
	}
}

// P6.5: one inventory with everything that the queries look for.
func TestQueries(t *testing.T) {
	one, two, three := numbered(1), numbered(2), numbered(3)
	p := api.Record{Kind: api.RecordPiece, Object: one, Holder: 15, Inc: 1, Num: 1, Held: true, K: 4, N: 5}
	q := api.Record{Kind: api.RecordPiece, Object: one, Holder: 3, Inc: 1, Num: 1, Held: true, K: 6, N: 7}
	not := piece(one, 0, 1, 1, false)
	v := build(t, p, q, not, piece(two, 0, 1, 1, false), piece(three, 2, 8, 1, true), base(0, 1), base(2, 8), base(15, 1), grave(numbered(4)))
	for _, want := range []api.Record{p, q, not} {
		if r, found := v.Lookup(one, want.Holder); !found || r != want {
			t.Error("Lookup", want, r, found)
		}
	}
	for _, holder := range []int{math.MinInt, -241, -1, 1, 2, 14, 16, 256, 259, 271, math.MaxInt} {
		if r, found := v.Lookup(one, holder); found || r != (api.Record{}) {
			t.Error("Lookup of no record", holder, r, found)
		}
	}
	if got := []uint64{v.Base(0), v.Base(2), v.Base(15)}; !slices.Equal(got, []uint64{1, 8, 1}) {
		t.Error("Base", got)
	}
	for _, holder := range []int{math.MinInt, -254, -1, 1, 3, 14, 16, 256, 258, math.MaxInt} {
		if got := v.Base(holder); got != 0 {
			t.Error("Base of no record", holder, got)
		}
	}
	if !v.Buried(numbered(4)) || v.Buried(one) || v.Buried(api.Digest{}) {
		t.Error("Buried")
	}
	if got := v.Objects(); !slices.Equal(got, []api.Digest{one, three}) {
		t.Error("Objects", got)
	}
	if got := v.Holders(one); !slices.Equal(got, []int{3, 15}) {
		t.Error("Holders", got)
	}
	if k, n := v.Demand(one); k != 6 || n != 7 {
		t.Error("Demand", k, n)
	}
	for _, object := range []api.Digest{two, numbered(4), numbered(5), {}} {
		if k, n := v.Demand(object); k != 0 || n != 0 || len(v.Holders(object)) != 0 {
			t.Error("an object that nobody holds", object, k, n)
		}
	}
}

// P6.5: random inventories, all objects and holders.
func TestQueriesLikeTheModel(t *testing.T) {
	r := rand.New(rand.NewPCG(6, 5))
	for range 200 {
		list := randomRecords(r, r.IntN(120), 8)
		v, normal := build(t, list...), modelNormal(list)
		var objects []api.Digest
		for i := range 10 {
			var object api.Digest // no record has it; for the last one no other number either
			if i < 9 {
				object = numbered(i)
			}
			holders, k, n := checkObject(t, v, normal, object)
			if len(holders) > 0 {
				objects = append(objects, object)
			}
			if gotK, gotN := v.Demand(object); gotK != k || gotN != n {
				t.Fatalf("Demand of %v: %d and %d instead of %d and %d", object, gotK, gotN, k, n)
			}
		}
		if got := v.Objects(); !slices.Equal(got, objects) {
			t.Fatalf("Objects: %v instead of %v", got, objects)
		}
	}
}

// checkObject checks what an inventory with these records says of one object and of the holders, and returns the holders of the object and its demand.
func checkObject(t *testing.T, v *inventory.Inventory, records []api.Record, object api.Digest) (holders []int, k, n int) {
	t.Helper()
	buried := slices.Contains(records, grave(object))
	for holder := -1; holder <= 17; holder++ {
		var inc uint64
		var want api.Record
		found := false
		for _, r := range records {
			if r.Kind == api.RecordBase && r.Holder == holder {
				inc = r.Inc
			}
			if r.Kind == api.RecordPiece && r.Object == object && r.Holder == holder {
				want, found = r, true
			}
		}
		if got := v.Base(holder); got != inc {
			t.Fatalf("Base of %d is %d instead of %d", holder, got, inc)
		}
		if got, ok := v.Lookup(object, holder); got != want || ok != found {
			t.Fatalf("Lookup of %v and %d is %v, %v", object, holder, got, ok)
		}
		if want.Held {
			holders = append(holders, holder)
			if len(holders) == 1 {
				k, n = want.K, want.N
			}
		}
	}
	if got := v.Buried(object); got != buried {
		t.Fatalf("Buried of %v is %v", object, got)
	}
	if got := v.Holders(object); !slices.Equal(got, holders) {
		t.Fatalf("Holders of %v: %v instead of %v", object, got, holders)
	}
	return holders, k, n
}

// R4: results are new memory.
func TestResultsAreNew(t *testing.T) {
	records := append([]api.Record{base(1, 1)}, pieces(20, 2)...)
	v := build(t, records...)
	clear(v.Records())
	clear(v.Range([]byte{3}, nil))
	clear(v.Objects())
	clear(v.Holders(numbered(1)))
	_ = append(v.Range(nil, []byte{2}), grave(numbered(1)))
	_ = append(v.Range([]byte{9}, nil), grave(numbered(1)))
	expectRecords(t, "after changes of results", v, records...)
	before := v.Records()
	merge(t, v, base(1, 2), grave(numbered(1)))
	if !slices.Equal(before, records) {
		t.Error("a result has changed")
	}
}

// The methods of a nil inventory.
func TestNil(t *testing.T) {
	var v *inventory.Inventory
	if e := v.Merge([]api.Record{base(1, 1)}); e != api.ErrNil {
		t.Error("Merge", e)
	}
	if e := v.Merge([]api.Record{{}}); e != api.ErrNil {
		t.Error("Merge of a record that is not valid", e)
	}
	if len(v.Records()) != 0 || len(v.Range(nil, nil)) != 0 || len(v.Range([]byte{1}, []byte{2})) != 0 {
		t.Error("Records")
	}
	if r, found := v.Lookup(numbered(1), 1); found || r != (api.Record{}) {
		t.Error("Lookup", r, found)
	}
	k, n := v.Demand(numbered(1))
	if v.Base(1) != 0 || v.Buried(numbered(1)) || len(v.Objects()) != 0 || len(v.Holders(numbered(1))) != 0 || k != 0 || n != 0 {
		t.Error("queries")
	}
	if m := v.Summary([]byte{1}, []byte{2}); !sameMessage(m, api.Message{}) {
		t.Error("Summary", m)
	}
	for _, msg := range []api.Message{{}, {Kind: api.KindSum, Count: -1}, {Kind: api.KindItems, Want: true}} {
		if l, e := v.Reply(msg); e != api.ErrNil || len(l) != 0 {
			t.Error("Reply", msg, l, e)
		}
	}
}

// shuffled returns records in another order, some of them several times.
func shuffled(r *rand.Rand, records []api.Record) []api.Record {
	list := slices.Clone(records)
	for range r.IntN(len(records) + 1) {
		list = append(list, records[r.IntN(len(records))])
	}
	r.Shuffle(len(list), func(i, j int) { list[i], list[j] = list[j], list[i] })
	return list
}

// P6.10: any order, groups and repetitions give the same content.
func TestOrderDoesNotMatter(t *testing.T) {
	r := rand.New(rand.NewPCG(6, 10))
	for range 100 {
		all := randomRecords(r, 1+r.IntN(80), 6)
		want := modelNormal(all)
		for range 5 {
			v := inventory.New()
			for list := shuffled(r, all); len(list) > 0; {
				n := 1 + r.IntN(len(list))
				merge(t, v, list[:n]...)
				list = list[n:]
			}
			expectRecords(t, "another order", v, want...)
		}
		one := inventory.New()
		for _, x := range shuffled(r, all) {
			merge(t, one, x)
		}
		expectRecords(t, "one by one", one, want...)
	}
}

// P6.10: all orders of a few records that outdate each other.
func TestAllOrders(t *testing.T) {
	all := []api.Record{piece(numbered(1), 2, 3, 7, true), piece(numbered(1), 2, 3, 7, false), piece(numbered(1), 2, 4, 1, false), base(2, 3), base(2, 4), grave(numbered(2)), piece(numbered(2), 2, 9, 1, true)}
	want := []api.Record{base(2, 4), grave(numbered(2)), piece(numbered(1), 2, 4, 1, false)}
	var try func(done, rest []api.Record)
	try = func(done, rest []api.Record) {
		if len(rest) == 0 {
			v := inventory.New()
			for _, r := range done {
				merge(t, v, r)
			}
			expectRecords(t, fmt.Sprint(done), v, want...)
		}
		for i, r := range rest {
			try(append(slices.Clone(done), r), slices.Delete(slices.Clone(rest), i, i+1))
		}
	}
	try(nil, all)
}
