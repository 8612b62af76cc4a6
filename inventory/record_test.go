package inventory_test

import (
	"bytes"
	"math"
	"math/rand/v2"
	"slices"
	"testing"

	"stolon/api"
	"stolon/inventory"
)

// combinations calls a function with records of all combinations of ordinary, greatest, smallest and wrong values.
func combinations(visit func(r api.Record)) {
	for _, kind := range []api.RecordKind{0, 1, 2, 3, 4, 255} {
		for _, object := range []api.Digest{{}, {1}, {31: 1}} {
			for _, holder := range []int{math.MinInt, -1, 0, 1, 15, 16, 255, 256, 258, math.MaxInt} {
				for _, inc := range []uint64{0, 1, math.MaxUint64} {
					for _, num := range []uint64{0, 1, math.MaxUint64} {
						for _, k := range []int{math.MinInt, -1, 0, 1, 2, 255, 256, 257} {
							for _, n := range []int{-1, 0, 1, 2, 255, 256, math.MaxInt} {
								r := api.Record{Kind: kind, Object: object, Holder: holder, Inc: inc, Num: num, K: k, N: n}
								visit(r)
								r.Held = true
								visit(r)
							}
						}
					}
				}
			}
		}
	}
}

// P6.1, P6.2: every field with every kind of value.
func TestValidKeyAndEncode(t *testing.T) {
	valid := 0
	combinations(func(r api.Record) {
		k, e := inventory.Key(r)
		b, f := inventory.EncodeRecord(r)
		if !modelValid(r) {
			if inventory.Valid(r) || e != api.ErrArg || len(k) != 0 || f != api.ErrArg || len(b) != 0 {
				t.Fatal("not valid:", r, k, e, b, f)
			}
			return
		}
		valid++
		if !inventory.Valid(r) || e != api.OK || string(k) != modelKey(r) || f != api.OK || !bytes.Equal(b, modelBytes(r)) {
			t.Fatal("valid:", r, k, e, b, f)
		}
		if back, e := inventory.DecodeRecord(b); e != api.OK || back != r {
			t.Fatal("DecodeRecord", r, back, e)
		}
	})
	if valid != 6+3+432 { // bases, graves and pieces
		t.Error(valid, "valid records")
	}
}

// P6.1: each field of each kind, as the chapter lists them.
func TestValidFields(t *testing.T) {
	for _, r := range []api.Record{
		base(0, 1), base(15, math.MaxUint64), grave(api.Digest{}), grave(numbered(1)), piece(api.Digest{}, 0, 1, 1, false),
		{Kind: 3, Holder: 15, Inc: math.MaxUint64, Num: math.MaxUint64, Held: true, K: 255, N: 255}, {Kind: 3, Inc: 1, Num: 1, K: 1, N: 255}, {Kind: 3, Inc: 1, Num: 1, K: 1, N: 1},
	} {
		if !inventory.Valid(r) {
			t.Error("not valid:", r)
		}
	}
	for _, r := range slices.Concat(someInvalid(), []api.Record{
		{Kind: 1, Holder: 1, Inc: 1, Num: 1}, {Kind: 1, Holder: 1, Inc: 1, Held: true}, {Kind: 1, Holder: 1, Inc: 1, K: 1}, {Kind: 1, Holder: 1, Inc: 1, N: 1}, {Kind: 1, Holder: -1, Inc: 1},
		{Kind: 2, Num: 1}, {Kind: 2, Held: true}, {Kind: 2, K: 1}, {Kind: 2, N: 1}, {Kind: 2, K: 1, N: 1},
		{Kind: 3, Holder: 16, Inc: 1, Num: 1, K: 1, N: 1}, {Kind: 3, Num: 1, K: 1, N: 1}, {Kind: 3, Inc: 1, Num: 1, N: 1}, {Kind: 3, Inc: 1, Num: 1}, {Kind: 3, Inc: 1, Num: 1, K: 2, N: 1},
	}) {
		if inventory.Valid(r) {
			t.Error("valid:", r)
		}
	}
}

// P6.1: all pairs of piece records with one key.
func TestNewer(t *testing.T) {
	var list []api.Record // each one is newer than those before it
	for _, inc := range []uint64{1, 2, 256, math.MaxUint64} {
		for _, num := range []uint64{1, 2, 1 << 63, math.MaxUint64} {
			for _, held := range []bool{false, true} {
				for _, k := range []int{1, 2, 254, 255} {
					for _, n := range []int{1, 2, 3, 255} {
						if k <= n {
							list = append(list, api.Record{Kind: 3, Object: numbered(1), Holder: 4, Inc: inc, Num: num, Held: held, K: k, N: n})
						}
					}
				}
			}
		}
	}
	for i, a := range list {
		for j, b := range list {
			if got := inventory.Newer(a, b); got != (i > j) {
				t.Fatalf("Newer(%v, %v) is %v", a, b, got)
			}
		}
	}
	if !inventory.Newer(base(3, 2), base(3, 1)) || inventory.Newer(base(3, 1), base(3, 2)) || inventory.Newer(base(3, 2), base(3, 2)) {
		t.Error("bases")
	}
	if inventory.Newer(grave(numbered(1)), grave(numbered(1))) {
		t.Error("graves")
	}
}

// P6.1: records with different keys, and records that are not valid.
func TestNewerOfOthers(t *testing.T) {
	never := func(a, b api.Record) {
		t.Helper()
		if inventory.Newer(a, b) || inventory.Newer(b, a) {
			t.Error(a, b)
		}
	}
	p := piece(numbered(1), 2, 3, 4, true)
	never(p, piece(numbered(1), 3, 1, 1, false))
	never(p, piece(numbered(2), 2, 1, 1, false))
	never(p, grave(numbered(1)))
	never(p, base(2, 1))
	never(base(1, 1), base(2, 2))
	never(grave(numbered(1)), grave(numbered(2)))
	never(base(0, 1), grave(api.Digest{}))
	for _, r := range someInvalid() {
		older, newer := r, r
		older.Inc, newer.Inc = 1, math.MaxUint64
		never(older, r)
		never(newer, r)
		never(r, p)
		never(r, api.Record{})
	}
	wrong := p
	wrong.Inc, wrong.K = 9, 0
	never(wrong, p)
	wrong = p
	wrong.Inc, wrong.Holder = 9, p.Holder+256 // whose byte in a key would be the same
	never(wrong, p)
}

// P6.2: the errors of DecodeRecord, in their order.
func TestDecodeErrors(t *testing.T) {
	good := modelBytes(piece(numbered(1), 2, 3, 4, true))
	edit := func(at int, to byte) []byte {
		b := bytes.Clone(good)
		b[at] = to
		return b
	}
	expect := func(name string, b []byte, want api.Errno) {
		t.Helper()
		if r, e := inventory.DecodeRecord(b); e != want || r != (api.Record{}) {
			t.Error(name, r, e)
		}
	}
	expect("no bytes", nil, api.ErrShort)
	for n := range 53 {
		expect("too few bytes", good[:n], api.ErrShort)
		expect("too few bytes of nothing", make([]byte, n), api.ErrShort)
	}
	for n := 1; n < 100; n++ {
		expect("too many bytes", append(bytes.Clone(good), make([]byte, n)...), api.ErrLong)
		expect("too many bytes of another form", append(edit(50, 2), make([]byte, n)...), api.ErrLong)
	}
	for held := 2; held < 256; held++ {
		expect("the byte of Held", edit(50, byte(held)), api.ErrForm)
		b := edit(50, byte(held))
		b[0] = 9
		expect("the byte of Held of a record that is not valid", b, api.ErrForm)
	}
	expect("an unknown kind", edit(0, 4), api.ErrArg)
	expect("a holder", edit(33, 16), api.ErrArg)
	expect("Inc", edit(41, 0), api.ErrArg)
	expect("Num", edit(49, 0), api.ErrArg)
	expect("K is 0", edit(51, 0), api.ErrArg)
	expect("K above N", edit(51, 4), api.ErrArg)
	expect("a base with all fields", edit(0, 1), api.ErrArg)
	expect("a grave with all fields", edit(0, 2), api.ErrArg)
	expect("zeros", make([]byte, 53), api.ErrArg)
}

// P6.2: the bytes that are accepted are those of the record that is returned.
func TestDecodeOfChangedBytes(t *testing.T) {
	r := rand.New(rand.NewPCG(6, 2))
	accepted := 0
	for range 20000 {
		b := modelBytes(randomRecord(r, 3))
		for range r.IntN(3) {
			b[r.IntN(len(b))] = byte(r.IntN(4))
		}
		kept := bytes.Clone(b)
		got, e := inventory.DecodeRecord(b)
		if !bytes.Equal(b, kept) {
			t.Fatal("the argument has changed")
		}
		switch {
		case e == api.OK && modelValid(got) && bytes.Equal(modelBytes(got), b):
			accepted++
		case e == api.ErrForm && b[50] > 1 && got == api.Record{}:
		case e == api.ErrArg && b[50] <= 1 && got == api.Record{}:
		default:
			t.Fatal(b, got, e)
		}
	}
	if accepted < 1000 {
		t.Error("only", accepted, "accepted")
	}
}

// R4: what is written into a result changes no other one.
func TestRecordBytesAreNew(t *testing.T) {
	p := piece(numbered(1), 2, 3, 4, true)
	k, _ := inventory.Key(p)
	b, _ := inventory.EncodeRecord(p)
	clear(k)
	clear(b)
	if k, _ := inventory.Key(p); string(k) != modelKey(p) {
		t.Error("Key", k)
	}
	if b, _ := inventory.EncodeRecord(p); !bytes.Equal(b, modelBytes(p)) {
		t.Error("EncodeRecord", b)
	}
}
