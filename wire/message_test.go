package wire_test

import (
	"math/rand/v2"
	"testing"

	"stolon/api"
	"stolon/wire"
)

// everything returns a message that is not valid, all of whose fields have values.
func everything() api.Message {
	return api.Message{
		Kind: 200, From: -5, To: 99, Seq: 1, Origin: 300, Target: -1, Table: []api.Member{{Inc: 1}, {Status: 9}},
		Low: make([]byte, 50), High: []byte{1}, Count: -7, Root: api.Digest{2}, Records: []api.Record{{}, {Kind: 9, Holder: -1, K: 3, Held: true}}, Want: true,
		Object: api.Digest{3}, Manifest: api.Manifest{K: -1, N: 2, Total: 1, Size: -2, Object: api.Digest{4}, Pieces: []api.Digest{{5}, {6}}},
		Piece: api.Piece{Index: -3, Data: []byte{7, 8}}, Code: -9,
	}
}

// expectEqual checks Equal of two messages, both ways.
func expectEqual(t *testing.T, name string, a, b api.Message, want bool) {
	t.Helper()
	if wire.Equal(a, b) != want || wire.Equal(b, a) != want {
		t.Errorf("%s: Equal of %v and %v is not %v", name, a, b, want)
	}
}

// samples returns messages, valid and not.
func samples() []api.Message {
	list := []api.Message{{}, everything()}
	for _, kind := range kinds() {
		list = append(list, small(kind))
	}
	return list
}

// P8.4: each field alone makes a difference.
func TestEqual(t *testing.T) {
	for i, a := range samples() {
		for j, b := range samples() {
			expectEqual(t, "samples", a, b, i == j)
		}
		for _, c := range changes() {
			expectEqual(t, c.field, a, changed(a, c.change), false)
		}
	}
}

// P8.4: what the fields of fields contain.
func TestEqualInside(t *testing.T) {
	a := everything()
	differs := func(name string, change func(m *api.Message)) {
		t.Helper()
		expectEqual(t, name, a, changed(a, change), false)
	}
	differs("Inc", func(m *api.Message) { m.Table[1].Inc++ })
	differs("Status", func(m *api.Message) { m.Table[0].Status++ })
	differs("a shorter table", func(m *api.Message) { m.Table = m.Table[:1] })
	differs("no table", func(m *api.Message) { m.Table = nil })
	differs("another order", func(m *api.Message) { m.Table[0], m.Table[1] = m.Table[1], m.Table[0] })
	differs("Low", func(m *api.Message) { m.Low[49]++ })
	differs("a shorter Low", func(m *api.Message) { m.Low = m.Low[:49] })
	differs("High", func(m *api.Message) { m.High[0]++ })
	differs("no High", func(m *api.Message) { m.High = nil })
	differs("bounds exchanged", func(m *api.Message) { m.Low, m.High = m.High, m.Low })
	differs("a record's Kind", func(m *api.Message) { m.Records[0].Kind++ })
	differs("a record's Object", func(m *api.Message) { m.Records[0].Object[31]++ })
	differs("a record's Holder", func(m *api.Message) { m.Records[1].Holder++ })
	differs("a record's Inc", func(m *api.Message) { m.Records[1].Inc++ })
	differs("a record's Num", func(m *api.Message) { m.Records[1].Num++ })
	differs("a record's Held", func(m *api.Message) { m.Records[1].Held = false })
	differs("a record's K", func(m *api.Message) { m.Records[1].K++ })
	differs("a record's N", func(m *api.Message) { m.Records[1].N++ })
	differs("fewer records", func(m *api.Message) { m.Records = m.Records[:1] })
	differs("a manifest's pieces", func(m *api.Message) { m.Manifest.Pieces[1][31]++ })
	differs("fewer pieces of a manifest", func(m *api.Message) { m.Manifest.Pieces = m.Manifest.Pieces[:1] })
	differs("a manifest's object as the Object", func(m *api.Message) { m.Manifest.Object, m.Object = m.Object, m.Manifest.Object })
	differs("data", func(m *api.Message) { m.Piece.Data[1]++ })
	differs("less data", func(m *api.Message) { m.Piece.Data = m.Piece.Data[:1] })
	differs("From and To exchanged", func(m *api.Message) { m.From, m.To = m.To, m.From })
	differs("Origin and Target exchanged", func(m *api.Message) { m.Origin, m.Target = m.Target, m.Origin })
	differs("Root and Object exchanged", func(m *api.Message) { m.Root, m.Object = m.Object, m.Root })
}

// P8.4, R3: a nil slice and an empty one are the same.
func TestEqualOfEmptySlices(t *testing.T) {
	for _, a := range samples() {
		a.Table, a.Low, a.High, a.Records, a.Manifest.Pieces, a.Piece.Data = nil, nil, nil, nil, nil, nil
		for _, empty := range []func(m *api.Message){
			func(m *api.Message) { m.Table = []api.Member{} },
			func(m *api.Message) { m.Low = []byte{} },
			func(m *api.Message) { m.High = []byte{} },
			func(m *api.Message) { m.Records = []api.Record{} },
			func(m *api.Message) { m.Manifest.Pieces = []api.Digest{} },
			func(m *api.Message) { m.Piece.Data = []byte{} },
			func(m *api.Message) { m.Low, m.High, m.Piece.Data = make([]byte, 0, 9), []byte{}, []byte{} },
		} {
			b := changed(a, empty)
			expectEqual(t, "an empty slice", a, b, true)
			if c := wire.Clone(b); !same(b, c) {
				t.Error("Clone of empty slices", b, c)
			}
		}
	}
}

// P8.4, R4: a clone is equal, and shares no memory.
func TestClone(t *testing.T) {
	r := rand.New(rand.NewPCG(8, 6))
	list := samples()
	for range 100 {
		list = append(list, randomMessage(r, api.Kind(1+r.IntN(int(lastKind)))))
	}
	for _, m := range list {
		kept := plain(m)
		c := wire.Clone(m)
		if !same(m, kept) || !same(c, kept) || !wire.Equal(m, c) || !wire.Equal(c, m) {
			t.Fatal("Clone of", kept, "is", c)
		}
		spoil(&c)
		if !same(m, kept) {
			t.Fatal("the argument shares memory with its clone", kept, m)
		}
		c = wire.Clone(m)
		spoil(&m)
		if !same(c, kept) {
			t.Fatal("the clone shares memory with its argument", kept, c)
		}
	}
}

// P8.4: Equal does not change what it compares.
func TestEqualChangesNothing(t *testing.T) {
	for _, m := range samples() {
		kept := plain(m)
		wire.Equal(m, everything())
		wire.Equal(m, m)
		if !same(m, kept) {
			t.Error("the argument has changed", kept, m)
		}
	}
}
