package place_test

import (
	"bytes"
	"math"
	"math/rand/v2"
	"slices"
	"testing"

	"stolon/api"
	"stolon/digest"
	"stolon/place"
	"stolon/rs"
)

// backup is an encoded object.
type backup struct {
	data     []byte
	manifest api.Manifest
	pieces   []api.Piece
	id       api.Digest
}

// newBackup encodes an object of some size.
func newBackup(t *testing.T, k, n, total, size int) backup {
	t.Helper()
	data := make([]byte, size)
	for i := range data {
		data[i] = byte(i*7 + k + n + total)
	}
	m, pieces, e := digest.Make(rs.NewField(), k, n, total, data)
	if e != api.OK {
		t.Fatal("Make", k, n, total, size, e)
	}
	id, e := digest.ID(m)
	if e != api.OK {
		t.Fatal("ID", e)
	}
	return backup{data, m, pieces, id}
}

// copyPiece returns a piece that can be changed.
func copyPiece(p api.Piece) api.Piece { return api.Piece{Index: p.Index, Data: slices.Clone(p.Data)} }

// copyManifest returns a manifest that can be changed.
func copyManifest(m api.Manifest) api.Manifest {
	m.Pieces = slices.Clone(m.Pieces)
	return m
}

// samePiece reports whether two pieces are the same.
func samePiece(a, b api.Piece) bool { return a.Index == b.Index && bytes.Equal(a.Data, b.Data) }

// offer offers pieces that are accepted.
func (b backup) offer(t *testing.T, g *place.Gather, indices ...int) {
	t.Helper()
	for _, i := range indices {
		if e := g.Offer(b.manifest, b.pieces[i]); e != api.OK {
			t.Fatal("Offer", i, e)
		}
	}
}

// expectGather checks everything that a Gather of an object says, after the pieces with these numbers were added.
func (b backup) expectGather(t *testing.T, name string, g *place.Gather, indices ...int) {
	t.Helper()
	f := rs.NewField()
	ready := len(indices) >= b.manifest.K
	if g.Ready() != ready {
		t.Error(name, "Ready", !ready)
	}
	if got := g.Indices(); !slices.Equal(got, indices) {
		t.Error(name, "Indices", got, indices)
	}
	m, ok := g.Manifest()
	var want api.Manifest
	if len(indices) > 0 {
		want = b.manifest
	}
	if ok != (len(indices) > 0) || !sameManifest(m, want) {
		t.Error(name, "Manifest", m, ok)
	}
	data, e := g.Data(f)
	if ready && (e != api.OK || !bytes.Equal(data, b.data)) || !ready && (e != api.ErrFew || len(data) != 0) {
		t.Error(name, "Data", data, e)
	}
	for i := range b.pieces {
		p, e := g.Piece(f, i)
		if ready && (e != api.OK || !samePiece(p, b.pieces[i])) || !ready && (e != api.ErrFew || !samePiece(p, api.Piece{})) {
			t.Error(name, "Piece", i, p, e)
		}
	}
}

// sameManifest reports whether two manifests are the same.
func sameManifest(a, b api.Manifest) bool {
	pieces := slices.Equal(a.Pieces, b.Pieces)
	return pieces && a.K == b.K && a.N == b.N && a.Total == b.Total && a.Size == b.Size && a.Object == b.Object
}

// P7.8, P7.9, P7.10: objects of many shapes, of which some K pieces are offered, one after another.
func TestGather(t *testing.T) {
	r := rand.New(rand.NewPCG(7, 8))
	for _, c := range [][4]int{{1, 1, 1, 0}, {1, 1, 1, 3}, {1, 2, 3, 5}, {2, 3, 4, 0}, {2, 2, 2, 1}, {2, 3, 4, 5}, {3, 3, 16, 100}, {16, 16, 16, 500}, {5, 8, 12, 8192}, {20, 25, 30, 7}, {255, 255, 255, 300}} {
		b := newBackup(t, c[0], c[1], c[2], c[3])
		g := place.NewGather(b.id)
		order := r.Perm(c[2])
		full := c[2] <= 30 // the whole check after each piece
		b.expectGather(t, "new", g)
		for i := range c[0] {
			b.offer(t, g, order[i])
			if full || i == c[0]-1 {
				b.expectGather(t, "some pieces", g, order[:i+1]...)
			}
		}
		for i, index := range order {
			want := api.ErrTwice
			if i >= c[0] {
				want = api.ErrFull
			}
			if e := g.Offer(b.manifest, b.pieces[index]); e != want {
				t.Error("a piece too many", c, i, e)
			}
		}
		b.expectGather(t, "ready", g, order[:c[0]]...)
	}
}

// P7.8: example 4 of the chapter, and a piece that comes twice before the Gather is ready.
func TestOfferTwice(t *testing.T) {
	b := newBackup(t, 2, 3, 4, 9)
	g := place.NewGather(b.id)
	b.offer(t, g, 2)
	if e := g.Offer(b.manifest, b.pieces[2]); e != api.ErrTwice {
		t.Error("twice", e)
	}
	b.expectGather(t, "twice", g, 2)
	b.offer(t, g, 0)
	for i, want := range []api.Errno{api.ErrTwice, api.ErrFull, api.ErrTwice, api.ErrFull} {
		if e := g.Offer(b.manifest, b.pieces[i]); e != want {
			t.Error("a ready Gather", i, e)
		}
	}
	b.expectGather(t, "ready", g, 2, 0)
}

// wrongManifests returns manifests that are not valid, made from a valid one with more than one piece.
func wrongManifests(m api.Manifest) []api.Manifest {
	var list []api.Manifest
	add := func(change func(m *api.Manifest)) {
		wrong := copyManifest(m)
		change(&wrong)
		list = append(list, wrong)
	}
	add(func(m *api.Manifest) { *m = api.Manifest{} })
	add(func(m *api.Manifest) { m.K = 0 })
	add(func(m *api.Manifest) { m.K = -1 })
	add(func(m *api.Manifest) { m.K = m.N + 1 })
	add(func(m *api.Manifest) { m.N = m.Total + 1 })
	add(func(m *api.Manifest) { m.N = m.K - 1 })
	add(func(m *api.Manifest) { m.Total++ })
	add(func(m *api.Manifest) { m.Total = 256; m.Pieces = make([]api.Digest, 256) })
	add(func(m *api.Manifest) { m.Size = -1 })
	add(func(m *api.Manifest) { m.Size = 8193 })
	add(func(m *api.Manifest) { m.K += 256 })
	add(func(m *api.Manifest) { m.Size += 65536 })
	add(func(m *api.Manifest) { m.Pieces = m.Pieces[1:] })
	add(func(m *api.Manifest) { m.Pieces = append(m.Pieces, api.Digest{}) })
	add(func(m *api.Manifest) { m.Pieces = nil })
	return list
}

// otherManifests returns valid manifests of other ids, to which the pieces of a valid one belong as well, made from one with 2 <= K < N < Total.
func otherManifests(m api.Manifest) []api.Manifest {
	var list []api.Manifest
	add := func(change func(m *api.Manifest)) {
		other := copyManifest(m)
		change(&other)
		list = append(list, other)
	}
	add(func(m *api.Manifest) { m.N++ })
	add(func(m *api.Manifest) { m.N-- })
	add(func(m *api.Manifest) { m.Total++; m.Pieces = append(m.Pieces, api.Digest{}) })
	add(func(m *api.Manifest) { m.Object[31]++ })
	add(func(m *api.Manifest) { m.Pieces[0][0]++ })
	add(func(m *api.Manifest) { m.Size-- })
	return list
}

// wrongPieces returns pieces that do not belong to an object, with the errors.
func wrongPieces(b backup) map[api.Errno][]api.Piece {
	p, last := b.pieces[1], b.manifest.Total
	changed, longer := copyPiece(p), copyPiece(p)
	changed.Data[len(changed.Data)-1] ^= 1
	longer.Data = append(longer.Data, 0)
	return map[api.Errno][]api.Piece{
		api.ErrArg: {
			{Index: -1, Data: p.Data}, {Index: last, Data: p.Data}, {Index: math.MinInt, Data: p.Data}, {Index: math.MaxInt},
			{Index: 65536 + p.Index, Data: p.Data}, {Index: p.Index - 65536, Data: p.Data}, {Index: last + 1, Data: longer.Data},
		},
		api.ErrShape: {{Index: p.Index}, {Index: p.Index, Data: p.Data[1:]}, longer, {Index: 0, Data: make([]byte, 9000)}},
		api.ErrSum:   {changed, {Index: 0, Data: p.Data}, {Index: p.Index, Data: b.pieces[0].Data}},
	}
}

// P7.8: the errors of Offer and their order, with no pieces, with one of them, and with all that are needed.
func TestOfferErrors(t *testing.T) {
	b := newBackup(t, 2, 3, 5, 10)
	for _, have := range [][]int{nil, {1}, {1, 3}, {0, 4}} {
		g := place.NewGather(b.id)
		b.offer(t, g, have...)
		refuse := func(name string, want api.Errno, m api.Manifest, p api.Piece) {
			t.Helper()
			if e := g.Offer(m, p); e != want {
				t.Error(name, have, m, p, e)
			}
			b.expectGather(t, name, g, have...)
		}
		wrong := wrongPieces(b)
		for _, m := range wrongManifests(b.manifest) {
			refuse("a manifest that is not valid", api.ErrArg, m, b.pieces[1])
			refuse("a manifest that is not valid", api.ErrArg, m, wrong[api.ErrShape][0])
			refuse("a manifest that is not valid", api.ErrArg, m, wrong[api.ErrSum][0])
		}
		for _, m := range otherManifests(b.manifest) {
			refuse("another id", api.ErrSum, m, b.pieces[1])
			refuse("another id", api.ErrSum, m, b.pieces[2])
			refuse("another id", api.ErrSum, m, wrong[api.ErrArg][0])
			refuse("another id", api.ErrSum, m, wrong[api.ErrShape][0])
		}
		for want, pieces := range wrong {
			for _, p := range pieces {
				refuse("a wrong piece", want, b.manifest, p)
			}
		}
	}
}

// P7.8: pieces of other objects, which are right with their own manifests.
func TestOfferOtherObjects(t *testing.T) {
	b, other := newBackup(t, 2, 3, 5, 10), newBackup(t, 2, 3, 5, 11)
	g := place.NewGather(b.id)
	if e := g.Offer(other.manifest, other.pieces[0]); e != api.ErrSum {
		t.Error("another object", e)
	}
	if e := g.Offer(b.manifest, other.pieces[0]); e != api.ErrShape {
		t.Error("a piece of another object", e)
	}
	b.offer(t, g, 0)
	if e := g.Offer(other.manifest, other.pieces[1]); e != api.ErrSum {
		t.Error("another object after a piece", e)
	}
	b.expectGather(t, "other objects", g, 0)
	for _, id := range []api.Digest{{}, b.manifest.Object, other.id} {
		g := place.NewGather(id)
		if e := g.Offer(b.manifest, b.pieces[0]); e != api.ErrSum {
			t.Error("a Gather of another object", e)
		}
	}
}

// P7.10: the errors of Data and Piece and their order.
func TestGatherErrors(t *testing.T) {
	b := newBackup(t, 2, 3, 5, 10)
	g := place.NewGather(b.id)
	f := rs.NewField()
	for _, have := range []int{4, 2} {
		for _, x := range []struct {
			f     *rs.Field
			index int
		}{{nil, 0}, {nil, -1}, {f, -1}, {f, 5}, {f, 0}} {
			if p, e := g.Piece(x.f, x.index); e != api.ErrFew || !samePiece(p, api.Piece{}) {
				t.Error("Piece of too few", x, p, e)
			}
			if data, e := g.Data(x.f); e != api.ErrFew || len(data) != 0 {
				t.Error("Data of too few", data, e)
			}
		}
		b.offer(t, g, have)
	}
	if data, e := g.Data(nil); e != api.ErrNil || len(data) != 0 {
		t.Error("Data without a Field", data, e)
	}
	for _, index := range []int{0, -1, 5} {
		if p, e := g.Piece(nil, index); e != api.ErrNil || !samePiece(p, api.Piece{}) {
			t.Error("Piece without a Field", p, e)
		}
	}
	for _, index := range []int{-1, 5, 6, 256, 65536, math.MinInt, math.MaxInt} {
		if p, e := g.Piece(f, index); e != api.ErrArg || !samePiece(p, api.Piece{}) {
			t.Error("Piece of a wrong number", index, p, e)
		}
	}
	if data, e := g.Data(new(rs.Field)); e != api.OK || !bytes.Equal(data, b.data) {
		t.Error("Data with a new Field", data, e)
	}
	b.expectGather(t, "after errors", g, 4, 2)
}

// P7.10: a manifest whose digests do not fit together: its pieces are right one by one, but the object or the other pieces are not.
func TestGatherOfInconsistentManifest(t *testing.T) {
	b := newBackup(t, 2, 3, 5, 10)
	m := copyManifest(b.manifest)
	m.Object[7]++
	m.Pieces[3][7]++
	id, _ := digest.ID(m)
	g := place.NewGather(id)
	for _, i := range []int{0, 4} {
		if e := g.Offer(m, b.pieces[i]); e != api.OK {
			t.Fatal("Offer", e)
		}
	}
	f := rs.NewField()
	if data, e := g.Data(f); e != api.ErrSum || len(data) != 0 {
		t.Error("Data", data, e)
	}
	if p, e := g.Piece(f, 3); e != api.ErrSum || !samePiece(p, api.Piece{}) {
		t.Error("Piece 3", p, e)
	}
	if p, e := g.Piece(f, 2); e != api.OK || !samePiece(p, b.pieces[2]) {
		t.Error("Piece 2", p, e)
	}
	if !g.Ready() || !slices.Equal(g.Indices(), []int{0, 4}) {
		t.Error("after errors", g.Indices())
	}
}

// P7.10: any K pieces of an object are enough, in any order.
func TestGatherAnyPieces(t *testing.T) {
	b := newBackup(t, 3, 4, 6, 20)
	for i := range 6 {
		for j := range 6 {
			for k := range 6 {
				if i == j || j == k || i == k {
					continue
				}
				g := place.NewGather(b.id)
				b.offer(t, g, i, j, k)
				b.expectGather(t, "three pieces", g, i, j, k)
			}
		}
	}
}

// R4: neither arguments nor results share memory with a Gather, and arguments are not changed.
func TestGatherMemory(t *testing.T) {
	b := newBackup(t, 2, 3, 4, 9)
	f := rs.NewField()
	g := place.NewGather(b.id)
	for _, i := range []int{3, 0} {
		m, p := copyManifest(b.manifest), copyPiece(b.pieces[i])
		if e := g.Offer(m, p); e != api.OK {
			t.Fatal("Offer", e)
		}
		if !sameManifest(m, b.manifest) || !samePiece(p, b.pieces[i]) {
			t.Error("an argument has changed")
		}
		clear(m.Pieces)
		clear(p.Data)
		_ = append(p.Data, 1)
	}
	b.expectGather(t, "changed arguments", g, 3, 0)
	m, _ := g.Manifest()
	clear(m.Pieces)
	clear(g.Indices())
	data, _ := g.Data(f)
	clear(data)
	for i := range 4 {
		p, _ := g.Piece(f, i)
		clear(p.Data)
	}
	b.expectGather(t, "changed results", g, 3, 0)
	first, _ := g.Manifest()
	second, _ := g.Manifest()
	clear(first.Pieces)
	if !sameManifest(second, b.manifest) {
		t.Error("two results share memory")
	}
}

// P2: two Gathers have nothing in common.
func TestGathersAreApart(t *testing.T) {
	b := newBackup(t, 2, 3, 4, 9)
	one, two := place.NewGather(b.id), place.NewGather(b.id)
	b.offer(t, one, 1)
	b.expectGather(t, "the other one", two)
	b.offer(t, two, 1, 2)
	b.expectGather(t, "the first one", one, 1)
}

// The methods of a nil Gather.
func TestNilGather(t *testing.T) {
	b := newBackup(t, 1, 1, 1, 3)
	f := rs.NewField()
	var g *place.Gather
	if e := g.Offer(b.manifest, b.pieces[0]); e != api.ErrNil {
		t.Error("Offer", e)
	}
	if e := g.Offer(api.Manifest{}, api.Piece{}); e != api.ErrNil {
		t.Error("Offer with a manifest that is not valid", e)
	}
	if m, ok := g.Manifest(); g.Ready() || ok || !sameManifest(m, api.Manifest{}) || len(g.Indices()) != 0 {
		t.Error("Ready, Manifest or Indices")
	}
	if data, e := g.Data(f); e != api.ErrNil || len(data) != 0 {
		t.Error("Data", data, e)
	}
	if p, e := g.Piece(f, 0); e != api.ErrNil || !samePiece(p, api.Piece{}) {
		t.Error("Piece", p, e)
	}
	if data, e := g.Data(nil); e != api.ErrNil || len(data) != 0 {
		t.Error("Data without a Field", data, e)
	}
	if place.NewGather(api.Digest{}) == nil {
		t.Error("NewGather returns nil")
	}
}
