package digest_test

import (
	"bytes"
	"crypto/sha256"
	"math"
	"reflect"
	"slices"
	"testing"

	"stolon/api"
	"stolon/digest"
	"stolon/rs"
)

// refPieceDigest follows the words of P2.10 with the library's SHA-256.
func refPieceDigest(high, low byte, data []byte) api.Digest {
	return sha256.Sum256(append([]byte{high, low}, data...))
}

// mustMake returns a manifest and its pieces.
func mustMake(t *testing.T, k, n, total int, data []byte) (api.Manifest, []api.Piece) {
	t.Helper()
	m, p, e := digest.Make(rs.NewField(), k, n, total, data)
	if e != api.OK {
		t.Fatal(e)
	}
	return m, p
}

// copyPieces returns some of the pieces, in new memory.
func copyPieces(all []api.Piece, numbers ...int) []api.Piece {
	var out []api.Piece
	for _, n := range numbers {
		out = append(out, api.Piece{Index: all[n].Index, Data: slices.Clone(all[n].Data)})
	}
	return out
}

// changed returns a piece with one bit of one byte changed.
func changed(p api.Piece, place int) api.Piece {
	data := slices.Clone(p.Data)
	data[place] ^= 4
	return api.Piece{Index: p.Index, Data: data}
}

// P2.7
func TestMakeExample(t *testing.T) {
	f := rs.NewField()
	m, p := mustMake(t, 2, 3, 3, []byte("ab"))
	last := []byte{f.Mul(3, 97) ^ f.Mul(2, 98)}
	want := []api.Piece{{Index: 0, Data: []byte("a")}, {Index: 1, Data: []byte("b")}, {Index: 2, Data: last}}
	if !reflect.DeepEqual(p, want) {
		t.Error(p)
	}
	if m.K != 2 || m.N != 3 || m.Total != 3 || m.Size != 2 || m.Object != api.Digest(sha256.Sum256([]byte("ab"))) {
		t.Error(m)
	}
	if b, e := digest.EncodeManifest(m); e != api.OK || len(b) != 135 || string(b[:7]) != "M\x01\x02\x03\x03\x00\x02" {
		t.Error(b, e)
	}
}

// P2.7
func TestMakeOfManyForms(t *testing.T) {
	f := rs.NewField()
	for _, c := range [][4]int{{1, 1, 1, 0}, {1, 1, 1, 8192}, {2, 3, 5, 0}, {2, 2, 5, 1}, {3, 3, 3, 100}, {4, 6, 16, 8192}, {1, 200, 255, 3}, {255, 255, 255, 8192}, {254, 254, 255, 8191}} {
		data := randomBytes(uint64(c[3]), c[3])
		m, p, e := digest.Make(f, c[0], c[1], c[2], data)
		if e != api.OK {
			t.Fatal(c, e)
		}
		pieces, _ := f.Encode(c[0], c[2], data)
		if !reflect.DeepEqual(p, pieces) {
			t.Error("pieces of", c)
		}
		want := api.Manifest{K: c[0], N: c[1], Total: c[2], Size: c[3], Object: sha256.Sum256(data)}
		for i, q := range pieces {
			want.Pieces = append(want.Pieces, refPieceDigest(0, byte(i), q.Data))
		}
		if !reflect.DeepEqual(m, want) {
			t.Error("manifest of", c)
		}
		if e := digest.CheckManifest(m); e != api.OK {
			t.Error(c, e)
		}
	}
}

// P2.7, R1
func TestMakeErrors(t *testing.T) {
	f := rs.NewField()
	long := make([]byte, 8193)
	check := func(f *rs.Field, k, n, total int, data []byte, want api.Errno) {
		t.Helper()
		m, p, e := digest.Make(f, k, n, total, data)
		if e != want || len(p) != 0 || !reflect.DeepEqual(m, api.Manifest{}) {
			t.Errorf("Make(%d, %d, %d, %d bytes): %v", k, n, total, len(data), e)
		}
	}
	check(nil, 2, 3, 3, []byte("ab"), api.ErrNil)
	check(nil, 0, 3, 3, long, api.ErrNil)
	for _, c := range [][3]int{
		{0, 3, 3}, {-1, 3, 3}, {3, 2, 3}, {2, 4, 3}, {4, 4, 3}, {1, 1, 256}, {256, 256, 256}, {1, 256, 255}, {1, 0, 1}, {0, 0, 0}, {1, 1, 0},
		{math.MinInt, 3, 3}, {1, math.MaxInt, 3}, {1, 1, math.MaxInt}, {1, math.MinInt, 3}, {1, 1, math.MinInt},
	} {
		check(f, c[0], c[1], c[2], []byte("ab"), api.ErrArg)
		check(f, c[0], c[1], c[2], long, api.ErrArg)
	}
	check(f, 2, 3, 3, long, api.ErrLong)
	check(f, 1, 1, 1, long, api.ErrLong)
}

// P2.7, R4
func TestMakeSharesNothing(t *testing.T) {
	data := []byte("some bytes")
	m, p := mustMake(t, 1, 2, 3, data)
	if string(data) != "some bytes" {
		t.Error("the argument was changed")
	}
	clear(data)
	for i := range p {
		if string(p[i].Data) != "some bytes" {
			t.Error("a piece shares memory", i)
		}
		clear(p[i].Data)
		_ = append(p[i].Data, 'X')
	}
	for i, d := range m.Pieces {
		if d != refPieceDigest(0, byte(i), []byte("some bytes")) {
			t.Error("a digest was changed", i)
		}
	}
}

// P2.10
func TestPieceDigest(t *testing.T) {
	data := randomBytes(4, 100)
	for _, c := range []struct {
		index     int
		high, low byte
	}{
		{0, 0, 0}, {1, 0, 1}, {254, 0, 254}, {255, 0, 255}, {256, 1, 0}, {258, 1, 2}, {65535, 255, 255}, {65536, 0, 0}, {65537, 0, 1}, {1 << 40, 0, 0},
		{-1, 255, 255}, {-2, 255, 254}, {-65536, 0, 0}, {-65535, 0, 1}, {math.MaxInt, 255, 255}, {math.MinInt, 0, 0},
	} {
		for _, n := range []int{0, 1, 62, 100} {
			if digest.PieceDigest(c.index, data[:n]) != refPieceDigest(c.high, c.low, data[:n]) {
				t.Errorf("PieceDigest(%d, %d bytes)", c.index, n)
			}
		}
	}
	if digest.PieceDigest(7, nil) != digest.PieceDigest(7, []byte{}) {
		t.Error("nil is not the empty list")
	}
	if !bytes.Equal(data, randomBytes(4, 100)) {
		t.Error("the argument was changed")
	}
}

// P2.10
func TestCheckPieceOfSoundPieces(t *testing.T) {
	for _, c := range [][4]int{{2, 3, 3, 2}, {1, 1, 1, 0}, {3, 4, 7, 0}, {3, 4, 7, 100}, {5, 6, 7, 8192}, {1, 255, 255, 10}} {
		m, p := mustMake(t, c[0], c[1], c[2], randomBytes(8, c[3]))
		for _, q := range p {
			if e := digest.CheckPiece(m, q); e != api.OK {
				t.Error(c, q.Index, e)
			}
		}
	}
}

// P2.10, R1
func TestCheckPieceErrors(t *testing.T) {
	m, p := mustMake(t, 2, 3, 3, []byte("abcd"))
	for _, bad := range badManifests() {
		if e := digest.CheckPiece(bad, p[0]); e != api.ErrArg {
			t.Error("manifest", bad.K, bad.N, bad.Total, bad.Size, e)
		}
	}
	for _, c := range []struct {
		name  string
		piece api.Piece
		want  api.Errno
	}{
		{"index -1", api.Piece{Index: -1, Data: p[0].Data}, api.ErrArg},
		{"index 3", api.Piece{Index: 3, Data: p[0].Data}, api.ErrArg},
		{"index 65536", api.Piece{Index: 65536, Data: p[0].Data}, api.ErrArg},
		{"least index", api.Piece{Index: math.MinInt, Data: p[0].Data}, api.ErrArg},
		{"largest index", api.Piece{Index: math.MaxInt, Data: p[0].Data}, api.ErrArg},
		{"index before length", api.Piece{Index: 3, Data: nil}, api.ErrArg},
		{"no bytes", api.Piece{Index: 0}, api.ErrShape},
		{"one byte less", api.Piece{Index: 0, Data: []byte("a")}, api.ErrShape},
		{"one byte more", api.Piece{Index: 0, Data: []byte("abc")}, api.ErrShape},
		{"another number's bytes", api.Piece{Index: 0, Data: []byte("cd")}, api.ErrSum},
		{"the right bytes under another number", api.Piece{Index: 1, Data: []byte("ab")}, api.ErrSum},
		{"first byte changed", changed(p[2], 0), api.ErrSum},
		{"last byte changed", changed(p[2], 1), api.ErrSum},
	} {
		if e := digest.CheckPiece(m, c.piece); e != c.want {
			t.Error(c.name, e)
		}
	}
	// The length of an object without bytes.
	m, _ = mustMake(t, 2, 3, 3, nil)
	if e := digest.CheckPiece(m, api.Piece{Index: 1, Data: []byte{0}}); e != api.ErrShape {
		t.Error(e)
	}
}

// subsets returns every subset of 0..n-1 with k elements, each in rising and in falling order.
func subsets(n, k int) [][]int {
	var out [][]int
	for bits := range 1 << n {
		var up []int
		for i := range n {
			if bits>>i&1 == 1 {
				up = append(up, i)
			}
		}
		if len(up) == k {
			down := slices.Clone(up)
			slices.Reverse(down)
			out = append(out, up, down)
		}
	}
	return out
}

// P2.11, P2.12: any K pieces, in any order, assemble to the object and regenerate every piece.
func TestAnyPiecesAreEnough(t *testing.T) {
	f := rs.NewField()
	for _, c := range [][4]int{{1, 1, 1, 5}, {1, 2, 3, 5}, {2, 2, 4, 0}, {2, 3, 4, 9}, {3, 4, 5, 100}, {4, 4, 4, 10}} {
		data := randomBytes(11, c[3])
		m, p := mustMake(t, c[0], c[1], c[2], data)
		for count := c[0]; count <= c[2]; count++ {
			for _, numbers := range subsets(c[2], count) {
				some := copyPieces(p, numbers...)
				if got, e := digest.Assemble(f, m, some); e != api.OK || !bytes.Equal(got, data) {
					t.Fatal(c, numbers, got, e)
				}
				for index := range c[2] {
					if got, e := digest.Regenerate(f, m, some, index); e != api.OK || got.Index != index || !bytes.Equal(got.Data, p[index].Data) {
						t.Fatal(c, numbers, index, got, e)
					}
				}
			}
		}
	}
}

// P2.11
func TestAssembleExample(t *testing.T) {
	f := rs.NewField()
	m, p := mustMake(t, 2, 3, 3, []byte("ab"))
	if data, e := digest.Assemble(f, m, copyPieces(p, 1, 2)); e != api.OK || string(data) != "ab" {
		t.Error(data, e)
	}
}

// P2.11: the largest objects.
func TestAssembleLargeObjects(t *testing.T) {
	f := rs.NewField()
	for _, c := range [][3]int{{1, 1, 1}, {4, 8, 16}, {200, 220, 255}, {255, 255, 255}} {
		data := randomBytes(12, 8192)
		m, p := mustMake(t, c[0], c[1], c[2], data)
		slices.Reverse(p)
		if got, e := digest.Assemble(f, m, p[:c[0]]); e != api.OK || !bytes.Equal(got, data) {
			t.Error(c, e)
		}
		if got, e := digest.Regenerate(f, m, p[:c[0]], 0); e != api.OK || !reflect.DeepEqual(got, p[c[2]-1]) {
			t.Error(c, e)
		}
	}
}

// pieceFault is a list of pieces that both Assemble and Regenerate refuse.
type pieceFault struct {
	name   string
	pieces []api.Piece
	want   api.Errno
}

// pieceFaults returns lists of pieces of a manifest with K 3, Total 5 and pieces of 4 bytes, by the order of their errors.
func pieceFaults(p []api.Piece) []pieceFault {
	with := func(bad api.Piece, numbers ...int) []api.Piece { return append(copyPieces(p, numbers...), bad) }
	high := api.Piece{Index: 5, Data: []byte("abcd")}
	low := api.Piece{Index: -1, Data: []byte("abcd")}
	short := api.Piece{Index: 3, Data: []byte("abc")}
	damaged := changed(p[4], 2)
	return []pieceFault{
		{"no piece", nil, api.ErrFew},
		{"an empty list", []api.Piece{}, api.ErrFew},
		{"one piece", copyPieces(p, 1), api.ErrFew},
		{"K - 1 pieces", copyPieces(p, 1, 4), api.ErrFew},
		{"too large an index", with(high, 0, 1, 2), api.ErrArg},
		{"an index below 0", with(low, 0, 1, 2), api.ErrArg},
		{"too short a piece", with(short, 0, 1, 2), api.ErrShape},
		{"a damaged piece", with(damaged, 0, 1, 2), api.ErrSum},
		{"a piece twice", with(p[1], 0, 1, 2), api.ErrTwice},
		{"an early piece twice", append(copyPieces(p, 0, 0), p[1], p[2]), api.ErrTwice},
		{"a piece twice, with others between", append(copyPieces(p, 0, 1, 2, 3, 4), p[0]), api.ErrTwice},
		{"errors before too few: index", with(high), api.ErrArg},
		{"errors before too few: length", with(short), api.ErrShape},
		{"errors before too few: digest", with(damaged), api.ErrSum},
		{"errors before too few: twice", with(p[1], 1), api.ErrTwice},
		{"a damaged copy of an earlier piece", with(changed(p[1], 0), 0, 1, 2), api.ErrSum},
		{"a shorter copy of an earlier piece", with(api.Piece{Index: 1, Data: []byte("abc")}, 0, 1, 2), api.ErrShape},
		{"the first bad piece decides: damaged, index", []api.Piece{damaged, high}, api.ErrSum},
		{"the first bad piece decides: index, damaged", []api.Piece{high, damaged}, api.ErrArg},
		{"the first bad piece decides: twice, length", []api.Piece{p[0], p[0], short}, api.ErrTwice},
		{"the first bad piece decides: length, twice", []api.Piece{p[0], short, p[0]}, api.ErrShape},
	}
}

// P2.11, P2.12, R1
func TestPieceFaults(t *testing.T) {
	f := rs.NewField()
	m, p := mustMake(t, 3, 4, 5, randomBytes(13, 12))
	for _, c := range pieceFaults(p) {
		if data, e := digest.Assemble(f, m, c.pieces); e != c.want || len(data) != 0 {
			t.Error("Assemble", c.name, data, e)
		}
		for index := range 5 {
			if q, e := digest.Regenerate(f, m, c.pieces, index); e != c.want || !reflect.DeepEqual(q, api.Piece{}) {
				t.Error("Regenerate", c.name, index, q, e)
			}
		}
	}
}

// P2.11, R1: errors before those of the pieces.
func TestAssembleErrors(t *testing.T) {
	f := rs.NewField()
	m, p := mustMake(t, 2, 3, 3, []byte("ab"))
	for _, bad := range badManifests() {
		if data, e := digest.Assemble(f, bad, p); e != api.ErrArg || len(data) != 0 {
			t.Error(bad.K, bad.N, bad.Total, bad.Size, e)
		}
		if _, e := digest.Assemble(f, bad, nil); e != api.ErrArg {
			t.Error(bad.K, bad.N, bad.Total, bad.Size, e)
		}
		if _, e := digest.Assemble(nil, bad, nil); e != api.ErrNil {
			t.Error(bad.K, bad.N, bad.Total, bad.Size, e)
		}
	}
	if data, e := digest.Assemble(nil, m, p); e != api.ErrNil || len(data) != 0 {
		t.Error(data, e)
	}
}

// P2.11: pieces whose digests are right, but that are not those of the object.
func TestAssembleChecksTheObject(t *testing.T) {
	f := rs.NewField()
	m, p := mustMake(t, 2, 3, 3, []byte("ab"))
	m.Object[31] ^= 1
	if data, e := digest.Assemble(f, m, p); e != api.ErrSum || len(data) != 0 {
		t.Error(data, e)
	}
	if _, e := digest.Assemble(f, m, p[:1]); e != api.ErrFew {
		t.Error("too few come first", e)
	}
	// The bytes of the extension are no part of the object.
	m, p = mustMake(t, 2, 3, 3, []byte("abc"))
	m.Size = 4
	if data, e := digest.Assemble(f, m, p); e != api.ErrSum || len(data) != 0 {
		t.Error(data, e)
	}
}

// P2.11: pieces after the first K are checked, but their bytes are not used.
func TestAssembleUsesTheFirstPieces(t *testing.T) {
	f := rs.NewField()
	m, p := mustMake(t, 2, 3, 3, []byte("ab"))
	other := api.Piece{Index: 2, Data: []byte("x")}
	m.Pieces[2] = digest.PieceDigest(2, other.Data)
	if data, e := digest.Assemble(f, m, []api.Piece{p[0], p[1], other}); e != api.OK || string(data) != "ab" {
		t.Error(data, e)
	}
	if data, e := digest.Assemble(f, m, []api.Piece{p[0], other, p[1]}); e != api.ErrSum || len(data) != 0 {
		t.Error(data, e)
	}
}

// P2.12, R1: errors before those of the pieces.
func TestRegenerateErrors(t *testing.T) {
	f := rs.NewField()
	m, p := mustMake(t, 2, 3, 3, []byte("ab"))
	check := func(f *rs.Field, m api.Manifest, pieces []api.Piece, index int, want api.Errno) {
		t.Helper()
		if q, e := digest.Regenerate(f, m, pieces, index); e != want || !reflect.DeepEqual(q, api.Piece{}) {
			t.Error(m.K, m.N, m.Total, m.Size, index, q, e)
		}
	}
	for _, bad := range badManifests() {
		check(f, bad, p, 0, api.ErrArg)
		check(f, bad, nil, -1, api.ErrArg)
		check(nil, bad, nil, -1, api.ErrNil)
	}
	check(nil, m, p, 0, api.ErrNil)
	for _, index := range []int{-1, 3, 4, 255, 65536, math.MaxInt, math.MinInt} {
		check(f, m, p, index, api.ErrArg)
		check(f, m, nil, index, api.ErrArg)
		check(f, m, []api.Piece{changed(p[0], 0)}, index, api.ErrArg)
		check(f, m, []api.Piece{p[0], p[0]}, index, api.ErrArg)
	}
}

// P2.12: the manifest's digest of the piece that is made decides; that of the object does not matter.
func TestRegenerateChecksThePiece(t *testing.T) {
	f := rs.NewField()
	m, p := mustMake(t, 2, 3, 3, []byte("ab"))
	m.Object[0] ^= 1
	if q, e := digest.Regenerate(f, m, p[:2], 2); e != api.OK || !reflect.DeepEqual(q, p[2]) {
		t.Error(q, e)
	}
	m.Pieces[2][5] ^= 1
	if q, e := digest.Regenerate(f, m, p[:2], 2); e != api.ErrSum || !reflect.DeepEqual(q, api.Piece{}) {
		t.Error(q, e)
	}
	if q, e := digest.Regenerate(f, m, p[:2], 1); e != api.OK || !reflect.DeepEqual(q, p[1]) {
		t.Error(q, e)
	}
	if _, e := digest.Regenerate(f, m, p[:1], 2); e != api.ErrFew {
		t.Error("too few come first", e)
	}
}

// P2.11, P2.12, R4
func TestAssembleAndRegenerateShareNothing(t *testing.T) {
	f := rs.NewField()
	m, all := mustMake(t, 2, 3, 4, []byte("abcd"))
	some := copyPieces(all, 0, 1)
	data, _ := digest.Assemble(f, m, some)
	first, _ := digest.Regenerate(f, m, some, 0)
	clear(data)
	clear(first.Data)
	if !reflect.DeepEqual(some, copyPieces(all, 0, 1)) {
		t.Error("a piece was changed")
	}
	data, _ = digest.Assemble(f, m, some)
	first, _ = digest.Regenerate(f, m, some, 0)
	clear(some[0].Data)
	if string(data) != "abcd" || string(first.Data) != "ab" {
		t.Error("a piece is kept", data, first)
	}
}
