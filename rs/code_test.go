package rs_test

import (
	"math"
	"slices"
	"testing"

	"stolon/api"
	"stolon/rs"
)

// examplePieces returns pieces of the encoding of 16, 32, 48 with K 2 and Total 3, as the chapter writes them.
func examplePieces(numbers ...int) []api.Piece {
	all := [][]byte{{16, 32}, {48, 0}, {80, 96}}
	var out []api.Piece
	for _, n := range numbers {
		out = append(out, api.Piece{Index: n, Data: all[n]})
	}
	return out
}

// badCodes returns pairs of k and total that no code has.
func badCodes() [][2]int {
	return [][2]int{{0, 0}, {0, 3}, {-1, 3}, {4, 3}, {1, 0}, {1, -1}, {1, 256}, {256, 256}, {256, 255}, {math.MinInt, 3}, {1, math.MaxInt}, {math.MaxInt, math.MaxInt}}
}

// P1.12
func TestPieceSizeIsTheSmallest(t *testing.T) {
	for k := 1; k <= 255; k++ {
		for size := 0; size <= 8192; size++ {
			l, e := rs.PieceSize(k, size)
			if e != api.OK || k*l < size || l > 0 && k*(l-1) >= size || l < 0 {
				t.Fatalf("PieceSize(%d, %d) = %d, %v", k, size, l, e)
			}
		}
	}
	for _, c := range [][3]int{{3, 7, 3}, {3, 6, 2}, {5, 0, 0}, {1, 8192, 8192}, {255, 8192, 33}, {255, 1, 1}} {
		if l, e := rs.PieceSize(c[0], c[1]); e != api.OK || l != c[2] {
			t.Errorf("PieceSize(%d, %d) = %d, %v", c[0], c[1], l, e)
		}
	}
}

// P1.12
func TestPieceSizeErrors(t *testing.T) {
	for _, c := range [][2]int{{0, 7}, {-1, 7}, {256, 7}, {3, -1}, {3, 8193}, {0, -1}, {math.MaxInt, math.MaxInt}, {math.MinInt, math.MinInt}, {1, math.MaxInt}} {
		if l, e := rs.PieceSize(c[0], c[1]); e != api.ErrArg || l != 0 {
			t.Errorf("PieceSize(%d, %d) = %d, %v", c[0], c[1], l, e)
		}
	}
}

// P1.13
func TestEncodeExample(t *testing.T) {
	p := mustEncode(t, 2, 3, []byte{16, 32, 48})
	if len(p) != 3 {
		t.Fatal(p)
	}
	for i, want := range examplePieces(0, 1, 2) {
		if !samePiece(p[i], want) {
			t.Errorf("piece %d: %v", i, p[i])
		}
	}
}

// P1.13
func TestEncodeFollowsTheDefinition(t *testing.T) {
	r := newRand()
	for _, c := range [][2]int{{1, 1}, {1, 4}, {2, 2}, {2, 5}, {3, 7}, {7, 16}, {16, 16}} {
		k, total := c[0], c[1]
		for _, size := range []int{0, 1, k - 1, k, k + 1, 2*k - 1, 2 * k, 5*k + 3} {
			data := randomBytes(r, size)
			p := mustEncode(t, k, total, data)
			if len(p) != total {
				t.Fatalf("%v, %d bytes: %d pieces", c, size, len(p))
			}
			for i := range total {
				if want := (api.Piece{Index: i, Data: refPiece(k, data, i)}); !samePiece(p[i], want) {
					t.Errorf("%v, %d bytes: piece %v, not %v", c, size, p[i], want)
				}
			}
		}
	}
}

// P1.13: the greatest codes and objects; the pieces are the rows of the generator times the first k pieces.
func TestEncodeOfTheGreatest(t *testing.T) {
	f := rs.NewField()
	r := newRand()
	for _, c := range [][3]int{{1, 255, 8192}, {255, 255, 8192}, {128, 255, 8192}, {254, 255, 300}, {255, 255, 1}, {200, 255, 0}} {
		k, total, size := c[0], c[1], c[2]
		data := randomBytes(r, size)
		p := mustEncode(t, k, total, data)
		l, _ := rs.PieceSize(k, size)
		if len(p) != total {
			t.Fatalf("%v: %d pieces", c, len(p))
		}
		var cells, all []byte
		for i, q := range p {
			if q.Index != i || len(q.Data) != l {
				t.Fatalf("%v: piece %d with %d bytes", c, q.Index, len(q.Data))
			}
			if i < k {
				cells = append(cells, q.Data...)
			}
			all = append(all, q.Data...)
		}
		if !slices.Equal(cells, append(data, make([]byte, k*l-size)...)) {
			t.Errorf("%v: the first k pieces are not the extended data", c)
		}
		if l == 0 || l > 255 {
			continue
		}
		want, _ := f.Product(mustGenerator(t, k, total), matrix(k, l, cells...))
		if !slices.Equal(all, want.Cells) {
			t.Errorf("%v: not the product with the generator", c)
		}
	}
}

// P1.13: with K 1 every piece is the object.
func TestEncodeWithOnePieceNeeded(t *testing.T) {
	data := []byte("copies")
	for _, p := range mustEncode(t, 1, 5, data) {
		if string(p.Data) != "copies" {
			t.Errorf("piece %d: %q", p.Index, p.Data)
		}
	}
}

// P1.13, R4
func TestEncodeCopies(t *testing.T) {
	data := []byte{1, 2, 3, 4}
	p := mustEncode(t, 2, 4, data)
	want := clonePieces(p)
	data[0], data[3] = 99, 99
	for i := range p {
		if !samePiece(p[i], want[i]) {
			t.Errorf("piece %d shares memory with the data", i)
		}
	}
	for i := range p {
		p[i].Data = append(p[i].Data, 77)[:2]
		p[i].Data[1] = 88
	}
	for i := range p {
		if p[i].Data[0] != want[i].Data[0] {
			t.Errorf("piece %d shares memory with another one", i)
		}
	}
	if !slices.Equal(data, []byte{99, 2, 3, 99}) {
		t.Error("the data shares memory with a piece")
	}
}

// P1.13
func TestEncodeErrors(t *testing.T) {
	f := rs.NewField()
	for _, c := range badCodes() {
		for _, size := range []int{0, 4, 8193} { // a bad code comes before data that is too long
			if p, e := f.Encode(c[0], c[1], make([]byte, size)); e != api.ErrArg || len(p) != 0 {
				t.Errorf("Encode(%d, %d, %d bytes): %v", c[0], c[1], size, e)
			}
		}
	}
	for _, size := range []int{8193, 20000} {
		if p, e := f.Encode(2, 3, make([]byte, size)); e != api.ErrLong || len(p) != 0 {
			t.Errorf("%d bytes: %v", size, e)
		}
	}
	if p, e := f.Encode(2, 3, nil); e != api.OK || len(p) != 3 || len(p[2].Data) != 0 {
		t.Errorf("nil: %v, %v", p, e)
	}
}

// P1.14
func TestDecodeExample(t *testing.T) {
	f := rs.NewField()
	for _, numbers := range [][]int{{2, 0}, {0, 1}, {1, 0}, {1, 2}, {2, 1, 0}} {
		if d, e := f.Decode(2, 3, 3, examplePieces(numbers...)); e != api.OK || string(d) != "\x10\x20\x30" {
			t.Errorf("the pieces %v: %v, %v", numbers, d, e)
		}
	}
}

// P1.14, and What follows: any k pieces, in any order, decode to the object.
func TestDecodeFromAnyPieces(t *testing.T) {
	f := rs.NewField()
	r := newRand()
	for _, c := range [][2]int{{1, 4}, {2, 6}, {3, 7}, {4, 4}, {6, 8}} {
		k, total := c[0], c[1]
		for _, size := range []int{0, 1, k - 1, k, k + 1, 3*k + 1, 10 * k} {
			data := randomBytes(r, size)
			p := mustEncode(t, k, total, data)
			subsets(total, k, func(numbers []int) {
				r.Shuffle(k, func(i, j int) { numbers[i], numbers[j] = numbers[j], numbers[i] })
				if got, e := f.Decode(k, total, size, choose(p, numbers...)); e != api.OK || !slices.Equal(got, data) {
					t.Errorf("%v, %d bytes, the pieces %v: %v, %v", c, size, numbers, got, e)
				}
			})
		}
	}
}

// P1.14
func TestDecodeOfTheGreatest(t *testing.T) {
	f := rs.NewField()
	r := newRand()
	for _, c := range [][2]int{{1, 255}, {100, 255}, {254, 255}, {255, 255}} {
		k, total := c[0], c[1]
		for _, size := range []int{0, 1, k, 8191, 8192} {
			data := randomBytes(r, size)
			p := mustEncode(t, k, total, data)
			got, e := f.Decode(k, total, size, choose(p, r.Perm(total)[:k]...))
			if e != api.OK || !slices.Equal(got, data) {
				t.Errorf("%v, %d bytes: %d bytes, %v", c, size, len(got), e)
			}
		}
	}
}

// P1.14: the bytes of pieces after the first k are not used, and bytes after the size are cut off.
func TestDecodeUsesTheFirstPiecesOnly(t *testing.T) {
	f := rs.NewField()
	p := append(examplePieces(2, 0), api.Piece{Index: 1, Data: []byte{7, 7}})
	if d, e := f.Decode(2, 3, 3, p); e != api.OK || string(d) != "\x10\x20\x30" {
		t.Errorf("a wrong third piece: %v, %v", d, e)
	}
	// The extension need not be zero: any two pieces determine bytes.
	p = []api.Piece{{Index: 0, Data: []byte{1, 2}}, {Index: 1, Data: []byte{3, 4}}}
	for size, want := range map[int]string{3: "\x01\x02\x03", 4: "\x01\x02\x03\x04"} {
		if d, e := f.Decode(2, 3, size, p); e != api.OK || string(d) != want {
			t.Errorf("%d bytes: %v, %v", size, d, e)
		}
	}
}

// P1.14, R4
func TestDecodeCopies(t *testing.T) {
	f := rs.NewField()
	for _, numbers := range [][]int{{0, 1}, {2, 1}} {
		p := examplePieces(numbers...)
		before := clonePieces(p)
		d, _ := f.Decode(2, 3, 3, p)
		for i := range d {
			d[i] = 99
		}
		for i := range p {
			if !samePiece(p[i], before[i]) {
				t.Errorf("piece %d was changed", p[i].Index)
			}
		}
	}
}

// P1.14
func TestDecodeErrors(t *testing.T) {
	f := rs.NewField()
	good := examplePieces(0, 1)
	for _, c := range badCodes() {
		if d, e := f.Decode(c[0], c[1], 3, []api.Piece{{Index: -1}}); e != api.ErrArg || len(d) != 0 {
			t.Errorf("Decode(%d, %d, ..): %v", c[0], c[1], e)
		}
	}
	for _, size := range []int{-1, 8193, math.MaxInt, math.MinInt} {
		if d, e := f.Decode(2, 3, size, good); e != api.ErrArg || len(d) != 0 {
			t.Errorf("size %d: %v", size, e)
		}
	}
	ok, short := []byte{1, 2}, []byte{1}
	for _, c := range []struct {
		name   string
		pieces []api.Piece
		want   api.Errno
	}{
		{"none", nil, api.ErrFew},
		{"too few", good[:1], api.ErrFew},
		{"an index below 0", []api.Piece{{Index: -1, Data: ok}, good[0]}, api.ErrArg},
		{"an index of total", []api.Piece{{Index: 3, Data: ok}, good[0]}, api.ErrArg},
		{"the greatest index", []api.Piece{{Index: math.MaxInt, Data: ok}}, api.ErrArg},
		{"the least index", []api.Piece{{Index: math.MinInt, Data: ok}}, api.ErrArg},
		{"an index of 256, which is 0 as a byte", []api.Piece{{Index: 256, Data: ok}, good[0]}, api.ErrArg},
		{"twice", []api.Piece{good[0], good[0]}, api.ErrTwice},
		{"twice, after enough pieces", []api.Piece{good[0], good[1], {Index: 0, Data: ok}}, api.ErrTwice},
		{"a bad index after enough pieces", []api.Piece{good[0], good[1], {Index: 5, Data: ok}}, api.ErrArg},
		{"a bad length after enough pieces", []api.Piece{good[0], good[1], {Index: 2, Data: short}}, api.ErrShape},
		{"too short", []api.Piece{good[0], {Index: 1, Data: short}}, api.ErrShape},
		{"no bytes", []api.Piece{{Index: 0}, {Index: 1}}, api.ErrShape},
		{"too long", []api.Piece{{Index: 0, Data: make([]byte, 3)}, good[1]}, api.ErrShape},
		{"longer than an object", []api.Piece{{Index: 0, Data: make([]byte, 9000)}}, api.ErrShape},
		{"index before length", []api.Piece{{Index: 3, Data: short}}, api.ErrArg},
		{"twice before length", []api.Piece{good[0], {Index: 0, Data: short}}, api.ErrTwice},
		{"length before few", []api.Piece{{Index: 0, Data: short}}, api.ErrShape},
		{"the first piece decides: length, then index", []api.Piece{{Index: 0, Data: short}, {Index: 9, Data: ok}}, api.ErrShape},
		{"the first piece decides: twice, then index", []api.Piece{good[0], good[0], {Index: 9}}, api.ErrTwice},
		{"the first piece decides: index, then length", []api.Piece{{Index: 9}, {Index: 0, Data: short}}, api.ErrArg},
	} {
		if d, e := f.Decode(2, 3, 3, c.pieces); e != c.want || len(d) != 0 {
			t.Errorf("%s: %v, %v", c.name, d, e)
		}
	}
	if _, e := f.Decode(3, 4, 3, []api.Piece{{Index: 1, Data: short}, {Index: 1, Data: short}}); e != api.ErrTwice {
		t.Errorf("twice comes before few: %v", e)
	}
}

// P1.15, and What follows: any k pieces, in any order, rebuild every piece, one of theirs included.
func TestRebuildFromAnyPieces(t *testing.T) {
	f := rs.NewField()
	r := newRand()
	for _, c := range [][2]int{{1, 4}, {2, 5}, {3, 7}, {4, 4}} {
		k, total := c[0], c[1]
		for _, size := range []int{0, 1, k, 3*k + 1} {
			p := mustEncode(t, k, total, randomBytes(r, size))
			subsets(total, k, func(numbers []int) {
				r.Shuffle(k, func(i, j int) { numbers[i], numbers[j] = numbers[j], numbers[i] })
				for i := range total {
					if got, e := f.Rebuild(k, total, choose(p, numbers...), i); e != api.OK || !samePiece(got, p[i]) {
						t.Errorf("%v, %d bytes, the pieces %v: %v, not %v, %v", c, size, numbers, got, p[i], e)
					}
				}
			})
		}
	}
}

// P1.15: the polynomial of any pieces of one length, whatever encoding they are of.
func TestRebuildFollowsTheDefinition(t *testing.T) {
	f := rs.NewField()
	pieces := []api.Piece{{Index: 5, Data: []byte{1, 200}}, {Index: 2, Data: []byte{0, 17}}, {Index: 9, Data: []byte{255, 3}}}
	for i := range 12 {
		want := make([]byte, 2)
		for c := range want {
			var points []api.Point
			for _, p := range pieces {
				points = append(points, api.Point{X: byte(p.Index), Y: p.Data[c]})
			}
			want[c] = refThrough(points, byte(i))
		}
		// A piece after the first k is not used.
		more := append(slices.Clone(pieces), api.Piece{Index: 0, Data: []byte{66, 67}})
		if got, e := f.Rebuild(3, 12, more, i); e != api.OK || got.Index != i || !slices.Equal(got.Data, want) {
			t.Errorf("piece %d: %v, not %v, %v", i, got, want, e)
		}
	}
}

// P1.15
func TestRebuildOfTheGreatest(t *testing.T) {
	f := rs.NewField()
	r := newRand()
	p := mustEncode(t, 128, 255, randomBytes(r, 8192))
	if got, e := f.Rebuild(128, 255, p[127:], 3); e != api.OK || !samePiece(got, p[3]) {
		t.Errorf("piece 3: %v", e)
	}
	if got, e := f.Rebuild(128, 255, p[:128], 254); e != api.OK || !samePiece(got, p[254]) {
		t.Errorf("piece 254: %v", e)
	}
	// Pieces may have MaxObject bytes each, though no object has so many.
	long := []api.Piece{{Index: 1, Data: randomBytes(r, 8192)}, {Index: 2, Data: randomBytes(r, 8192)}}
	if got, e := f.Rebuild(2, 3, long, 2); e != api.OK || !samePiece(got, long[1]) {
		t.Errorf("8192 bytes: %v", e)
	}
}

// P1.15, R4
func TestRebuildCopies(t *testing.T) {
	f := rs.NewField()
	for i := range 3 {
		p := examplePieces(0, 1, 2)
		before := clonePieces(p)
		got, _ := f.Rebuild(2, 3, p, i)
		got.Data[0], got.Data[1] = 99, 99
		for j := range p {
			if !samePiece(p[j], before[j]) {
				t.Errorf("piece %d was changed by writing into piece %d", j, i)
			}
		}
	}
}

// errorCase is a list of pieces that Rebuild and Consistent reject for the code of 2 pieces out of 3.
type errorCase struct {
	name   string
	pieces []api.Piece
	want   api.Errno
}

func alikeErrors() []errorCase {
	ok, short, long := []byte{1, 2}, []byte{1}, make([]byte, 8193)
	good := examplePieces(0, 1)
	return []errorCase{
		{"none", nil, api.ErrFew},
		{"too few", good[:1], api.ErrFew},
		{"an index below 0", []api.Piece{{Index: -1, Data: ok}, good[0]}, api.ErrArg},
		{"an index of total", []api.Piece{{Index: 3, Data: ok}, good[0]}, api.ErrArg},
		{"the greatest index", []api.Piece{{Index: math.MaxInt, Data: ok}}, api.ErrArg},
		{"the least index", []api.Piece{{Index: math.MinInt, Data: ok}}, api.ErrArg},
		{"twice", []api.Piece{good[0], good[0]}, api.ErrTwice},
		{"twice, after enough pieces", []api.Piece{good[0], good[1], {Index: 1, Data: ok}}, api.ErrTwice},
		{"a bad index after enough pieces", []api.Piece{good[0], good[1], {Index: 3, Data: ok}}, api.ErrArg},
		{"the first piece is too long", []api.Piece{{Index: 0, Data: long}, {Index: 1, Data: long}}, api.ErrLong},
		{"a later piece is too long, and not like the first", []api.Piece{good[0], {Index: 1, Data: long}}, api.ErrLong},
		{"too long after enough pieces", []api.Piece{good[0], good[1], {Index: 2, Data: long}}, api.ErrLong},
		{"shorter than the first", []api.Piece{good[0], {Index: 1, Data: short}}, api.ErrShape},
		{"longer than the first", []api.Piece{{Index: 1, Data: short}, good[0]}, api.ErrShape},
		{"another length after enough pieces", []api.Piece{good[0], good[1], {Index: 2}}, api.ErrShape},
		{"an empty one first", []api.Piece{{Index: 0}, good[1]}, api.ErrShape},
		{"index before length", []api.Piece{{Index: 3, Data: long}}, api.ErrArg},
		{"twice before long", []api.Piece{good[0], {Index: 0, Data: long}}, api.ErrTwice},
		{"twice before shape", []api.Piece{good[0], {Index: 0, Data: short}}, api.ErrTwice},
		{"long before few", []api.Piece{{Index: 0, Data: long}}, api.ErrLong},
		{"the first piece decides: long, then index", []api.Piece{{Index: 0, Data: long}, {Index: 9}}, api.ErrLong},
		{"the first piece decides: shape, then twice", []api.Piece{good[0], {Index: 1, Data: short}, good[0]}, api.ErrShape},
		{"the first piece decides: shape, then long", []api.Piece{good[0], {Index: 1, Data: short}, {Index: 2, Data: long}}, api.ErrShape},
	}
}

// P1.15
func TestRebuildErrors(t *testing.T) {
	f := rs.NewField()
	for _, c := range alikeErrors() {
		for i := range 3 {
			if p, e := f.Rebuild(2, 3, c.pieces, i); e != c.want || !samePiece(p, api.Piece{}) {
				t.Errorf("%s: %v", c.name, e)
			}
		}
	}
	for _, c := range badCodes() {
		if p, e := f.Rebuild(c[0], c[1], nil, 0); e != api.ErrArg || !samePiece(p, api.Piece{}) {
			t.Errorf("Rebuild(%d, %d, ..): %v", c[0], c[1], e)
		}
	}
	for _, i := range []int{-1, 3, 255, 256, math.MaxInt, math.MinInt} { // a bad index comes before the pieces
		for _, pieces := range [][]api.Piece{examplePieces(0, 1), nil, examplePieces(0, 0)} {
			if p, e := f.Rebuild(2, 3, pieces, i); e != api.ErrArg || !samePiece(p, api.Piece{}) {
				t.Errorf("piece %d: %v", i, e)
			}
		}
	}
	if _, e := f.Rebuild(3, 4, []api.Piece{{Index: 1}, {Index: 2, Data: []byte{1}}}, 0); e != api.ErrShape {
		t.Errorf("shape comes before few: %v", e)
	}
}

// P1.16
func TestConsistent(t *testing.T) {
	f := rs.NewField()
	r := newRand()
	for _, c := range [][3]int{{1, 3, 5}, {2, 3, 3}, {3, 7, 20}, {5, 6, 1}, {4, 9, 0}, {100, 255, 8192}} {
		k, total, size := c[0], c[1], c[2]
		p := mustEncode(t, k, total, randomBytes(r, size))
		for _, n := range []int{k, k + 1, total} {
			part := choose(p, r.Perm(total)[:n]...)
			before := clonePieces(part)
			if ok, e := f.Consistent(k, total, part); e != api.OK || !ok {
				t.Errorf("%v, %d pieces: %v, %v", c, n, ok, e)
			}
			for i := range part {
				if !samePiece(part[i], before[i]) {
					t.Error("the argument was changed")
				}
			}
		}
	}
}

// P1.16, and What follows: if there are more than k pieces, a change of any byte of any of them is noticed.
func TestConsistentNoticesEveryChange(t *testing.T) {
	f := rs.NewField()
	r := newRand()
	all := mustEncode(t, 3, 7, randomBytes(r, 10))
	for n := 4; n <= 7; n++ {
		for i := range n {
			for c := range all[0].Data {
				p := clonePieces(all[:n])
				p[i].Data[c] ^= byte(1 + r.UintN(255))
				r.Shuffle(n, func(i, j int) { p[i], p[j] = p[j], p[i] })
				if ok, e := f.Consistent(3, 7, p); e != api.OK || ok {
					t.Errorf("%d pieces, byte %d of piece %d: %v, %v", n, c, i, ok, e)
				}
			}
		}
	}
}

// P1.16: k pieces of any bytes belong to one encoding.
func TestConsistentOfArbitraryPieces(t *testing.T) {
	f := rs.NewField()
	p := []api.Piece{{Index: 6, Data: []byte{1}}, {Index: 0, Data: []byte{77}}}
	if ok, e := f.Consistent(2, 7, p); e != api.OK || !ok {
		t.Errorf("%v, %v", ok, e)
	}
	if ok, e := f.Consistent(1, 7, p); e != api.OK || ok {
		t.Errorf("two different copies: %v, %v", ok, e)
	}
}

// P1.16
func TestConsistentErrors(t *testing.T) {
	f := rs.NewField()
	for _, c := range alikeErrors() {
		if ok, e := f.Consistent(2, 3, c.pieces); e != c.want || ok {
			t.Errorf("%s: %v, %v", c.name, ok, e)
		}
	}
	for _, c := range badCodes() {
		if ok, e := f.Consistent(c[0], c[1], nil); e != api.ErrArg || ok {
			t.Errorf("Consistent(%d, %d, ..): %v, %v", c[0], c[1], ok, e)
		}
	}
	// An error of a later piece comes before a difference of an earlier one.
	p := append(examplePieces(0, 1), api.Piece{Index: 2, Data: []byte{0, 0}}, api.Piece{Index: 2, Data: []byte{0, 0}})
	if ok, e := f.Consistent(2, 3, p); e != api.ErrTwice || ok {
		t.Errorf("a difference and then an error: %v, %v", ok, e)
	}
}

// The section What follows: the encodings of two different objects differ in at least total - k + 1 pieces.
func TestEncodingsDiffer(t *testing.T) {
	r := newRand()
	const k, total = 3, 7
	for range 200 {
		a := randomBytes(r, 6)
		b := slices.Clone(a)
		for range 1 + r.IntN(3) {
			b[r.IntN(6)] ^= byte(r.UintN(256))
		}
		if slices.Equal(a, b) {
			continue
		}
		p, q := mustEncode(t, k, total, a), mustEncode(t, k, total, b)
		differ := 0
		for i := range p {
			if !samePiece(p[i], q[i]) {
				differ++
			}
		}
		if differ < total-k+1 {
			t.Errorf("%v and %v differ in %d pieces", a, b, differ)
		}
	}
}
