package inventory_test

import (
	"crypto/sha256"
	"math"
	"math/rand/v2"
	"slices"
	"testing"

	"stolon/api"
	"stolon/inventory"
)

// lengths returns the lengths of lists around which trees change their form.
func lengths() []int {
	list := []int{127, 128, 129, 255, 256, 257, 300}
	for n := range 35 {
		list = append(list, n)
	}
	return list
}

// root returns the tree hash of valid records.
func root(t *testing.T, records []api.Record) api.Digest {
	t.Helper()
	d, e := inventory.Root(records)
	if e != api.OK {
		t.Fatal("Root", e)
	}
	return d
}

// prove returns the proof of record i.
func prove(t *testing.T, records []api.Record, i int) []api.Digest {
	t.Helper()
	proof, e := inventory.Prove(records, i)
	if e != api.OK {
		t.Fatal("Prove", i, "of", len(records), e)
	}
	return proof
}

// P6.6: roots of lists of records in any order, some of them several times.
func TestRoot(t *testing.T) {
	r := rand.New(rand.NewPCG(6, 6))
	if got := root(t, nil); got != sha256.Sum256(nil) {
		t.Error("no records", got)
	}
	if got := root(t, []api.Record{}); got != sha256.Sum256(nil) {
		t.Error("an empty list", got)
	}
	for _, n := range lengths() {
		list := randomRecords(r, n, 10)
		kept := slices.Clone(list)
		if got := root(t, list); got != modelRoot(list) {
			t.Error(n, "records", got)
		}
		if !slices.Equal(list, kept) {
			t.Fatal("the argument has changed")
		}
	}
}

// P6.6: the form of the tree of few records, without a rule for all lengths.
func TestRootOfFew(t *testing.T) {
	l := pieces(7, 3)
	h := make([]api.Digest, len(l))
	for i, r := range l {
		h[i] = modelLeaf(r)
	}
	j := modelJoin
	four := j(j(h[0], h[1]), j(h[2], h[3]))
	for i, want := range []api.Digest{h[0], j(h[0], h[1]), j(j(h[0], h[1]), h[2]), four, j(four, h[4]), j(four, j(h[4], h[5])), j(four, j(j(h[4], h[5]), h[6]))} {
		if got := root(t, l[:i+1]); got != want {
			t.Error(i+1, "records", got)
		}
	}
	if root(t, []api.Record{l[0], l[1]}) == root(t, []api.Record{l[1], l[0]}) || root(t, l[:1]) == root(t, []api.Record{l[0], l[0]}) {
		t.Error("different lists with one root")
	}
}

// P6.6: proofs of every record; example 4 of the chapter.
func TestProve(t *testing.T) {
	r := rand.New(rand.NewPCG(6, 7))
	for _, n := range lengths() {
		list := randomRecords(r, n, 10)
		kept := slices.Clone(list)
		for i := 0; i < n; i += 1 + n/40 {
			if got := prove(t, list, i); !slices.Equal(got, modelProof(list, i)) {
				t.Error("record", i, "of", n, got)
			}
		}
		if !slices.Equal(list, kept) {
			t.Fatal("the argument has changed")
		}
	}
	l := pieces(3, 1)
	if got := prove(t, l, 2); !slices.Equal(got, []api.Digest{modelJoin(modelLeaf(l[0]), modelLeaf(l[1]))}) {
		t.Error("record 2 of 3", got)
	}
	if got := prove(t, l, 0); !slices.Equal(got, []api.Digest{modelLeaf(l[1]), modelLeaf(l[2])}) {
		t.Error("record 0 of 3", got)
	}
	clear(prove(t, l, 0))
	if got := prove(t, l, 0); !slices.Equal(got, modelProof(l, 0)) {
		t.Error("after a change of a result", got)
	}
}

// P6.6: the errors.
func TestRootAndProveErrors(t *testing.T) {
	list := pieces(9, 2)
	for _, wrong := range someInvalid() {
		for at := range len(list) + 1 {
			bad := slices.Insert(slices.Clone(list), at, wrong)
			if d, e := inventory.Root(bad); e != api.ErrArg || d != (api.Digest{}) {
				t.Error("Root", wrong, d, e)
			}
			for _, i := range []int{-1, 0, at, len(bad) - 1, len(bad)} {
				if p, e := inventory.Prove(bad, i); e != api.ErrArg || len(p) != 0 {
					t.Error("Prove", wrong, i, p, e)
				}
			}
		}
	}
	for n := range 10 {
		for _, i := range []int{math.MinInt, -1, n, n + 1, math.MaxInt} {
			if p, e := inventory.Prove(list[:n], i); e != api.ErrArg || len(p) != 0 {
				t.Error("Prove", i, "of", n, p, e)
			}
		}
	}
}

// P6.7, P6.11: every proof is accepted.
func TestVerifyAcceptsProofs(t *testing.T) {
	r := rand.New(rand.NewPCG(6, 11))
	for _, n := range lengths() {
		list := randomRecords(r, n, 10)
		top := root(t, list)
		for i := 0; i < n; i += 1 + n/60 {
			proof := prove(t, list, i)
			kept := slices.Clone(proof)
			if !inventory.Verify(top, n, i, list[i], proof) {
				t.Error("record", i, "of", n)
			}
			if !slices.Equal(proof, kept) {
				t.Fatal("the argument has changed")
			}
		}
	}
}

// P6.7: what differs from a proof in one place.
func TestVerifyRefuses(t *testing.T) {
	list := pieces(13, 2)
	top := root(t, list)
	for i, r := range list {
		proof := prove(t, list, i)
		refuse := func(name string, root api.Digest, count, i int, r api.Record, proof []api.Digest) {
			t.Helper()
			if inventory.Verify(root, count, i, r, proof) {
				t.Error(name, "with record", i)
			}
		}
		for at := range top {
			other := top
			other[at] ^= 128
			refuse("another root", other, 13, i, r, proof)
		}
		for other := range list {
			if other != i {
				refuse("another index", top, 13, other, r, proof)
				refuse("another record", top, 13, i, list[other], proof)
			}
		}
		newer := r
		newer.Num++
		refuse("a changed record", top, 13, i, newer, proof)
		for at := range proof {
			other := slices.Clone(proof)
			other[at][31]++
			refuse("a changed element", top, 13, i, r, other)
			refuse("an element missing", top, 13, i, r, slices.Delete(slices.Clone(proof), at, at+1))
			refuse("an element twice", top, 13, i, r, slices.Insert(slices.Clone(proof), at, proof[at]))
			refuse("an end missing", top, 13, i, r, proof[:at])
		}
		refuse("an element left over", top, 13, i, r, append(slices.Clone(proof), api.Digest{}))
		refuse("no proof", top, 13, i, r, nil)
		for _, count := range []int{math.MinInt, -1, 0, 1, 2, i, math.MaxInt} {
			refuse("another count", top, count, i, r, proof)
		}
		for _, index := range []int{math.MinInt, -1, 13, 14, math.MaxInt} {
			refuse("no such record", top, 13, index, r, proof)
		}
	}
	one := list[:1]
	if !inventory.Verify(root(t, one), 1, 0, one[0], nil) || inventory.Verify(root(t, one), 1, 0, one[0], []api.Digest{{}}) || inventory.Verify(root(t, nil), 0, 0, one[0], nil) {
		t.Error("a single record")
	}
}

// P6.7: a record that is not valid has no proof, whatever bytes stand for it: those that it would have, none, or those of a record of zeros.
func TestVerifyOfInvalidRecords(t *testing.T) {
	other := modelLeaf(piece(numbered(1), 2, 3, 4, true))
	for _, wrong := range someInvalid() {
		for _, leaf := range []api.Digest{modelLeaf(wrong), sha256.Sum256([]byte{0}), modelLeaf(api.Record{}), sha256.Sum256(nil), {}} {
			if inventory.Verify(leaf, 1, 0, wrong, nil) {
				t.Error("alone", wrong)
			}
			if inventory.Verify(modelJoin(leaf, other), 2, 0, wrong, []api.Digest{other}) {
				t.Error("with another one", wrong)
			}
		}
	}
}

// P6.7: proofs of any counts, whose elements are made up, and the greatest count.
func TestVerifyOfLargeCounts(t *testing.T) {
	r := rand.New(rand.NewPCG(6, 8))
	counts := []int{1, 2, 3, 5, 1000, 1<<19 + 1, 1<<20 - 1, 1 << 20, 1<<20 + 1, 1<<20 + 2, 1 << 21, 1 << 40, math.MaxInt}
	for range 200 {
		counts = append(counts, 1+r.IntN(1<<20))
	}
	for _, count := range counts {
		for _, i := range []int{0, r.IntN(count), count / 2, count - 1} {
			p := randomRecord(r, 5)
			var sides []bool
			if count <= 1<<40 {
				sides = modelSides(count, i)
			}
			proof := make([]api.Digest, len(sides))
			for j := range proof {
				proof[j] = numbered(r.IntN(1000))
			}
			top := modelTop(p, sides, proof)
			if got := inventory.Verify(top, count, i, p, proof); got != (count <= 1<<20) {
				t.Error("record", i, "of", count, got)
			}
		}
	}
}

// P6.7: arguments that differ from a proof in several places, as the model sees them; some other counts have the same proofs.
func TestVerifyLikeTheModel(t *testing.T) {
	r := rand.New(rand.NewPCG(6, 9))
	accepted := 0
	for range 20000 {
		n := 1 + r.IntN(12)
		list := pieces(n, 4)
		i := r.IntN(n)
		top, p, proof := modelRoot(list), list[i], modelProof(list, i)
		count, index := n+r.IntN(3)-1, i
		switch r.IntN(8) {
		case 0:
			index += r.IntN(3) - 1
		case 1:
			p = list[r.IntN(n)]
		case 2:
			proof = proof[:r.IntN(len(proof)+1)]
		case 3:
			proof = append(proof, modelRoot(list[:r.IntN(n)]))
		}
		want := modelVerify(top, count, index, p, proof)
		if got := inventory.Verify(top, count, index, p, proof); got != want {
			t.Fatal("record", i, "of", n, "as", index, "of", count, got)
		}
		if want && count != n {
			accepted++
		}
	}
	if accepted == 0 {
		t.Error("no proof for another count")
	}
}
