package inventory_test

import (
	"crypto/sha256"
	"encoding/binary"
	"math/rand/v2"
	"reflect"
	"slices"
	"strings"
	"testing"

	"stolon/api"
	"stolon/inventory"
)

// This file has helpers, and a second, plainer implementation of the chapter, which follows it sentence by sentence.

// base returns the base of a holder.
func base(holder int, inc uint64) api.Record {
	return api.Record{Kind: api.RecordBase, Holder: holder, Inc: inc}
}

// grave returns the grave of an object.
func grave(object api.Digest) api.Record {
	return api.Record{Kind: api.RecordGrave, Object: object}
}

// piece returns a piece record with K = 2 and N = 3.
func piece(object api.Digest, holder int, inc, num uint64, held bool) api.Record {
	return api.Record{Kind: api.RecordPiece, Object: object, Holder: holder, Inc: inc, Num: num, Held: held, K: 2, N: 3}
}

// numbered returns the object of a number; a greater number has the object that comes later.
func numbered(n int) api.Digest {
	return api.Digest{byte(n >> 8), byte(n), 31: 7}
}

// pieces returns piece records, of different objects, of one holder, in ascending order of their keys.
func pieces(count, holder int) []api.Record {
	list := make([]api.Record, count)
	for i := range list {
		list[i] = piece(numbered(i), holder, 1, uint64(i+1), true)
	}
	return list
}

// build returns an inventory into which records were merged.
func build(t *testing.T, records ...api.Record) *inventory.Inventory {
	t.Helper()
	v := inventory.New()
	merge(t, v, records...)
	return v
}

// merge merges valid records.
func merge(t *testing.T, v *inventory.Inventory, records ...api.Record) {
	t.Helper()
	if e := v.Merge(records); e != api.OK {
		t.Fatalf("Merge of %v returns %d", records, e)
	}
}

// expectRecords checks all records of an inventory.
func expectRecords(t *testing.T, name string, v *inventory.Inventory, want ...api.Record) {
	t.Helper()
	if got := v.Records(); !slices.Equal(got, want) {
		t.Fatalf("%s: the records are\n%v instead of\n%v", name, got, want)
	}
}

// randomRecord returns a valid record. Few objects and small numbers make records meet that are about the same.
func randomRecord(r *rand.Rand, objects int) api.Record {
	object := numbered(r.IntN(objects))
	switch holder := r.IntN(16); r.IntN(20) {
	case 0, 1:
		return base(holder, uint64(1+r.IntN(3)))
	case 2:
		return grave(object)
	default:
		n := 1 + r.IntN(3)
		return api.Record{
			Kind: api.RecordPiece, Object: object, Holder: holder, Inc: uint64(1 + r.IntN(3)), Num: uint64(1 + r.IntN(2)),
			Held: r.IntN(2) == 0, K: 1 + r.IntN(n), N: n,
		}
	}
}

// randomRecords returns valid records.
func randomRecords(r *rand.Rand, count, objects int) []api.Record {
	list := make([]api.Record, count)
	for i := range list {
		list[i] = randomRecord(r, objects)
	}
	return list
}

// someInvalid returns records of every kind that are not valid.
func someInvalid() []api.Record {
	var list []api.Record
	wrong := func(r api.Record, change func(r *api.Record)) {
		change(&r)
		list = append(list, r)
	}
	b, g, p := base(3, 4), grave(numbered(5)), piece(numbered(6), 7, 8, 9, true)
	list = append(list, api.Record{})
	wrong(p, func(r *api.Record) { r.Kind = 4 })
	wrong(b, func(r *api.Record) { r.Holder = 16 })
	wrong(b, func(r *api.Record) { r.Inc = 0 })
	wrong(b, func(r *api.Record) { r.Object[31] = 1 })
	wrong(g, func(r *api.Record) { r.Holder = 1 })
	wrong(g, func(r *api.Record) { r.Inc = 1 })
	wrong(p, func(r *api.Record) { r.Holder = -1 })
	wrong(p, func(r *api.Record) { r.Num = 0 })
	wrong(p, func(r *api.Record) { r.K = 4 })
	wrong(p, func(r *api.Record) { r.N = 256 })
	return list
}

// modelValid tells whether a record is valid.
func modelValid(r api.Record) bool {
	holder := 0 <= r.Holder && r.Holder <= 15
	switch r.Kind {
	case 1:
		return holder && r.Inc >= 1 && r.Object == api.Digest{} && r.Num == 0 && !r.Held && r.K == 0 && r.N == 0
	case 2:
		return r.Holder == 0 && r.Inc == 0 && r.Num == 0 && !r.Held && r.K == 0 && r.N == 0
	case 3:
		return holder && r.Inc >= 1 && r.Num >= 1 && r.K >= 1 && r.N >= r.K && r.N <= 255
	}
	return false
}

// modelKey returns the key of a valid record.
func modelKey(r api.Record) string {
	return string([]byte{byte(r.Kind)}) + string(r.Object[:]) + string([]byte{byte(r.Holder)})
}

// modelBytes returns the bytes of a valid record.
func modelBytes(r api.Record) []byte {
	b := []byte(modelKey(r))
	b = binary.BigEndian.AppendUint64(b, r.Inc)
	b = binary.BigEndian.AppendUint64(b, r.Num)
	if r.Held {
		b = append(b, 1)
	} else {
		b = append(b, 0)
	}
	return append(b, byte(r.K), byte(r.N))
}

// modelNewer tells which one of two valid records with one key is newer. Their bytes after the key compare as the chapter asks.
func modelNewer(a, b api.Record) bool {
	return modelKey(a) == modelKey(b) && string(modelBytes(a)) > string(modelBytes(b))
}

// modelNormal returns the normal form of a collection of valid records, in ascending order of the keys.
func modelNormal(collection []api.Record) []api.Record {
	newest := map[string]api.Record{}
	bases := map[int]uint64{}
	graves := map[api.Digest]bool{}
	for _, r := range collection {
		if old, found := newest[modelKey(r)]; !found || modelNewer(r, old) {
			newest[modelKey(r)] = r
		}
		switch r.Kind {
		case api.RecordBase:
			bases[r.Holder] = max(bases[r.Holder], r.Inc)
		case api.RecordGrave:
			graves[r.Object] = true
		}
	}
	var list []api.Record
	for _, r := range newest {
		if r.Kind != api.RecordPiece || r.Inc >= bases[r.Holder] && !graves[r.Object] {
			list = append(list, r)
		}
	}
	slices.SortFunc(list, func(a, b api.Record) int { return strings.Compare(modelKey(a), modelKey(b)) })
	return list
}

// modelInside tells whether a key is in a range.
func modelInside(key string, low, high []byte) bool {
	return key >= string(low) && (len(high) == 0 || key < string(high))
}

// modelRange returns those of some records whose keys are in a range.
func modelRange(records []api.Record, low, high []byte) []api.Record {
	var list []api.Record
	for _, r := range records {
		if modelInside(modelKey(r), low, high) {
			list = append(list, r)
		}
	}
	return list
}

// modelSplit returns the greatest power of two that is smaller than n.
func modelSplit(n int) int {
	h := 1
	for 2*h < n {
		h *= 2
	}
	return h
}

// modelLeaf returns the tree hash of one record.
func modelLeaf(r api.Record) api.Digest {
	return sha256.Sum256(append([]byte{0}, modelBytes(r)...))
}

// modelJoin returns the tree hash of two parts.
func modelJoin(a, b api.Digest) api.Digest {
	return sha256.Sum256(slices.Concat([]byte{1}, a[:], b[:]))
}

// modelRoot returns the tree hash of valid records.
func modelRoot(records []api.Record) api.Digest {
	switch n := len(records); n {
	case 0:
		return sha256.Sum256(nil)
	case 1:
		return modelLeaf(records[0])
	default:
		h := modelSplit(n)
		return modelJoin(modelRoot(records[:h]), modelRoot(records[h:]))
	}
}

// modelProof returns the proof of record i of valid records.
func modelProof(records []api.Record, i int) []api.Digest {
	n := len(records)
	if n == 1 {
		return nil
	}
	h := modelSplit(n)
	if i < h {
		return append(modelProof(records[:h], i), modelRoot(records[h:]))
	}
	return append(modelProof(records[h:], i-h), modelRoot(records[:h]))
}

// modelSides returns, for record i of count, whether each element of its proof stands on the right, in the order of the proof.
func modelSides(count, i int) []bool {
	var sides []bool
	for count > 1 {
		h := modelSplit(count)
		if i < h {
			sides = append(sides, true)
			count = h
		} else {
			sides = append(sides, false)
			count, i = count-h, i-h
		}
	}
	slices.Reverse(sides)
	return sides
}

// modelTop returns the tree hash that results from a record and a proof of as many elements as there are sides.
func modelTop(r api.Record, sides []bool, proof []api.Digest) api.Digest {
	top := modelLeaf(r)
	for i, d := range proof {
		if sides[i] {
			top = modelJoin(top, d)
		} else {
			top = modelJoin(d, top)
		}
	}
	return top
}

// modelVerify tells what Verify says.
func modelVerify(root api.Digest, count, i int, r api.Record, proof []api.Digest) bool {
	if !modelValid(r) || i < 0 || i > count-1 || count > 1<<20 {
		return false
	}
	sides := modelSides(count, i)
	return len(sides) == len(proof) && modelTop(r, sides, proof) == root
}

// modelSummary returns the summary of a range of records in normal form.
func modelSummary(records []api.Record, low, high []byte) api.Message {
	list := modelRange(records, low, high)
	return api.Message{Kind: 4, Low: low, High: high, Count: len(list), Root: modelRoot(list)}
}

// modelReply tells what Reply says to an inventory with these records, and returns the records afterwards.
func modelReply(records []api.Record, msg api.Message) ([]api.Record, []api.Message, api.Errno) {
	var answers []api.Message
	switch {
	case msg.Kind == 4 && msg.Count < 0, msg.Kind != 4 && msg.Kind != 5:
		return records, nil, api.ErrArg
	case msg.Kind == 4:
		list := modelRange(records, msg.Low, msg.High)
		switch {
		case len(list) == msg.Count && modelRoot(list) == msg.Root:
		case len(list) <= 8:
			answers = append(answers, api.Message{Kind: 5, Low: msg.Low, High: msg.High, Records: list, Want: true})
		default:
			m := []byte(modelKey(list[len(list)/2]))
			answers = append(answers, modelSummary(records, msg.Low, m), modelSummary(records, m, msg.High))
		}
	case len(msg.Records) > 64:
		return records, nil, api.ErrLong
	default:
		for _, r := range msg.Records {
			if !modelValid(r) || !modelInside(modelKey(r), msg.Low, msg.High) {
				return records, nil, api.ErrArg
			}
		}
		records = modelNormal(append(slices.Clone(records), msg.Records...))
		var list []api.Record
		for _, r := range modelRange(records, msg.Low, msg.High) {
			if msg.Want && !slices.Contains(msg.Records, r) {
				list = append(list, r)
			}
		}
		for len(list) > 0 {
			n := min(64, len(list))
			answers = append(answers, api.Message{Kind: 5, Low: msg.Low, High: msg.High, Records: list[:n]})
			list = list[n:]
		}
	}
	for i := range answers {
		answers[i].From, answers[i].To = msg.To, msg.From
	}
	return records, answers, api.OK
}

// plain returns a message in which empty lists are nil.
func plain(m api.Message) api.Message {
	if len(m.Low) == 0 {
		m.Low = nil
	}
	if len(m.High) == 0 {
		m.High = nil
	}
	if len(m.Records) == 0 {
		m.Records = nil
	}
	return m
}

// sameMessage reports whether two messages have the same fields; a nil list is an empty one.
func sameMessage(a, b api.Message) bool { return reflect.DeepEqual(plain(a), plain(b)) }

// expectMessages checks messages, all their fields.
func expectMessages(t *testing.T, name string, got []api.Message, want ...api.Message) {
	t.Helper()
	if !slices.EqualFunc(got, want, sameMessage) {
		t.Fatalf("%s: the messages are\n%v instead of\n%v", name, got, want)
	}
}

// reply lets an inventory take a message into account that it accepts.
func reply(t *testing.T, v *inventory.Inventory, msg api.Message) []api.Message {
	t.Helper()
	list, e := v.Reply(msg)
	if e != api.OK {
		t.Fatalf("Reply to %v returns %d", msg, e)
	}
	return list
}
