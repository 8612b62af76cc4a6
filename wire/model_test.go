package wire_test

import (
	"bytes"
	"encoding/binary"
	"hash/crc32"
	"math/rand/v2"
	"reflect"
	"slices"
	"strings"
	"testing"

	"stolon/api"
	"stolon/digest"
	"stolon/inventory"
	"stolon/wire"
)

// This file has helpers, and a second, plainer implementation of the chapter, which follows it sentence by sentence.

// lastKind is the greatest kind of a message.
const lastKind = api.KindKeep

// modelNames has the names of the kinds, in their order from 1 on.
const modelNames = "ping ack pingreq sum items claim fetch offer lack install stored ask keep"

// modelName returns the name of a kind.
func modelName(k api.Kind) string {
	if names := strings.Fields(modelNames); 1 <= k && int(k) <= len(names) {
		return names[k-1]
	}
	return ""
}

// modelFields returns the fields that a kind uses besides Kind, From and To.
func modelFields(k api.Kind) []string {
	switch k {
	case api.KindPing, api.KindAck:
		return []string{"Seq", "Origin", "Table"}
	case api.KindPingReq:
		return []string{"Seq", "Target", "Table"}
	case api.KindSum:
		return []string{"Low", "High", "Count", "Root"}
	case api.KindItems:
		return []string{"Low", "High", "Want", "Records"}
	case api.KindOffer, api.KindInstall:
		return []string{"Object", "Manifest", "Piece"}
	case api.KindStored:
		return []string{"Object", "Code"}
	}
	return []string{"Object"}
}

// plain returns a message whose empty slices are nil.
func plain(m api.Message) api.Message {
	m.Table = append([]api.Member(nil), m.Table...)
	m.Low = append([]byte(nil), m.Low...)
	m.High = append([]byte(nil), m.High...)
	m.Records = append([]api.Record(nil), m.Records...)
	m.Manifest.Pieces = append([]api.Digest(nil), m.Manifest.Pieces...)
	m.Piece.Data = append([]byte(nil), m.Piece.Data...)
	return m
}

// same reports whether two messages have the same fields.
func same(a, b api.Message) bool { return reflect.DeepEqual(plain(a), plain(b)) }

// modelValid reports whether a message is valid.
func modelValid(m api.Message) bool {
	within := func(v, low, high int) bool { return low <= v && v <= high }
	if modelName(m.Kind) == "" || !within(m.From, 0, 15) || !within(m.To, 0, 15) || m.From == m.To {
		return false
	}
	used := append([]string{"Kind", "From", "To"}, modelFields(m.Kind)...)
	all := reflect.ValueOf(plain(m))
	for i := range all.NumField() {
		if !slices.Contains(used, all.Type().Field(i).Name) && !all.Field(i).IsZero() {
			return false
		}
	}
	for _, field := range used {
		valid := true
		switch field {
		case "Origin":
			valid = within(m.Origin, 0, 15)
		case "Target":
			valid = within(m.Target, 0, 15)
		case "Table":
			valid = within(len(m.Table), 1, 16)
			for _, x := range m.Table {
				valid = valid && within(int(x.Status), 0, 4) && (x.Inc == 0) == (x.Status == 0)
			}
		case "Low":
			valid = within(len(m.Low), 0, 34)
		case "High":
			valid = within(len(m.High), 0, 34)
		case "Count":
			valid = within(m.Count, 0, 1048576)
		case "Records":
			valid = within(len(m.Records), 0, 64)
			for _, x := range m.Records {
				valid = valid && inventory.Valid(x)
			}
		case "Manifest":
			x := m.Manifest
			valid = within(x.K, 1, x.N) && within(x.N, x.K, x.Total) && within(x.Total, x.N, 255) && within(x.Size, 0, 8192) && len(x.Pieces) == x.Total
		case "Piece":
			valid = within(m.Piece.Index, 0, m.Manifest.Total-1) && within(len(m.Piece.Data), 0, 8192)
		case "Code":
			valid = within(int(m.Code), 0, 999)
		}
		if !valid {
			return false
		}
	}
	return true
}

// u8, u16, u32 and u64 return the bytes of a number.
func u8(v int) []byte     { return []byte{byte(v)} }
func u16(v int) []byte    { return binary.BigEndian.AppendUint16(nil, uint16(v)) }
func u32(v int) []byte    { return binary.BigEndian.AppendUint32(nil, uint32(v)) }
func u64(v uint64) []byte { return binary.BigEndian.AppendUint64(nil, v) }

// text returns bytes behind their number.
func text(b []byte) []byte { return append(u16(len(b)), b...) }

// tableBytes returns the bytes of a table.
func tableBytes(table []api.Member) []byte {
	b := u8(len(table))
	for _, x := range table {
		b = slices.Concat(b, u64(x.Inc), u8(int(x.Status)))
	}
	return b
}

// recordBytes returns the bytes of a record, valid or not.
func recordBytes(r api.Record) []byte {
	held := 0
	if r.Held {
		held = 1
	}
	return slices.Concat(u8(int(r.Kind)), r.Object[:], u8(r.Holder), u64(r.Inc), u64(r.Num), u8(held), u8(r.K), u8(r.N))
}

// manifestBytes returns the bytes of a manifest, valid or not.
func manifestBytes(m api.Manifest) []byte {
	b := slices.Concat([]byte{77, 1}, u8(m.K), u8(m.N), u8(m.Total), u16(m.Size), m.Object[:])
	for _, d := range m.Pieces {
		b = append(b, d[:]...)
	}
	return b
}

// modelBody returns the body of a message whose kind is one of the table.
func modelBody(m api.Message) []byte {
	switch m.Kind {
	case api.KindPing, api.KindAck:
		return slices.Concat(u64(m.Seq), u8(m.Origin), tableBytes(m.Table))
	case api.KindPingReq:
		return slices.Concat(u64(m.Seq), u8(m.Target), tableBytes(m.Table))
	case api.KindSum:
		return slices.Concat(text(m.Low), text(m.High), u32(m.Count), m.Root[:])
	case api.KindItems:
		want := 0
		if m.Want {
			want = 1
		}
		b := slices.Concat(text(m.Low), text(m.High), u8(want), u16(len(m.Records)))
		for _, r := range m.Records {
			b = append(b, recordBytes(r)...)
		}
		return b
	case api.KindOffer, api.KindInstall:
		return slices.Concat(m.Object[:], text(manifestBytes(m.Manifest)), u16(m.Piece.Index), text(m.Piece.Data))
	case api.KindStored:
		return slices.Concat(m.Object[:], u16(int(m.Code)))
	}
	return m.Object[:]
}

// sealed returns bytes, and their checksum behind them.
func sealed(b []byte) []byte {
	return slices.Concat(b, u32(int(crc32.Checksum(b, crc32.MakeTable(crc32.Castagnoli)))))
}

// frameOf returns a frame with this content, whatever it is.
func frameOf(kind api.Kind, from, to int, body []byte) []byte {
	return sealed(slices.Concat([]byte{0x53, 0x57, 1}, u8(int(kind)), u8(from), u8(to), u32(len(body)), body))
}

// modelFrame returns the frame of a message whose kind is one of the table.
func modelFrame(m api.Message) []byte { return frameOf(m.Kind, m.From, m.To, modelBody(m)) }

// input is what is left of the bytes of a body.
type input struct {
	b     []byte
	short bool
}

// next returns the next n bytes, or zeros if fewer are left.
func (in *input) next(n int) []byte {
	if in.short || n > len(in.b) {
		in.short = true
		return make([]byte, n)
	}
	part := in.b[:n]
	in.b = in.b[n:]
	return part
}

// number returns the number of the next n bytes.
func (in *input) number(n int) uint64 {
	v := uint64(0)
	for _, x := range in.next(n) {
		v = v<<8 | uint64(x)
	}
	return v
}

// text returns the next text.
func (in *input) text() []byte { return in.next(int(in.number(2))) }

// digest returns the next digest.
func (in *input) digest() api.Digest { return api.Digest(in.next(32)) }

// table returns the next table.
func (in *input) table() []api.Member {
	list := make([]api.Member, in.number(1))
	for i := range list {
		list[i].Inc = in.number(8)
		list[i].Status = api.Status(in.number(1))
	}
	return list
}

// modelRead returns the message of a body, and whether the body has the form of its kind.
func modelRead(kind api.Kind, body []byte) (api.Message, bool) {
	in := &input{b: body}
	refused := false
	m := api.Message{Kind: kind}
	switch kind {
	case api.KindPing, api.KindAck:
		m.Seq = in.number(8)
		m.Origin = int(in.number(1))
		m.Table = in.table()
	case api.KindPingReq:
		m.Seq = in.number(8)
		m.Target = int(in.number(1))
		m.Table = in.table()
	case api.KindSum:
		m.Low = in.text()
		m.High = in.text()
		m.Count = int(in.number(4))
		m.Root = in.digest()
	case api.KindItems:
		m.Low = in.text()
		m.High = in.text()
		want := in.number(1)
		m.Want = want == 1
		refused = want > 1
		for n := in.number(2); n > 0 && !in.short; n-- {
			r, e := inventory.DecodeRecord(in.next(53))
			refused = refused || e != api.OK
			m.Records = append(m.Records, r)
		}
	case api.KindOffer, api.KindInstall:
		m.Object = in.digest()
		x, e := digest.DecodeManifest(in.text())
		refused = e != api.OK
		m.Manifest = x
		m.Piece.Index = int(in.number(2))
		m.Piece.Data = in.text()
	case api.KindStored:
		m.Object = in.digest()
		m.Code = api.Errno(in.number(2))
	default:
		m.Object = in.digest()
	}
	return m, !in.short && len(in.b) == 0 && !refused
}

// modelDecode decodes a frame.
func modelDecode(b []byte) (api.Message, api.Errno) {
	none := api.Message{}
	if len(b) < 10 {
		return none, api.ErrShort
	}
	if b[0] != 0x53 || b[1] != 0x57 {
		return none, api.ErrForm
	}
	if b[2] != 1 {
		return none, api.ErrVersion
	}
	length := int(binary.BigEndian.Uint32(b[6:]))
	if length > 20000 {
		return none, api.ErrLong
	}
	if len(b) < length+14 {
		return none, api.ErrShort
	}
	if len(b) > length+14 {
		return none, api.ErrLong
	}
	if !bytes.Equal(sealed(b[:length+10]), b) {
		return none, api.ErrSum
	}
	kind := api.Kind(b[3])
	if modelName(kind) == "" {
		return none, api.ErrArg
	}
	m, ok := modelRead(kind, b[10:length+10])
	if !ok {
		return none, api.ErrForm
	}
	m.From, m.To = int(b[4]), int(b[5])
	if !modelValid(m) {
		return none, api.ErrArg
	}
	return m, api.OK
}

// modelScan decodes frames that follow one another.
func modelScan(b []byte) ([]api.Message, int, api.Errno) {
	var messages []api.Message
	total := 0
	for len(b) >= 10 {
		frame := b
		if length := binary.BigEndian.Uint32(b[6:]); length <= 20000 && len(b) > int(length)+14 {
			frame = b[:length+14]
		}
		m, e := modelDecode(frame)
		if e == api.ErrShort {
			break
		}
		if e != api.OK {
			return messages, total, e
		}
		messages = append(messages, m)
		total += len(frame)
		b = b[len(frame):]
	}
	return messages, total, api.OK
}

// randomBytes returns at most limit bytes, often none or exactly as many.
func randomBytes(r *rand.Rand, limit int) []byte {
	n := r.IntN(limit + 1)
	switch r.IntN(4) {
	case 0:
		n = 0
	case 1:
		n = limit
	}
	b := make([]byte, n)
	for i := range b {
		b[i] = byte(r.Uint32())
	}
	return b
}

// randomDigest returns a digest.
func randomDigest(r *rand.Rand) api.Digest {
	var d api.Digest
	for i := range d {
		d[i] = byte(r.Uint32())
	}
	return d
}

// randomTable returns a valid table.
func randomTable(r *rand.Rand) []api.Member {
	table := make([]api.Member, 1+r.IntN(16))
	for i := range table {
		if status := api.Status(r.IntN(5)); status > 0 {
			table[i] = api.Member{Inc: 1 + r.Uint64N(1<<63), Status: status}
		}
	}
	return table
}

// randomRecord returns a valid record.
func randomRecord(r *rand.Rand) api.Record {
	inc, holder := 1+r.Uint64N(1<<63), r.IntN(16)
	switch r.IntN(3) {
	case 0:
		return api.Record{Kind: api.RecordBase, Holder: holder, Inc: inc}
	case 1:
		return api.Record{Kind: api.RecordGrave, Object: randomDigest(r)}
	}
	n := 1 + r.IntN(255)
	return api.Record{
		Kind: api.RecordPiece, Object: randomDigest(r), Holder: holder, Inc: inc, Num: 1 + r.Uint64N(1<<63),
		Held: r.IntN(2) == 0, K: 1 + r.IntN(n), N: n,
	}
}

// randomRecords returns at most 64 valid records.
func randomRecords(r *rand.Rand) []api.Record {
	records := make([]api.Record, len(randomBytes(r, 64)))
	for i := range records {
		records[i] = randomRecord(r)
	}
	return records
}

// randomManifest returns a valid manifest.
func randomManifest(r *rand.Rand) api.Manifest {
	total := 1 + len(randomBytes(r, 254))
	n := 1 + r.IntN(total)
	m := api.Manifest{K: 1 + r.IntN(n), N: n, Total: total, Size: r.IntN(8193), Object: randomDigest(r), Pieces: make([]api.Digest, total)}
	for i := range m.Pieces {
		m.Pieces[i] = randomDigest(r)
	}
	return m
}

// randomMessage returns a valid message of a kind.
func randomMessage(r *rand.Rand, kind api.Kind) api.Message {
	from := r.IntN(16)
	m := api.Message{Kind: kind, From: from, To: (from + 1 + r.IntN(15)) % 16}
	for _, field := range modelFields(kind) {
		switch field {
		case "Seq":
			m.Seq = r.Uint64()
		case "Origin":
			m.Origin = r.IntN(16)
		case "Target":
			m.Target = r.IntN(16)
		case "Table":
			m.Table = randomTable(r)
		case "Low":
			m.Low = randomBytes(r, 34)
		case "High":
			m.High = randomBytes(r, 34)
		case "Count":
			m.Count = r.IntN(1048577)
		case "Root":
			m.Root = randomDigest(r)
		case "Want":
			m.Want = r.IntN(2) == 0
		case "Records":
			m.Records = randomRecords(r)
		case "Object":
			m.Object = randomDigest(r)
		case "Manifest":
			m.Manifest = randomManifest(r)
		case "Piece":
			m.Piece = api.Piece{Index: r.IntN(m.Manifest.Total), Data: randomBytes(r, 8192)}
		case "Code":
			m.Code = api.Errno(r.IntN(1000))
		}
	}
	return m
}

// small returns a valid message of a kind with a short frame, in which every used field but From is not zero.
func small(kind api.Kind) api.Message {
	whole := api.Message{
		Seq: 0x0102030405060708, Origin: 5, Target: 6, Table: []api.Member{{Inc: 7, Status: api.Alive}, {Inc: 8, Status: api.Left}},
		Low: []byte{9}, High: []byte{10, 11}, Count: 12, Root: api.Digest{13, 31: 14}, Want: true,
		Records: []api.Record{{Kind: api.RecordBase, Holder: 15, Inc: 16}, {Kind: api.RecordPiece, Object: api.Digest{17}, Holder: 3, Inc: 18, Num: 19, Held: true, K: 20, N: 21}},
		Object:  api.Digest{22, 23, 24, 25, 26, 31: 27},
		Manifest: api.Manifest{
			K: 1, N: 2, Total: 3, Size: 4, Object: api.Digest{28}, Pieces: []api.Digest{{29}, {30}, {31}},
		},
		Piece: api.Piece{Index: 2, Data: []byte{32, 33, 34, 35}}, Code: api.ErrQuota,
	}
	m := api.Message{Kind: kind, From: 0, To: 1}
	from, to := reflect.ValueOf(whole), reflect.ValueOf(&m).Elem()
	for _, field := range modelFields(kind) {
		to.FieldByName(field).Set(from.FieldByName(field))
	}
	return plain(m)
}

// kinds returns all kinds of messages.
func kinds() []api.Kind {
	var list []api.Kind
	for k := api.Kind(1); k <= lastKind; k++ {
		list = append(list, k)
	}
	return list
}

// changed returns a valid or other message with a change.
func changed(m api.Message, change func(m *api.Message)) api.Message {
	m = plain(m)
	change(&m)
	return m
}

// encode returns the frame of a valid message.
func encode(t *testing.T, m api.Message) []byte {
	t.Helper()
	b, e := wire.Encode(m)
	if e != api.OK {
		t.Fatalf("Encode of %v returns %d", m, e)
	}
	return b
}

// expectDecode checks a Decode: the message of these bytes if the error is OK.
func expectDecode(t *testing.T, name string, b []byte, want api.Message, code api.Errno) {
	t.Helper()
	if m, e := wire.Decode(b); e != code || !same(m, want) {
		t.Errorf("%s: Decode of %d bytes returns %v, %d instead of %v, %d", name, len(b), m, e, want, code)
	}
}

// expectError checks that Decode returns an error.
func expectError(t *testing.T, name string, b []byte, code api.Errno) {
	t.Helper()
	expectDecode(t, name, b, api.Message{}, code)
}
