package wire_test

import (
	"bytes"
	"encoding/hex"
	"math"
	"math/rand/v2"
	"reflect"
	"slices"
	"testing"

	"stolon/api"
	"stolon/wire"
)

// P8.1, P8.2: the examples of the chapter.
func TestFrameExamples(t *testing.T) {
	keep := api.Message{Kind: api.KindKeep, From: 2, To: 0}
	b := encode(t, keep)
	if len(b) != 46 || !bytes.HasPrefix(b, []byte{0x53, 0x57, 1, 0x0D, 2, 0, 0, 0, 0, 0x20}) {
		t.Error("a keep", b)
	}
	expectDecode(t, "a keep", b, keep, api.OK)
	expectError(t, "without its last byte", b[:45], api.ErrShort)
	expectError(t, "with one more byte", append(bytes.Clone(b), 0), api.ErrLong)
	other := bytes.Clone(b)
	other[2] = 2
	expectError(t, "another version", other, api.ErrVersion)
	ping := api.Message{Kind: api.KindPing, From: 0, To: 1, Table: make([]api.Member, 3)}
	if n, e := wire.Size(ping); e != api.OK || n != 37+14 {
		t.Error("a ping", n, e)
	}
	if body := encode(t, ping)[6:10]; !bytes.Equal(body, []byte{0, 0, 0, 37}) {
		t.Error("the body of a ping", body)
	}
}

// P8.1: the frames of all forms, written out.
func TestFrameBytes(t *testing.T) {
	const (
		object   = "161718191a00000000000000000000000000000000000000000000000000001b"
		table    = "02" + "000000000000000701" + "000000000000000804"
		zeros    = "00000000000000000000000000000000000000000000000000000000000000" // 31 bytes
		manifest = "4d01" + "010203" + "0004" + "1c" + zeros + "1d" + zeros + "1e" + zeros + "1f" + zeros
	)
	for kind, want := range map[api.Kind]string{
		api.KindPing:    "53570101000100" + "00001c" + "0102030405060708" + "05" + table,
		api.KindAck:     "53570102000100" + "00001c" + "0102030405060708" + "05" + table,
		api.KindPingReq: "53570103000100" + "00001c" + "0102030405060708" + "06" + table,
		api.KindSum:     "53570104000100" + "00002b" + "000109" + "00020a0b" + "0000000c" + "0d" + zeros[2:] + "0e",
		api.KindItems: "53570105000100" + "000074" + "000109" + "00020a0b" + "01" + "0002" +
			"01" + "00" + zeros + "0f" + "0000000000000010" + "0000000000000000" + "00" + "00" + "00" +
			"03" + "11" + zeros + "03" + "0000000000000012" + "0000000000000013" + "01" + "14" + "15",
		api.KindClaim:   "53570106000100" + "000020" + object,
		api.KindFetch:   "53570107000100" + "000020" + object,
		api.KindOffer:   "53570108000100" + "0000b1" + object + "0087" + manifest + "0002" + "0004" + "20212223",
		api.KindLack:    "53570109000100" + "000020" + object,
		api.KindInstall: "5357010a000100" + "0000b1" + object + "0087" + manifest + "0002" + "0004" + "20212223",
		api.KindStored:  "5357010b000100" + "000022" + object + "0028",
		api.KindAsk:     "5357010c000100" + "000020" + object,
		api.KindKeep:    "5357010d000100" + "000020" + object,
	} {
		b := encode(t, small(kind))
		if got := hex.EncodeToString(b[:len(b)-4]); got != want {
			t.Errorf("the frame of a %s is\n%s instead of\n%s", modelName(kind), got, want)
		}
		if !bytes.Equal(b, sealed(b[:len(b)-4])) {
			t.Errorf("the checksum of a %s is %v", modelName(kind), b[len(b)-4:])
		}
	}
	// The checksum of a keep, computed outside of this program.
	b := encode(t, api.Message{Kind: api.KindKeep, From: 2, To: 0})
	if got := hex.EncodeToString(b[42:]); got != "adc9c2e3" {
		t.Error("the checksum of a keep is", got)
	}
}

// P8.1: the frames of the largest messages, all of which are within the limit of a body.
func TestLargestFrames(t *testing.T) {
	largest := api.Message{
		Table: make([]api.Member, 16), Low: make([]byte, 34), High: make([]byte, 34), Records: slices.Repeat([]api.Record{{Kind: api.RecordGrave}}, 64),
		Manifest: api.Manifest{K: 1, N: 1, Total: 255, Pieces: make([]api.Digest, 255)}, Piece: api.Piece{Data: make([]byte, 8192)},
	}
	for kind, size := range map[api.Kind]int{
		api.KindPing: 8 + 1 + 1 + 16*9, api.KindPingReq: 8 + 1 + 1 + 16*9, api.KindSum: 36 + 36 + 4 + 32, api.KindItems: 36 + 36 + 1 + 2 + 64*53,
		api.KindOffer: 32 + 2 + 39 + 255*32 + 2 + 2 + 8192, api.KindInstall: 32 + 2 + 39 + 255*32 + 2 + 2 + 8192, api.KindStored: 34, api.KindAsk: 32,
	} {
		m := api.Message{Kind: kind, From: 3, To: 4}
		from, to := reflect.ValueOf(largest), reflect.ValueOf(&m).Elem()
		for _, field := range modelFields(kind) {
			to.FieldByName(field).Set(from.FieldByName(field))
		}
		if n, e := wire.Size(m); e != api.OK || n != size+14 {
			t.Errorf("Size of a %s is %d, %d", modelName(kind), n, e)
		}
		expectValid(t, modelName(kind), m)
	}
}

// P8.2: of bytes with all errors, the one that is named first; as each one is removed, the next one shows.
func TestDecodeOrder(t *testing.T) {
	expectError(t, "9 bytes of nothing", []byte{1, 2, 9, 200, 77, 77, 255, 255, 255}, api.ErrShort)
	head := []byte{1, 2, 9, 200, 77, 77, 0, 0, 0x4E, 0x21} // 20001 bytes of a body
	expectError(t, "the first two bytes", head, api.ErrForm)
	head[0] = 0x53
	expectError(t, "the second byte", head, api.ErrForm)
	head[0], head[1] = 1, 0x57
	expectError(t, "the first byte", head, api.ErrForm)
	head[0] = 0x53
	expectError(t, "the version", head, api.ErrVersion)
	head[2] = 1
	expectError(t, "the length of the body", head, api.ErrLong)
	head[9] = 0x20
	expectError(t, "too few bytes", head, api.ErrShort)
	expectError(t, "too few bytes", append(bytes.Clone(head), make([]byte, 20003)...), api.ErrShort)
	expectError(t, "too many bytes", append(bytes.Clone(head), make([]byte, 20005)...), api.ErrLong)
	whole := append(bytes.Clone(head), make([]byte, 20000)...)
	expectError(t, "the checksum", append(bytes.Clone(whole), 1, 2, 3, 4), api.ErrSum)
	expectError(t, "the kind", sealed(whole), api.ErrArg)
	whole[3] = byte(api.KindAsk)
	expectError(t, "the form", sealed(whole), api.ErrForm)
	expectError(t, "From and To", frameOf(api.KindAsk, 77, 77, make([]byte, 32)), api.ErrArg)
	expectError(t, "To", frameOf(api.KindAsk, 7, 77, make([]byte, 32)), api.ErrArg)
	expectError(t, "the same peer", frameOf(api.KindAsk, 7, 7, make([]byte, 32)), api.ErrArg)
	expectDecode(t, "nothing", frameOf(api.KindAsk, 7, 8, make([]byte, 32)), api.Message{Kind: api.KindAsk, From: 7, To: 8}, api.OK)
}

// P8.2: the first bytes of a frame, with every value.
func TestDecodeHead(t *testing.T) {
	expectError(t, "no bytes", nil, api.ErrShort)
	expectError(t, "no bytes", []byte{}, api.ErrShort)
	good := encode(t, small(api.KindLack))
	edit := func(at int, to byte) []byte {
		b := bytes.Clone(good)
		b[at] = to
		return b
	}
	for n := range good {
		expectError(t, "a part of a frame", good[:n], api.ErrShort)
	}
	for n := 1; n < 100; n++ {
		expectError(t, "too many bytes", append(bytes.Clone(good), make([]byte, n)...), api.ErrLong)
	}
	expectError(t, "two frames", append(bytes.Clone(good), good...), api.ErrLong)
	for v := range 256 {
		to := byte(v)
		if to != 0x53 {
			expectError(t, "the first byte", edit(0, to), api.ErrForm)
			expectError(t, "the first byte alone", edit(0, to)[:10], api.ErrForm)
		}
		if to != 0x57 {
			expectError(t, "the second byte", edit(1, to), api.ErrForm)
		}
		if to != 1 {
			expectError(t, "the version", edit(2, to), api.ErrVersion)
			expectError(t, "the version alone", edit(2, to)[:10], api.ErrVersion)
		}
		if to != good[3] {
			expectError(t, "the kind, but not the checksum", edit(3, to), api.ErrSum)
		}
		if modelName(api.Kind(to)) == "" {
			expectError(t, "the kind", frameOf(api.Kind(to), 0, 1, make([]byte, 32)), api.ErrArg)
			expectError(t, "the kind, and no body", frameOf(api.Kind(to), 0, 1, nil), api.ErrArg)
			expectError(t, "the kind, and no peers", frameOf(api.Kind(to), 16, 16, nil), api.ErrArg)
		}
		if to > 15 {
			expectError(t, "From", frameOf(api.KindLack, v, 1, make([]byte, 32)), api.ErrArg)
			expectError(t, "To", frameOf(api.KindLack, 1, v, make([]byte, 32)), api.ErrArg)
		}
	}
	for _, at := range []int{6, 7} {
		for v := 1; v < 256; v++ {
			expectError(t, "a length above the limit", edit(at, byte(v)), api.ErrLong)
		}
	}
	expectError(t, "a length of 2^32 - 1", append(good[:6:6], 255, 255, 255, 255), api.ErrLong)
	expectError(t, "a length of 2^32 - 14", append(good[:6:6], 255, 255, 255, 242), api.ErrLong)
	expectError(t, "a length of 2^31", append(good[:6:6], 128, 0, 0, 0), api.ErrLong)
	for length := range 20100 {
		want := api.ErrShort
		switch {
		case length > 20000:
			want = api.ErrLong
		case length < 32:
			want = api.ErrLong
		case length == 32:
			continue
		}
		expectError(t, "another length", slices.Concat(good[:6], u32(length), good[10:]), want)
	}
	for _, at := range []int{10, 41, 42, 43, 44, 45} {
		for v := 1; v < 256; v++ {
			expectError(t, "the checksum", edit(at, good[at]^byte(v)), api.ErrSum)
		}
	}
}

// P8.2: bodies that end too early or too late.
func TestDecodeOfBodiesOfOtherLengths(t *testing.T) {
	r := rand.New(rand.NewPCG(8, 3))
	for _, kind := range kinds() {
		body := modelBody(small(kind))
		expectDecode(t, modelName(kind), frameOf(kind, 0, 1, body), small(kind), api.OK)
		for n := range body {
			expectError(t, modelName(kind)+" that is too short", frameOf(kind, 0, 1, body[:n]), api.ErrForm)
			expectError(t, modelName(kind)+" that is too short, from no peer", frameOf(kind, 99, 1, body[:n]), api.ErrForm)
		}
		for n := 1; n < 60; n++ {
			more := slices.Concat(body, make([]byte, n))
			expectError(t, modelName(kind)+" that is too long", frameOf(kind, 0, 1, more), api.ErrForm)
		}
		expectError(t, modelName(kind)+" of zeros", frameOf(kind, 0, 1, make([]byte, 20000)), api.ErrForm)
		expectError(t, modelName(kind)+" of large numbers", frameOf(kind, 0, 1, bytes.Repeat([]byte{255}, 20000)), api.ErrForm)
		for other := api.Kind(1); other <= lastKind; other++ {
			m, e := modelDecode(frameOf(other, 0, 1, body))
			expectDecode(t, "the body of another kind", frameOf(other, 0, 1, body), m, e)
		}
		m := randomMessage(r, kind)
		body = modelBody(m)
		expectError(t, modelName(kind)+" without its last byte", frameOf(kind, m.From, m.To, body[:len(body)-1]), api.ErrForm)
	}
}

// P8.2: what a body contains: its form comes first, then whether the message is valid.
func TestDecodeOfBodies(t *testing.T) {
	expect := func(name string, code api.Errno, kind api.Kind, parts ...[]byte) {
		t.Helper()
		expectError(t, modelName(kind)+": "+name, frameOf(kind, 0, 1, slices.Concat(parts...)), code)
	}
	entry := slices.Concat(u64(1), u8(1))
	for _, kind := range []api.Kind{api.KindPing, api.KindAck, api.KindPingReq} {
		expect("a peer", api.ErrArg, kind, u64(1), u8(16), u8(1), entry)
		expect("a peer", api.ErrArg, kind, u64(1), u8(255), u8(1), entry)
		expect("a peer, and fewer entries", api.ErrForm, kind, u64(1), u8(16), u8(2), entry)
		expect("no entries", api.ErrArg, kind, u64(1), u8(1), u8(0))
		expect("17 entries", api.ErrArg, kind, u64(1), u8(1), u8(17), bytes.Repeat(entry, 17))
		expect("255 entries", api.ErrArg, kind, u64(1), u8(1), u8(255), bytes.Repeat(entry, 255))
		expect("17 entries of 18", api.ErrForm, kind, u64(1), u8(1), u8(18), bytes.Repeat(entry, 17))
		expect("a status", api.ErrArg, kind, u64(1), u8(1), u8(1), u64(1), u8(5))
		expect("an absent peer with an incarnation", api.ErrArg, kind, u64(1), u8(1), u8(1), u64(1), u8(0))
		expect("a live peer without an incarnation", api.ErrArg, kind, u64(1), u8(1), u8(1), u64(0), u8(1))
	}
	bounds := slices.Concat(text([]byte{1}), text([]byte{2}))
	root := make([]byte, 32)
	expect("Low", api.ErrArg, api.KindSum, text(make([]byte, 35)), text(nil), u32(0), root)
	expect("High", api.ErrArg, api.KindSum, text(nil), text(make([]byte, 35)), u32(0), root)
	expect("a long Low", api.ErrArg, api.KindSum, text(make([]byte, 19000)), text(nil), u32(0), root)
	expect("a long Low, and no more", api.ErrForm, api.KindSum, text(make([]byte, 19000)))
	expect("Count", api.ErrArg, api.KindSum, bounds, u32(1<<20+1), root)
	expect("Count", api.ErrArg, api.KindSum, bounds, u32(math.MaxInt32), root)
	expect("Count", api.ErrArg, api.KindSum, bounds, []byte{128, 0, 0, 0}, root)
	expect("Count", api.ErrArg, api.KindSum, bounds, []byte{255, 255, 255, 255}, root)
	expect("Count, and a short Root", api.ErrForm, api.KindSum, bounds, u32(1<<20+1), root[:31])
	object := make([]byte, 32)
	for _, code := range []int{1000, 1024, 65535} {
		expect("Code", api.ErrArg, api.KindStored, object, u16(code))
		expect("Code, and a byte", api.ErrForm, api.KindStored, object, u16(code), u8(0))
	}
	for from := range 20 {
		for to := range 20 {
			want, code := api.Message{}, api.ErrArg
			if from < 16 && to < 16 && from != to {
				want, code = api.Message{Kind: api.KindFetch, From: from, To: to}, api.OK
			}
			expectDecode(t, "the peers", frameOf(api.KindFetch, from, to, object), want, code)
		}
	}
}

// P8.2: the bodies of items.
func TestDecodeOfItems(t *testing.T) {
	expect := func(name string, code api.Errno, parts ...[]byte) {
		t.Helper()
		expectError(t, name, frameOf(api.KindItems, 0, 1, slices.Concat(parts...)), code)
	}
	bounds := slices.Concat(text([]byte{1}), text([]byte{2}))
	piece := small(api.KindItems).Records[1]
	good := recordBytes(piece)
	edit := func(at int, to byte) []byte {
		b := bytes.Clone(good)
		b[at] = to
		return b
	}
	for v := range 256 {
		b := frameOf(api.KindItems, 0, 1, slices.Concat(bounds, u8(v), u16(1), good))
		m, e := wire.Decode(b)
		if v < 2 && (e != api.OK || m.Want != (v == 1) || len(m.Records) != 1 || m.Records[0] != piece) {
			t.Error("Want is", v, m, e)
		}
		if v >= 2 {
			expectError(t, "Want", b, api.ErrForm)
			expect("Want and Low", api.ErrForm, text(make([]byte, 35)), text(nil), u8(v), u16(0))
		}
	}
	expect("Held", api.ErrForm, bounds, u8(1), u16(1), edit(50, 2))
	expect("a record that is not valid", api.ErrForm, bounds, u8(1), u16(1), edit(0, 4))
	expect("a holder", api.ErrForm, bounds, u8(1), u16(1), edit(33, 16))
	expect("K above N", api.ErrForm, bounds, u8(1), u16(1), edit(51, 22))
	expect("the second record", api.ErrForm, bounds, u8(1), u16(2), good, edit(0, 0))
	expect("the first record", api.ErrForm, bounds, u8(1), u16(2), edit(0, 0), good)
	expect("more records", api.ErrForm, bounds, u8(1), u16(1), good, good)
	expect("fewer records", api.ErrForm, bounds, u8(1), u16(2), good)
	expect("a part of a record", api.ErrForm, bounds, u8(1), u16(1), good[:52])
	expect("no record", api.ErrForm, bounds, u8(1), u16(1))
	expect("65535 records", api.ErrForm, bounds, u8(1), u16(65535), bytes.Repeat(good, 370))
	expect("65 records", api.ErrArg, bounds, u8(1), u16(65), bytes.Repeat(good, 65))
	expect("370 records", api.ErrArg, bounds, u8(1), u16(370), bytes.Repeat(good, 370))
	expect("65 records, the last of which is not valid", api.ErrForm, bounds, u8(1), u16(65), bytes.Repeat(good, 64), edit(0, 9))
	expect("Low", api.ErrArg, text(make([]byte, 35)), text(nil), u8(0), u16(0))
	expect("High", api.ErrArg, text(nil), text(make([]byte, 35)), u8(0), u16(0))
	expect("Low and a record", api.ErrForm, text(make([]byte, 35)), text(nil), u8(0), u16(1), edit(0, 9))
}

// P8.2: the bodies of offers and installs.
func TestDecodeOfPieces(t *testing.T) {
	object := make([]byte, 32)
	good := manifestBytes(small(api.KindOffer).Manifest)
	edit := func(at int, to byte) []byte {
		b := bytes.Clone(good)
		b[at] = to
		return b
	}
	for _, kind := range []api.Kind{api.KindOffer, api.KindInstall} {
		expect := func(name string, code api.Errno, parts ...[]byte) {
			t.Helper()
			expectError(t, modelName(kind)+": "+name, frameOf(kind, 0, 1, slices.Concat(parts...)), code)
		}
		rest := slices.Concat(u16(2), text([]byte("data")))
		expect("no manifest", api.ErrForm, object, text(nil), rest)
		expect("a short manifest", api.ErrForm, object, text(good[:6]), rest)
		expect("the mark", api.ErrForm, object, text(edit(0, 78)), rest)
		expect("the version of a manifest", api.ErrForm, object, text(edit(1, 2)), rest)
		expect("K is 0", api.ErrForm, object, text(edit(2, 0)), rest)
		expect("K above N", api.ErrForm, object, text(edit(2, 3)), rest)
		expect("N above Total", api.ErrForm, object, text(edit(3, 4)), rest)
		expect("a greater Total", api.ErrForm, object, text(edit(4, 4)), rest)
		expect("a smaller Total", api.ErrForm, object, text(edit(4, 2)), rest)
		expect("Size", api.ErrForm, object, text(edit(5, 33)), rest)
		expect("a manifest without its last byte", api.ErrForm, object, text(good[:len(good)-1]), rest)
		expect("a manifest with one more byte", api.ErrForm, object, text(append(bytes.Clone(good), 0)), rest)
		expect("Index", api.ErrArg, object, text(good), u16(3), text([]byte("data")))
		expect("Index", api.ErrArg, object, text(good), u16(258), text([]byte("data")))
		expect("Index", api.ErrArg, object, text(good), u16(65535), text([]byte("data")))
		expect("Index and the manifest", api.ErrForm, object, text(edit(0, 78)), u16(3), text([]byte("data")))
		expect("Data", api.ErrArg, object, text(good), u16(2), text(make([]byte, 8193)))
		expect("Data", api.ErrArg, object, text(good), u16(2), text(make([]byte, 19000)))
		expect("Data and a byte", api.ErrForm, object, text(good), u16(2), text(make([]byte, 8193)), u8(0))
		expect("less Data", api.ErrForm, object, text(good), u16(2), u16(5), []byte("data"))
		expect("more Data", api.ErrForm, object, text(good), u16(2), u16(3), []byte("data"))
	}
}

// P8.2, P8.6: frames with random changes, against the model; what is accepted is the frame of the message.
func TestDecodeAgainstTheModel(t *testing.T) {
	r := rand.New(rand.NewPCG(8, 4))
	counts := map[api.Errno]int{}
	for range 60000 {
		m := small(api.Kind(1 + r.IntN(int(lastKind))))
		if r.IntN(8) == 0 {
			m = randomMessage(r, m.Kind)
		}
		b := mutated(r, modelFrame(m))
		kept := bytes.Clone(b)
		want, code := modelDecode(b)
		counts[code]++
		expectDecode(t, "a changed "+modelName(m.Kind), b, want, code)
		if !bytes.Equal(b, kept) {
			t.Fatal("the argument has changed")
		}
		if code == api.OK && !bytes.Equal(encode(t, want), b) {
			t.Fatal("these bytes are accepted and are not the frame of", want)
		}
	}
	for _, code := range []api.Errno{api.OK, api.ErrShort, api.ErrForm, api.ErrVersion, api.ErrLong, api.ErrSum, api.ErrArg} {
		if counts[code] < 300 {
			t.Error("too few results", code, counts)
		}
	}
}

// mutated returns a frame with changes, mostly with the right length and checksum.
func mutated(r *rand.Rand, frame []byte) []byte {
	head, body := bytes.Clone(frame[:10]), bytes.Clone(frame[10:len(frame)-4])
	for range r.IntN(3) {
		at := r.IntN(len(body))
		switch r.IntN(8) {
		case 0:
			body = body[:at+1]
		case 1:
			body = slices.Insert(body, at, byte(r.Uint32()))
		case 2:
			if len(body) > 1 {
				body = slices.Delete(body, at, at+1)
			}
		case 3, 4:
			body[at] = byte(r.Uint32())
		default:
			body[at] ^= 1 << r.IntN(8)
		}
	}
	head = slices.Concat(head[:6], u32(len(body)))
	switch r.IntN(10) {
	case 0:
		head[r.IntN(10)] ^= 1 << r.IntN(8)
	case 1:
		head[3+r.IntN(3)] = byte(r.IntN(18))
	case 2:
		head[8] = byte(r.IntN(90))
	}
	b := sealed(slices.Concat(head, body))
	switch r.IntN(12) {
	case 0:
		b = b[:r.IntN(len(b)+1)]
	case 1:
		b = append(b, byte(r.Uint32()))
	case 2:
		b[r.IntN(len(b))] ^= 1 << r.IntN(8)
	}
	return b
}

// P8.2: bytes that are no frames at all.
func TestDecodeOfAnyBytes(t *testing.T) {
	r := rand.New(rand.NewPCG(8, 5))
	for range 20000 {
		b := randomBytes(r, 80)
		if n := r.IntN(8); n < len(b) && r.IntN(2) == 0 {
			copy(b, []byte{0x53, 0x57, 1, byte(r.IntN(15)), 1, 2, 0, 0}[:n])
		}
		m, e := modelDecode(b)
		expectDecode(t, "any bytes", b, m, e)
	}
}

// R4: a message shares no memory with the frame, and frames share none with each other.
func TestFramesShareNothing(t *testing.T) {
	for _, kind := range kinds() {
		want := small(kind)
		b := modelFrame(want)
		one, _ := wire.Decode(b)
		two, _ := wire.Decode(b)
		clear(b)
		if !same(one, want) {
			t.Error("a message shares memory with its frame", one)
		}
		spoil(&one)
		if !same(two, want) {
			t.Error("two messages share memory", two)
		}
		b = encode(t, want)
		clear(b)
		_ = append(b[:1], 200)
		if !bytes.Equal(encode(t, want), modelFrame(want)) || !same(want, small(kind)) {
			t.Error("a frame shares memory", want)
		}
	}
}

// spoil overwrites all that the slices of a message refer to.
func spoil(m *api.Message) {
	for _, b := range [][]byte{m.Low, m.High, m.Piece.Data} {
		overwrite(b, 201)
	}
	overwrite(m.Table, api.Member{Inc: 202, Status: 203})
	overwrite(m.Records, api.Record{Kind: 204})
	overwrite(m.Manifest.Pieces, api.Digest{205})
}

// overwrite overwrites a slice, also behind its end.
func overwrite[T any](list []T, with T) {
	for i := range list[:cap(list)] {
		list[:cap(list)][i] = with
	}
}
