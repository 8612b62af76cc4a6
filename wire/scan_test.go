package wire_test

import (
	"bytes"
	"math/rand/v2"
	"slices"
	"testing"

	"stolon/api"
	"stolon/wire"
)

// expectScan checks a Scan.
func expectScan(t *testing.T, name string, b []byte, want []api.Message, length int, code api.Errno) {
	t.Helper()
	kept := bytes.Clone(b)
	messages, n, e := wire.Scan(b)
	if e != code || n != length || !slices.EqualFunc(messages, want, same) {
		t.Errorf("%s: Scan returns %d messages, %d, %d instead of %d, %d, %d", name, len(messages), n, e, len(want), length, code)
	}
	if !bytes.Equal(b, kept) {
		t.Errorf("%s: the argument has changed", name)
	}
}

// framesOf returns the frames of messages, one after another.
func framesOf(messages ...api.Message) []byte {
	var b []byte
	for _, m := range messages {
		b = append(b, modelFrame(m)...)
	}
	return b
}

// P8.3: the example of the chapter, and frames of other kinds.
func TestScanExamples(t *testing.T) {
	keep := api.Message{Kind: api.KindKeep, From: 2, To: 0}
	b := framesOf(keep, keep)
	expectScan(t, "twice, and 20 bytes", append(bytes.Clone(b), b[:20]...), []api.Message{keep, keep}, 92, api.OK)
	expectScan(t, "nothing", nil, nil, 0, api.OK)
	expectScan(t, "nothing", []byte{}, nil, 0, api.OK)
	expectScan(t, "one", framesOf(keep), []api.Message{keep}, 46, api.OK)
	var all []api.Message
	for _, kind := range kinds() {
		all = append(all, small(kind))
	}
	expectScan(t, "all kinds", framesOf(all...), all, len(framesOf(all...)), api.OK)
}

// P8.3, P8.6: frames, and then every beginning of a further one.
func TestScanOfBeginnings(t *testing.T) {
	for _, before := range [][]api.Message{nil, {small(api.KindSum)}, {small(api.KindOffer), small(api.KindAsk), small(api.KindItems)}} {
		b := framesOf(before...)
		for _, kind := range kinds() {
			next := modelFrame(small(kind))
			for n := range next {
				expectScan(t, "a beginning of "+modelName(kind), slices.Concat(b, next[:n]), before, len(b), api.OK)
			}
			whole := append(slices.Clone(before), small(kind))
			expectScan(t, "all of "+modelName(kind), slices.Concat(b, next), whole, len(b)+len(next), api.OK)
		}
	}
}

// P8.3: fewer than 10 bytes are not examined, whatever they are.
func TestScanOfFewBytes(t *testing.T) {
	before := []api.Message{small(api.KindStored), small(api.KindPing)}
	b := framesOf(before...)
	for n := range 10 {
		for _, v := range []byte{0, 1, 0x53, 255} {
			rest := bytes.Repeat([]byte{v}, n)
			expectScan(t, "a short rest alone", rest, nil, 0, api.OK)
			expectScan(t, "a short rest", slices.Concat(b, rest), before, len(b), api.OK)
		}
	}
	expectScan(t, "10 bytes of another form alone", make([]byte, 10), nil, 0, api.ErrForm)
	expectScan(t, "10 bytes of another form", slices.Concat(b, make([]byte, 10)), before, len(b), api.ErrForm)
}

// P8.3: each error of Decode but the ends of bytes, after no frame and after some, and whatever follows.
func TestScanErrors(t *testing.T) {
	good := modelFrame(small(api.KindLack))
	edit := func(at int, to byte) []byte {
		b := bytes.Clone(good)
		b[at] = to
		return b
	}
	for _, c := range []struct {
		name string
		b    []byte
		code api.Errno
	}{
		{"the first byte", edit(0, 0), api.ErrForm},
		{"the second byte", edit(1, 0), api.ErrForm},
		{"the version", edit(2, 0), api.ErrVersion},
		{"the first byte and the version", append([]byte{0, 0x57, 0}, good[3:]...), api.ErrForm},
		{"the first byte, and no body", edit(0, 0)[:10], api.ErrForm},
		{"the version, and no body", edit(2, 2)[:10], api.ErrVersion},
		{"a length above the limit, and no body", edit(7, 1)[:10], api.ErrLong},
		{"a length above the limit by one", slices.Concat(good[:6], u32(20001)), api.ErrLong},
		{"a length of 2^32 - 1", append(good[:6:6], 255, 255, 255, 255), api.ErrLong},
		{"the checksum", edit(45, good[45]+1), api.ErrSum},
		{"the body", edit(20, good[20]+1), api.ErrSum},
		{"the kind, but not the checksum", edit(3, 99), api.ErrSum},
		{"the kind", frameOf(14, 1, 2, make([]byte, 32)), api.ErrArg},
		{"the kind 0, and no body", frameOf(0, 1, 2, nil), api.ErrArg},
		{"a short body", frameOf(api.KindLack, 1, 2, make([]byte, 31)), api.ErrForm},
		{"no body", frameOf(api.KindLack, 1, 2, nil), api.ErrForm},
		{"a long body", frameOf(api.KindLack, 1, 2, make([]byte, 33)), api.ErrForm},
		{"a message that is not valid", frameOf(api.KindLack, 2, 2, make([]byte, 32)), api.ErrArg},
	} {
		for _, before := range [][]api.Message{nil, {small(api.KindAck)}, {small(api.KindOffer), small(api.KindLack)}} {
			b := framesOf(before...)
			for _, after := range [][]byte{nil, {7}, make([]byte, 100), good} {
				if after == nil || len(c.b) > 10 {
					expectScan(t, c.name, slices.Concat(b, c.b, after), before, len(b), c.code)
				}
			}
		}
	}
}

// P8.3: a frame that is not complete is not examined beyond what tells its length.
func TestScanOfIncompleteFrames(t *testing.T) {
	before := []api.Message{small(api.KindKeep)}
	b := framesOf(before...)
	for _, next := range [][]byte{
		frameOf(77, 99, 99, make([]byte, 50)),
		slices.Concat([]byte{0x53, 0x57, 1, 0, 200, 200}, u32(20000), make([]byte, 20003)),
		slices.Concat([]byte{0x53, 0x57, 1, 13, 1, 1}, u32(0), []byte{1, 2, 3}),
	} {
		for _, n := range []int{0, 1, 9, 10, 11, 12, len(next) - 5, len(next) - 1} {
			if n < len(next) {
				expectScan(t, "a part", slices.Concat(b, next[:n]), before, len(b), api.OK)
			}
		}
	}
	// A longer length makes the frames that follow a part of the body.
	long := framesOf(small(api.KindAsk))
	copy(long[6:], u32(33))
	expectScan(t, "one more byte", long, nil, 0, api.OK)
	expectScan(t, "one more byte, which follows", append(long, b...), nil, 0, api.ErrSum)
}

// P8.3: frames with random changes, against the model.
func TestScanAgainstTheModel(t *testing.T) {
	r := rand.New(rand.NewPCG(8, 7))
	counts := map[api.Errno]int{}
	for range 8000 {
		var b []byte
		for range r.IntN(6) {
			b = append(b, modelFrame(small(api.Kind(1+r.IntN(int(lastKind)))))...)
		}
		if r.IntN(2) == 0 {
			b = append(b, mutated(r, modelFrame(small(api.Kind(1+r.IntN(int(lastKind))))))...)
		}
		if r.IntN(4) == 0 && len(b) > 0 {
			b[r.IntN(len(b))] ^= 1 << r.IntN(8)
		}
		if r.IntN(4) == 0 {
			b = b[:r.IntN(len(b)+1)]
		}
		want, n, code := modelScan(b)
		counts[code]++
		expectScan(t, "changed frames", b, want, n, code)
	}
	for _, code := range []api.Errno{api.OK, api.ErrForm, api.ErrVersion, api.ErrLong, api.ErrSum, api.ErrArg} {
		if counts[code] < 20 {
			t.Error("too few results", code, counts)
		}
	}
}

// P8.6: random messages, with the beginning of a further frame after their frames.
func TestScanOfRandomMessages(t *testing.T) {
	r := rand.New(rand.NewPCG(8, 8))
	for range 150 {
		var messages []api.Message
		for range r.IntN(5) {
			messages = append(messages, randomMessage(r, api.Kind(1+r.IntN(int(lastKind)))))
		}
		b := framesOf(messages...)
		next := modelFrame(randomMessage(r, api.Kind(1+r.IntN(int(lastKind)))))
		expectScan(t, "random messages", append(bytes.Clone(b), next[:r.IntN(len(next))]...), messages, len(b), api.OK)
	}
}

// R4: the messages share no memory with the bytes.
func TestScanSharesNothing(t *testing.T) {
	var want []api.Message
	for _, kind := range kinds() {
		want = append(want, small(kind), small(kind))
	}
	b := framesOf(want...)
	messages, _, _ := wire.Scan(b)
	clear(b)
	for i := range messages {
		if !same(messages[i], want[i]) {
			t.Error("a message shares memory", messages[i])
		}
		spoil(&messages[i])
	}
}
