package swarm_test

import (
	"bytes"
	"encoding/binary"
	"math/rand/v2"
	"slices"
	"testing"

	"stolon/api"
	"stolon/swarm"
)

// sameEvents reports whether two lists have the same events.
func sameEvents(a, b []api.Event) bool {
	return slices.EqualFunc(a, b, func(x, y api.Event) bool {
		return x.Kind == y.Kind && x.Peer == y.Peer && x.A == y.A && x.B == y.B && x.Draw == y.Draw && bytes.Equal(x.Data, y.Data)
	})
}

// P10.1: which setups are valid.
func TestValid(t *testing.T) {
	for _, s := range []api.Setup{
		{Peers: 2, Blocks: 4}, {Peers: 16, Blocks: 4096, Quota: 1<<32 - 1}, {Peers: 3, Blocks: 64, Quota: 1000},
	} {
		if !swarm.Valid(s) {
			t.Error("not valid:", s)
		}
	}
	for _, s := range invalidSetups() {
		if swarm.Valid(s) {
			t.Error("valid:", s)
		}
	}
}

// invalidSetups returns setups that are not valid.
func invalidSetups() []api.Setup {
	return []api.Setup{
		{}, {Peers: 1, Blocks: 64, Quota: 1}, {Peers: 17, Blocks: 64, Quota: 1}, {Peers: -2, Blocks: 64, Quota: 1}, {Peers: 258, Blocks: 64, Quota: 1},
		{Peers: 3, Blocks: 3, Quota: 1}, {Peers: 3, Blocks: 4097, Quota: 1}, {Peers: 3, Blocks: -64, Quota: 1}, {Peers: 3, Blocks: 1<<16 + 64, Quota: 1},
		{Peers: 3, Blocks: 64, Quota: -1}, {Peers: 3, Blocks: 64, Quota: 1 << 32}, {Peers: 3, Blocks: 64, Quota: 1<<63 - 1}, {Peers: 3, Blocks: 64, Quota: -1 << 63},
	}
}

// Example 1, P10.1: the bytes of a script.
func TestScript(t *testing.T) {
	data := []byte("xyz")
	for _, x := range []struct {
		name   string
		setup  api.Setup
		events []api.Event
		want   string
	}{
		{"no events", api.Setup{Peers: 16, Blocks: 4096, Quota: 1<<32 - 1}, nil, "\x10\x10\x00\xff\xff\xff\xff"},
		{"example 1", api.Setup{Peers: 3, Blocks: 64, Quota: 1000}, []api.Event{{Kind: api.EvStart}},
			"\x03\x00\x40\x00\x00\x03\xe8\x08\x00\x00\x00\x00\x00\x00\x00\x00\x00\x00\x00\x00\x00\x00\x00"},
		{"all fields", api.Setup{Peers: 2, Blocks: 4}, []api.Event{
			{Kind: 5, Peer: 7, A: 0x0102, B: 0xfffe, Draw: 0x1122334455667788, Data: data},
			{Kind: 255, Peer: 255, A: 65535, B: 65535, Draw: 1<<64 - 1},
		}, "\x02\x00\x04\x00\x00\x00\x00" +
			"\x05\x07\x01\x02\xff\xfe\x11\x22\x33\x44\x55\x66\x77\x88\x00\x03xyz" +
			"\xff\xff\xff\xff\xff\xff\xff\xff\xff\xff\xff\xff\xff\xff\x00\x00"},
	} {
		if b, e := swarm.Script(x.setup, x.events); e != api.OK || string(b) != x.want {
			t.Errorf("%s: Script returns %x, %d", x.name, b, e)
		}
		s, events, e := swarm.Parse([]byte(x.want))
		if e != api.OK || s != x.setup || !sameEvents(events, x.events) {
			t.Error(x.name, "Parse returns", s, events, e)
		}
	}
	if string(data) != "xyz" {
		t.Error("Script changes its argument")
	}
}

// P10.1: what can not be written.
func TestScriptErrors(t *testing.T) {
	good := api.Setup{Peers: 3, Blocks: 64, Quota: 1000}
	expect := func(s api.Setup, events ...api.Event) {
		t.Helper()
		if b, e := swarm.Script(s, events); e != api.ErrArg || len(b) != 0 {
			t.Error("Script returns", len(b), e, "for", s, "and", len(events), "events")
		}
	}
	for _, s := range invalidSetups() {
		expect(s)
		expect(s, api.Event{Kind: api.EvRound})
	}
	for _, bad := range []api.Event{
		{Peer: -1}, {Peer: 256}, {A: -1}, {A: 65536}, {B: -1}, {B: 65536}, {Data: make([]byte, 65536)}, {Peer: -1 << 63}, {A: 1<<63 - 1}, {B: 1 << 32},
	} {
		expect(good, bad)
		expect(good, api.Event{Kind: api.EvRound}, bad, api.Event{Kind: api.EvRound})
	}
	longest := api.Event{Kind: api.EvBackup, Data: bytes.Repeat([]byte{7}, 65535)}
	b, e := swarm.Script(good, []api.Event{longest, longest})
	if e != api.OK || len(b) != 7+2*(16+65535) {
		t.Error("the longest Data:", len(b), e)
	}
	if _, events, e := swarm.Parse(b); e != api.OK || !sameEvents(events, []api.Event{longest, longest}) {
		t.Error("the longest Data is not parsed:", e)
	}
}

// P10.1: errors of Parse.
func TestParseErrors(t *testing.T) {
	expect := func(b []byte, want api.Errno) {
		t.Helper()
		if s, events, e := swarm.Parse(b); e != want || s != (api.Setup{}) || len(events) != 0 {
			t.Errorf("Parse of %x returns %v, %v, %d", b, s, events, e)
		}
		if w, e := swarm.Play(b); e != want || w != nil {
			t.Errorf("Play of %x returns %v, %d", b, w, e)
		}
	}
	good := []byte{3, 0, 64, 0, 0, 3, 232}
	for n := range 7 {
		expect(good[:n], api.ErrShort)
		expect(make([]byte, n), api.ErrShort)
	}
	expect(nil, api.ErrShort)
	for _, s := range []string{
		"\x00\x00\x40\x00\x00\x00\x00", "\x01\x00\x40\x00\x00\x00\x00", "\x11\x00\x40\x00\x00\x00\x00", "\xff\x00\x40\x00\x00\x00\x00",
		"\x03\x00\x00\x00\x00\x00\x00", "\x03\x00\x03\x00\x00\x00\x00", "\x03\x10\x01\x00\x00\x00\x00", "\x03\xff\xff\x00\x00\x00\x00",
	} {
		expect([]byte(s), api.ErrArg)
		expect(append([]byte(s), make([]byte, 16)...), api.ErrArg)
	}
}

// P10.1: as many events as can be read whole are returned, and no memory is shared.
func TestParse(t *testing.T) {
	r := rand.New(rand.NewPCG(1, 1))
	for range 200 {
		s := api.Setup{Peers: 2 + r.IntN(15), Blocks: 4 + r.IntN(4093), Quota: int(r.Uint32())}
		var events []api.Event
		ends := []int{7}
		for range r.IntN(5) {
			e := api.Event{Kind: api.EventKind(r.IntN(256)), Peer: r.IntN(256), A: r.IntN(65536), B: r.IntN(65536), Draw: r.Uint64(), Data: make([]byte, r.IntN(2)*r.IntN(300))}
			for i := range e.Data {
				e.Data[i] = byte(r.Uint32())
			}
			events = append(events, e)
			ends = append(ends, ends[len(ends)-1]+16+len(e.Data))
		}
		b, e := swarm.Script(s, events)
		if e != api.OK || len(b) != ends[len(ends)-1] {
			t.Fatal("Script returns", len(b), e)
		}
		for n := 7; n <= len(b); n++ {
			whole := 0
			for whole+1 < len(ends) && ends[whole+1] <= n {
				whole++
			}
			got, l, e := swarm.Parse(b[:n])
			if e != api.OK || got != s || !sameEvents(l, events[:whole]) {
				t.Fatal("Parse of", n, "bytes returns", got, l, e)
			}
		}
	}
	b, _ := swarm.Script(api.Setup{Peers: 2, Blocks: 4}, []api.Event{{Data: []byte("ab")}, {Data: []byte("cd")}})
	before := bytes.Clone(b)
	_, l, _ := swarm.Parse(b)
	l[0].Data = append(l[0].Data, "xxxxxxxxxxxxxxxxxxxxxxxxxxxxx"...)
	l[0].Data[0] = 'x'
	b[len(b)-1] = 'x'
	if string(l[1].Data) != "cd" || !bytes.Equal(b[:len(b)-1], before[:len(b)-1]) {
		t.Error("the events share memory", l, b)
	}
}

// plainParse is a second reading of scripts: the events that a valid setup is followed by.
func plainParse(b []byte) []api.Event {
	var events []api.Event
	for b = b[7:]; len(b) >= 16; {
		size := int(binary.BigEndian.Uint16(b[14:]))
		if len(b) < 16+size {
			break
		}
		events = append(events, api.Event{
			Kind: api.EventKind(b[0]), Peer: int(b[1]), A: int(binary.BigEndian.Uint16(b[2:])), B: int(binary.BigEndian.Uint16(b[4:])),
			Draw: binary.BigEndian.Uint64(b[6:]), Data: b[16 : 16+size],
		})
		b = b[16+size:]
	}
	return events
}

// anyBytes returns bytes that often are an event.
func anyBytes(r *rand.Rand, peers int) []byte {
	event := make([]byte, 16)
	for i := range event {
		event[i] = byte(r.Uint32())
	}
	size := r.IntN(20)
	if r.IntN(20) != 0 { // what is random alone seldom means something
		event[0], event[1] = byte(r.IntN(16)), byte(r.IntN(peers))
		event[2], event[3], event[4], event[5] = 0, byte(r.IntN(3)), 0, byte(r.IntN(4))
		event[14], event[15] = 0, byte(size)
	}
	return append(event, make([]byte, size)...)
}

// P10.1, P10.4, T1: any bytes after a valid setup are a script.
func TestAnyBytes(t *testing.T) {
	r := rand.New(rand.NewPCG(2, 1))
	var kinds [256]int
	for range 3000 {
		s := api.Setup{Peers: 2 + r.IntN(4), Blocks: 4 + r.IntN(60), Quota: r.IntN(500)}
		b, _ := swarm.Script(s, []api.Event{{Kind: api.EvStart, Peer: 1}})
		for range r.IntN(150) {
			b = append(b, anyBytes(r, s.Peers)...)
		}
		got, events, e := swarm.Parse(b)
		if e != api.OK || got != s || !sameEvents(events, plainParse(b)) {
			t.Fatal("Parse returns", got, events, e)
		}
		m := newModel(s)
		for _, e := range events {
			if m.do(e) {
				kinds[e.Kind]++
			}
		}
		w, e := swarm.Play(b)
		if e != api.OK {
			t.Fatal("Play returns", e)
		}
		m.expectLike(t, w)
	}
	for kind := api.EvTick; kind <= api.EvRound; kind++ {
		if kinds[kind] < 5 {
			t.Error("seldom applies:", kind, kinds[kind])
		}
	}
}
