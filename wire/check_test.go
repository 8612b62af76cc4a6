package wire_test

import (
	"bytes"
	"math"
	"math/rand/v2"
	"reflect"
	"strings"
	"testing"

	"stolon/api"
	"stolon/digest"
	"stolon/rs"
	"stolon/wire"
)

// expectValid checks that a message is valid, and its frame.
func expectValid(t *testing.T, name string, m api.Message) {
	t.Helper()
	kept := plain(m)
	want := modelFrame(m)
	if e := wire.Check(m); e != api.OK {
		t.Errorf("%s: Check returns %d", name, e)
	}
	if b, e := wire.Encode(m); e != api.OK || !bytes.Equal(b, want) {
		t.Errorf("%s: Encode returns %v, %d", name, b, e)
	}
	if n, e := wire.Size(m); e != api.OK || n != len(want) {
		t.Errorf("%s: Size returns %d, %d", name, n, e)
	}
	expectDecode(t, name, want, m, api.OK)
	if !same(m, kept) {
		t.Errorf("%s: the argument has changed", name)
	}
}

// expectInvalid checks that a message is not valid.
func expectInvalid(t *testing.T, name string, m api.Message) {
	t.Helper()
	kept := plain(m)
	if e := wire.Check(m); e != api.ErrArg {
		t.Errorf("%s: Check of %v returns %d", name, m, e)
	}
	if b, e := wire.Encode(m); e != api.ErrArg || len(b) != 0 {
		t.Errorf("%s: Encode of %v returns %v, %d", name, m, b, e)
	}
	if n, e := wire.Size(m); e != api.ErrArg || n != 0 {
		t.Errorf("%s: Size of %v returns %d, %d", name, m, n, e)
	}
	if s := wire.Describe(m); s != "" {
		t.Errorf("%s: Describe of %v returns %q", name, m, s)
	}
	if !same(m, kept) {
		t.Errorf("%s: the argument has changed", name)
	}
}

// P8.1, P8.6: messages of every kind, with the frames of the model.
func TestValidMessages(t *testing.T) {
	r := rand.New(rand.NewPCG(8, 1))
	for _, kind := range kinds() {
		expectValid(t, modelName(kind), small(kind))
		for range 60 {
			expectValid(t, modelName(kind), randomMessage(r, kind))
		}
	}
}

// P8.1: messages of every kind, the values of whose fields lie at the limits.
func TestLimits(t *testing.T) {
	valid := func(name string, kind api.Kind, change func(m *api.Message)) {
		t.Helper()
		expectValid(t, name, changed(small(kind), change))
	}
	for _, kind := range kinds() {
		valid("from 0 to 15", kind, func(m *api.Message) { m.From, m.To = 0, 15 })
		valid("from 15 to 0", kind, func(m *api.Message) { m.From, m.To = 15, 0 })
		valid("empty lists", kind, func(m *api.Message) {
			if m.Table == nil {
				m.Table = []api.Member{}
			}
			if m.Manifest.Pieces == nil {
				m.Manifest.Pieces = []api.Digest{}
			}
			m.Low, m.High, m.Records, m.Piece.Data = []byte{}, []byte{}, []api.Record{}, []byte{}
		})
	}
	for _, kind := range []api.Kind{api.KindPing, api.KindAck} {
		valid("Seq", kind, func(m *api.Message) { m.Seq = 0 })
		valid("Seq", kind, func(m *api.Message) { m.Seq = math.MaxUint64 })
		valid("Origin", kind, func(m *api.Message) { m.Origin = 0 })
		valid("Origin", kind, func(m *api.Message) { m.Origin = 15 })
	}
	valid("Seq", api.KindPingReq, func(m *api.Message) { m.Seq = math.MaxUint64 })
	valid("Target", api.KindPingReq, func(m *api.Message) { m.Target = 0 })
	valid("Target", api.KindPingReq, func(m *api.Message) { m.Target = 15 })
	for _, kind := range []api.Kind{api.KindPing, api.KindAck, api.KindPingReq} {
		for n := 1; n <= 16; n++ {
			valid("a table", kind, func(m *api.Message) { m.Table = make([]api.Member, n) })
		}
		for status := api.Alive; status <= api.Left; status++ {
			valid("a status", kind, func(m *api.Message) { m.Table = []api.Member{{Inc: math.MaxUint64, Status: status}} })
		}
	}
	for _, kind := range []api.Kind{api.KindSum, api.KindItems} {
		valid("bounds", kind, func(m *api.Message) { m.Low, m.High = make([]byte, 34), bytes.Repeat([]byte{255}, 34) })
		valid("bounds of no range", kind, func(m *api.Message) { m.Low, m.High = []byte{9}, []byte{8} })
	}
	for _, count := range []int{0, 1, 255, 65536, 1 << 20} {
		valid("Count", api.KindSum, func(m *api.Message) { m.Count = count })
	}
	for n := range 65 {
		// Neither the order nor the range matters, and a record may come twice.
		valid("Records", api.KindItems, func(m *api.Message) {
			m.Records = make([]api.Record, n)
			for i := range m.Records {
				m.Records[i] = api.Record{Kind: api.RecordGrave, Object: api.Digest{byte(200 - i/2)}}
			}
		})
	}
	for _, kind := range []api.Kind{api.KindOffer, api.KindInstall} {
		largest := api.Manifest{K: 255, N: 255, Total: 255, Size: 8192, Pieces: make([]api.Digest, 255)}
		valid("the largest", kind, func(m *api.Message) {
			m.Manifest, m.Piece = largest, api.Piece{Index: 254, Data: make([]byte, 8192)}
		})
		valid("the smallest", kind, func(m *api.Message) {
			m.Manifest, m.Piece = api.Manifest{K: 1, N: 1, Total: 1, Pieces: make([]api.Digest, 1)}, api.Piece{}
		})
	}
	valid("Code", api.KindStored, func(m *api.Message) { m.Code = 0 })
	valid("Code", api.KindStored, func(m *api.Message) { m.Code = 999 })
}

// P8.1: Kind, From and To, which all kinds use.
func TestInvalidAddresses(t *testing.T) {
	expectInvalid(t, "nothing", api.Message{})
	for k := range 256 {
		kind := api.Kind(k)
		if modelName(kind) == "" {
			expectInvalid(t, "no kind", api.Message{Kind: kind, From: 1})
			expectInvalid(t, "no kind", changed(small(api.KindKeep), func(m *api.Message) { m.Kind = kind }))
		}
	}
	wrong := []int{-1, -15, 16, 17, 255, 256, 257, 271, -256, -255, 1 << 32, math.MaxInt, math.MinInt}
	for _, kind := range kinds() {
		for _, number := range wrong {
			expectInvalid(t, "From", changed(small(kind), func(m *api.Message) { m.From = number }))
			expectInvalid(t, "To", changed(small(kind), func(m *api.Message) { m.To = number }))
			expectInvalid(t, "both", changed(small(kind), func(m *api.Message) { m.From, m.To = number, number+1 }))
		}
		for number := range 16 {
			expectInvalid(t, "to itself", changed(small(kind), func(m *api.Message) { m.From, m.To = number, number }))
		}
	}
}

// P8.1: a field that the kind does not use.
func TestUnusedFields(t *testing.T) {
	for _, kind := range kinds() {
		used := strings.Join(modelFields(kind), " ") + " Kind From To"
		for _, c := range changes() {
			field, _, _ := strings.Cut(c.field, ".")
			if !strings.Contains(" "+used+" ", " "+field+" ") {
				expectInvalid(t, modelName(kind)+" with "+c.field, changed(small(kind), c.change))
			}
		}
	}
}

// P8.1: a value that a field of its kind must not have.
func TestInvalidFields(t *testing.T) {
	wrong := func(name string, kind api.Kind, change func(m *api.Message)) {
		t.Helper()
		expectInvalid(t, modelName(kind)+": "+name, changed(small(kind), change))
	}
	for _, number := range []int{-1, 16, 255, 256, 261, 1 << 32, math.MaxInt, math.MinInt} {
		wrong("Origin", api.KindPing, func(m *api.Message) { m.Origin = number })
		wrong("Origin", api.KindAck, func(m *api.Message) { m.Origin = number })
		wrong("Target", api.KindPingReq, func(m *api.Message) { m.Target = number })
	}
	for _, kind := range []api.Kind{api.KindPing, api.KindAck, api.KindPingReq} {
		for _, n := range []int{0, 17, 255, 256, 257, 1000} {
			wrong("a table of another length", kind, func(m *api.Message) { m.Table = make([]api.Member, n) })
		}
		for _, entry := range []api.Member{{Inc: 1}, {Status: api.Alive}, {Status: api.Left}, {Inc: 1, Status: 5}, {Inc: 1, Status: 255}} {
			wrong("an entry", kind, func(m *api.Message) { m.Table[0] = entry })
			wrong("the last entry", kind, func(m *api.Message) { m.Table = append(m.Table, entry) })
		}
	}
	for _, kind := range []api.Kind{api.KindSum, api.KindItems} {
		for _, n := range []int{35, 65535, 65536, 65537} {
			wrong("Low", kind, func(m *api.Message) { m.Low = make([]byte, n) })
			wrong("High", kind, func(m *api.Message) { m.High = make([]byte, n) })
		}
	}
	for _, count := range []int{-1, 1<<20 + 1, 1 << 31, 1 << 32, 1<<32 + 1, math.MaxInt, math.MinInt} {
		wrong("Count", api.KindSum, func(m *api.Message) { m.Count = count })
	}
	for _, n := range []int{65, 66, 255, 65536, 65537} {
		wrong("Records", api.KindItems, func(m *api.Message) {
			m.Records = make([]api.Record, n)
			for i := range m.Records {
				m.Records[i] = api.Record{Kind: api.RecordGrave}
			}
		})
	}
	for _, record := range []api.Record{
		{}, {Kind: 4}, {Kind: api.RecordBase}, {Kind: api.RecordBase, Inc: 1, Holder: 16}, {Kind: api.RecordBase, Inc: 1, Holder: 256}, {Kind: api.RecordBase, Inc: 1, Num: 1},
		{Kind: api.RecordGrave, Inc: 1}, {Kind: api.RecordPiece, Inc: 1, Num: 1, K: 2, N: 1}, {Kind: api.RecordPiece, Inc: 1, Num: 1, K: 1, N: 257},
	} {
		wrong("the first record", api.KindItems, func(m *api.Message) { m.Records[0] = record })
		wrong("the last record", api.KindItems, func(m *api.Message) { m.Records = append(m.Records, record) })
	}
	for _, code := range []api.Errno{-1, 1000, 1001, 65535, 65536, math.MaxInt, math.MinInt} {
		wrong("Code", api.KindStored, func(m *api.Message) { m.Code = code })
	}
}

// P8.1: a manifest and a piece that are not valid.
func TestInvalidPieces(t *testing.T) {
	for _, kind := range []api.Kind{api.KindOffer, api.KindInstall} {
		wrong := func(name string, change func(m *api.Message)) {
			t.Helper()
			expectInvalid(t, modelName(kind)+": "+name, changed(small(kind), change))
		}
		wrong("no manifest", func(m *api.Message) { m.Manifest = api.Manifest{} })
		wrong("K is 0", func(m *api.Message) { m.Manifest.K = 0 })
		wrong("K above N", func(m *api.Message) { m.Manifest.K = 3 })
		wrong("N above Total", func(m *api.Message) { m.Manifest.N = 4 })
		wrong("more pieces", func(m *api.Message) { m.Manifest.Pieces = make([]api.Digest, 4) })
		wrong("fewer pieces", func(m *api.Message) { m.Manifest.Pieces = make([]api.Digest, 2) })
		wrong("no pieces", func(m *api.Message) { m.Manifest.Pieces = nil })
		wrong("256 pieces", func(m *api.Message) { m.Manifest.Total, m.Manifest.Pieces = 256, make([]api.Digest, 256) })
		wrong("Size", func(m *api.Message) { m.Manifest.Size = -1 })
		wrong("Size", func(m *api.Message) { m.Manifest.Size = 8193 })
		for _, index := range []int{-1, 3, 4, 255, 256, 258, 65536, 65538, math.MaxInt, math.MinInt} {
			wrong("Index", func(m *api.Message) { m.Piece.Index = index })
		}
		for _, n := range []int{8193, 20000, 65535, 65536, 65540} {
			wrong("Data", func(m *api.Message) { m.Piece.Data = make([]byte, n) })
		}
	}
}

// P8.1: the manifest, the piece and the Object need not belong together.
func TestPiecesThatDoNotFit(t *testing.T) {
	x, p, e := digest.Make(rs.NewField(), 1, 2, 3, []byte("data"))
	if e != api.OK {
		t.Fatal(e)
	}
	id, _ := digest.ID(x)
	for _, kind := range []api.Kind{api.KindOffer, api.KindInstall} {
		m := api.Message{Kind: kind, From: 3, To: 4, Object: id, Manifest: x, Piece: p[1]}
		expectValid(t, "all fit", m)
		expectValid(t, "another object", changed(m, func(m *api.Message) { m.Object = api.Digest{} }))
		expectValid(t, "other data", changed(m, func(m *api.Message) { m.Piece.Data[0]++ }))
		expectValid(t, "more data", changed(m, func(m *api.Message) { m.Piece.Data = make([]byte, 100) }))
		expectValid(t, "no data", changed(m, func(m *api.Message) { m.Piece.Data = nil }))
		expectValid(t, "another index", changed(m, func(m *api.Message) { m.Piece.Index = 2 }))
	}
}

// P8.1: messages with random changes, against the model.
func TestCheckAgainstTheModel(t *testing.T) {
	r := rand.New(rand.NewPCG(8, 2))
	list := changes()
	counts := map[bool]int{}
	for range 20000 {
		kind := api.Kind(1 + r.IntN(int(lastKind)))
		m := small(kind)
		for range 1 + r.IntN(3) {
			list[r.IntN(len(list))].change(&m)
		}
		valid := modelValid(m)
		counts[valid]++
		if e := wire.Check(m); (e == api.OK) != valid || e != api.OK && e != api.ErrArg {
			t.Fatalf("Check of %v returns %d", m, e)
		}
	}
	if counts[true] < 1000 || counts[false] < 1000 {
		t.Error(counts)
	}
}

// P8.5: Name of every number.
func TestName(t *testing.T) {
	for k := range 256 {
		if got, want := wire.Name(api.Kind(k)), modelName(api.Kind(k)); got != want {
			t.Errorf("Name(%d) is %q", k, got)
		}
	}
	if wire.Name(api.KindPing) != "ping" || wire.Name(api.KindItems) != "items" || wire.Name(api.KindInstall) != "install" || wire.Name(api.KindKeep) != "keep" {
		t.Error("a name")
	}
}

// P8.5: the texts of all kinds.
func TestDescribe(t *testing.T) {
	for kind, want := range map[api.Kind]string{
		1: "0>1 ping", 2: "0>1 ack", 3: "0>1 pingreq", 4: "0>1 sum", 5: "0>1 items",
		6: "0>1 claim 16171819", 7: "0>1 fetch 16171819", 8: "0>1 offer 16171819", 9: "0>1 lack 16171819", 10: "0>1 install 16171819",
		11: "0>1 stored 16171819", 12: "0>1 ask 16171819", 13: "0>1 keep 16171819",
	} {
		if got := wire.Describe(small(kind)); got != want {
			t.Errorf("Describe is %q instead of %q", got, want)
		}
	}
	for c, want := range map[[2]int]string{{15, 0}: "15>0 ask abcdef01", {9, 10}: "9>10 ask abcdef01", {10, 15}: "10>15 ask abcdef01"} {
		m := api.Message{Kind: api.KindAsk, From: c[0], To: c[1], Object: api.Digest{0xab, 0xcd, 0xef, 1, 0x23}}
		if got := wire.Describe(m); got != want {
			t.Errorf("Describe is %q instead of %q", got, want)
		}
	}
	zero := api.Message{Kind: api.KindStored, From: 1}
	if got := wire.Describe(zero); got != "1>0 stored 00000000" {
		t.Errorf("Describe is %q", got)
	}
}

// change is a change of a field, or of a field of a field; it always leaves another value.
type change struct {
	field  string
	change func(m *api.Message)
}

// changes returns changes of all fields.
func changes() []change {
	return []change{
		{"Kind", func(m *api.Message) { m.Kind++ }},
		{"From", func(m *api.Message) { m.From++ }},
		{"To", func(m *api.Message) { m.To++ }},
		{"Seq", func(m *api.Message) { m.Seq++ }},
		{"Seq", func(m *api.Message) { m.Seq ^= 1 << 63 }},
		{"Origin", func(m *api.Message) { m.Origin++ }},
		{"Origin", func(m *api.Message) { m.Origin -= 256 }},
		{"Target", func(m *api.Message) { m.Target++ }},
		{"Target", func(m *api.Message) { m.Target -= 256 }},
		{"Table", func(m *api.Message) { m.Table = append(m.Table, api.Member{}) }},
		{"Table", func(m *api.Message) { m.Table = append(m.Table, api.Member{Inc: 1, Status: api.Dead}) }},
		{"Low", func(m *api.Message) { m.Low = append(m.Low, 0) }},
		{"High", func(m *api.Message) { m.High = append(m.High, 0) }},
		{"Count", func(m *api.Message) { m.Count++ }},
		{"Count", func(m *api.Message) { m.Count -= 1 << 32 }},
		{"Root", func(m *api.Message) { m.Root[0]++ }},
		{"Root", func(m *api.Message) { m.Root[31]++ }},
		{"Records", func(m *api.Message) { m.Records = append(m.Records, api.Record{}) }},
		{"Records", func(m *api.Message) {
			m.Records = append(m.Records, api.Record{Kind: api.RecordGrave})
		}},
		{"Want", func(m *api.Message) { m.Want = !m.Want }},
		{"Object", func(m *api.Message) { m.Object[0]++ }},
		{"Object", func(m *api.Message) { m.Object[31]++ }},
		{"Manifest.K", func(m *api.Message) { m.Manifest.K++ }},
		{"Manifest.N", func(m *api.Message) { m.Manifest.N++ }},
		{"Manifest.Total", func(m *api.Message) { m.Manifest.Total++ }},
		{"Manifest.Size", func(m *api.Message) { m.Manifest.Size++ }},
		{"Manifest.Object", func(m *api.Message) { m.Manifest.Object[31]++ }},
		{"Manifest.Pieces", func(m *api.Message) { m.Manifest.Pieces = append(m.Manifest.Pieces, api.Digest{}) }},
		{"Piece.Index", func(m *api.Message) { m.Piece.Index++ }},
		{"Piece.Index", func(m *api.Message) { m.Piece.Index -= 65536 }},
		{"Piece.Data", func(m *api.Message) { m.Piece.Data = append(m.Piece.Data, 0) }},
		{"Code", func(m *api.Message) { m.Code++ }},
		{"Code", func(m *api.Message) { m.Code -= 65536 }},
	}
}

// fieldNames returns the names of the fields of a type; those of a manifest and a piece behind the name of the field that has them.
func fieldNames(of reflect.Type) []string {
	var names []string
	for i := range of.NumField() {
		f := of.Field(i)
		if f.Type.Kind() != reflect.Struct {
			names = append(names, f.Name)
			continue
		}
		for _, name := range fieldNames(f.Type) {
			names = append(names, f.Name+"."+name)
		}
	}
	return names
}

// The changes, on which other tests rely, are changes of all fields.
func TestChangesOfAllFields(t *testing.T) {
	for _, name := range fieldNames(reflect.TypeFor[api.Message]()) {
		found := false
		for _, c := range changes() {
			found = found || c.field == name
		}
		if !found {
			t.Error("no change of", name)
		}
	}
}
