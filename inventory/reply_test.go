package inventory_test

import (
	"math"
	"math/rand/v2"
	"slices"
	"testing"

	"stolon/api"
	"stolon/inventory"
)

// P6.8: summaries of ranges, with all their fields.
func TestSummary(t *testing.T) {
	r := rand.New(rand.NewPCG(6, 12))
	for range 200 {
		list := randomRecords(r, r.IntN(80), 20)
		v, normal := build(t, list...), modelNormal(list)
		low, high := randomBound(r, 20), randomBound(r, 20)
		got := v.Summary(low, high)
		if want := modelSummary(normal, low, high); !sameMessage(got, want) {
			t.Fatalf("Summary(%v, %v) is %v instead of %v", low, high, got, want)
		}
		expectRecords(t, "after Summary", v, normal...)
	}
	empty := inventory.New().Summary(nil, nil)
	if !sameMessage(empty, api.Message{Kind: api.KindSum, Root: root(t, nil)}) {
		t.Error("an empty inventory", empty)
	}
}

// P6.8, R4: the bounds are copies.
func TestSummaryBounds(t *testing.T) {
	v := build(t, pieces(10, 1)...)
	low, high := []byte{3, 0}, []byte{3, 0, 5}
	m := v.Summary(low, high)
	clear(low)
	clear(high)
	if !slices.Equal(m.Low, []byte{3, 0}) || !slices.Equal(m.High, []byte{3, 0, 5}) || m.Count != 5 {
		t.Error(m)
	}
	long := make([]byte, 50)
	if m := v.Summary(long, long); len(m.Low) != 50 || len(m.High) != 50 || m.Count != 0 {
		t.Error("long bounds", m)
	}
}

// P6.9: kinds and counts that are refused.
func TestReplyErrors(t *testing.T) {
	records := pieces(3, 1)
	v := build(t, records...)
	refuse := func(name string, want api.Errno, msg api.Message) {
		t.Helper()
		if l, e := v.Reply(msg); e != want || len(l) != 0 {
			t.Error(name, l, e)
		}
		expectRecords(t, name, v, records...)
	}
	for kind := range 256 {
		if kind != 4 && kind != 5 {
			msg := v.Summary(nil, nil)
			msg.Kind, msg.Count, msg.Want, msg.Records = api.Kind(kind), kind-20, true, pieces(kind/2, 3)
			refuse("another kind", api.ErrArg, msg)
		}
	}
	refuse("Count -1", api.ErrArg, api.Message{Kind: api.KindSum, Count: -1})
	refuse("the smallest Count", api.ErrArg, api.Message{Kind: api.KindSum, Count: math.MinInt})
	refuse("65 records", api.ErrLong, api.Message{Kind: api.KindItems, Records: pieces(65, 2)})
	refuse("65 records that are not valid", api.ErrLong, api.Message{Kind: api.KindItems, Records: make([]api.Record, 65)})
	refuse("1000 records outside of the range", api.ErrLong, api.Message{Kind: api.KindItems, Low: []byte{9}, Want: true, Records: pieces(1000, 2)})
	for _, wrong := range someInvalid() {
		for _, at := range []int{0, 30, 63} {
			refuse("a record that is not valid", api.ErrArg, api.Message{Kind: api.KindItems, Want: true, Records: slices.Insert(pieces(63, 2), at, wrong)})
		}
	}
}

// P6.9: records at the ends of the range, and outside.
func TestReplyRange(t *testing.T) {
	l := pieces(9, 2)
	key := func(i int) []byte { return []byte(modelKey(l[i])) }
	for _, c := range []struct {
		name      string
		low, high []byte
		from, to  int // the records of the message
		want      api.Errno
	}{
		{"no bounds", nil, nil, 0, 9, api.OK},
		{"empty bounds", []byte{}, []byte{}, 0, 9, api.OK},
		{"bounds that just hold them", key(2), key(7), 2, 7, api.OK},
		{"the first one below Low", key(3), key(7), 2, 7, api.ErrArg},
		{"the last one at High", key(2), key(6), 2, 7, api.ErrArg},
		{"Low alone", key(2), nil, 2, 9, api.OK},
		{"Low alone, one below it", key(2), nil, 1, 9, api.ErrArg},
		{"High alone", nil, key(4), 0, 4, api.OK},
		{"High alone, one at it", nil, key(4), 0, 5, api.ErrArg},
		{"High longer than a key", nil, append(key(4), 0), 0, 5, api.OK},
		{"Low longer than a key", append(key(4), 0), nil, 4, 5, api.ErrArg},
		{"the beginning of a key as Low", key(4)[:33], nil, 4, 9, api.OK},
		{"the beginning of a key as High", nil, key(4)[:33], 4, 5, api.ErrArg},
		{"Low above High", key(7), key(2), 4, 5, api.ErrArg},
		{"Low above High, no records", key(7), key(2), 4, 4, api.OK},
	} {
		for _, want := range []bool{false, true} {
			v := inventory.New()
			list, e := v.Reply(api.Message{Kind: api.KindItems, Low: c.low, High: c.high, Records: l[c.from:c.to], Want: want})
			if e != c.want || len(list) != 0 {
				t.Error(c.name, list, e)
			}
			if c.want == api.OK {
				expectRecords(t, c.name, v, l[c.from:c.to]...)
			} else {
				expectRecords(t, c.name, v)
			}
		}
	}
}

// P6.9: a summary of equal ranges has no answer; one that differs in its count or its root alone has one.
func TestReplyToEqualRanges(t *testing.T) {
	for _, n := range []int{0, 1, 8, 9, 70} {
		records := pieces(n, 1)
		v := build(t, records...)
		msg := build(t, records...).Summary(nil, nil)
		expectMessages(t, "an equal range", reply(t, v, msg))
		part := v.Summary([]byte{3, 0, 1}, []byte{3, 0, 6})
		expectMessages(t, "an equal part", reply(t, v, part))
		other := msg
		other.Count++
		if len(reply(t, v, other)) == 0 {
			t.Error(n, "records, another count")
		}
		other = msg
		other.Root[0]++
		if len(reply(t, v, other)) == 0 {
			t.Error(n, "records, another root")
		}
		other = msg
		other.Low = []byte{4}
		if n > 0 && len(reply(t, v, other)) == 0 {
			t.Error(n, "records, another range")
		}
		expectRecords(t, "after summaries", v, records...)
	}
}

// P6.9: few records are sent, more are divided; example 5 of the chapter.
func TestReplyToDifferentRanges(t *testing.T) {
	for n := range 30 {
		records := pieces(n, 1)
		v := build(t, records...)
		low, high := []byte{3}, []byte{4}
		msg := api.Message{Kind: api.KindSum, From: 5, To: 2, Low: low, High: high, Count: 3}
		got := reply(t, v, msg)
		if n <= 8 {
			expectMessages(t, "few records", got, api.Message{Kind: api.KindItems, From: 2, To: 5, Low: low, High: high, Records: records, Want: true})
			continue
		}
		m := []byte(modelKey(records[n/2]))
		expectMessages(t, "many records", got,
			api.Message{Kind: api.KindSum, From: 2, To: 5, Low: low, High: m, Count: n / 2, Root: modelRoot(records[:n/2])},
			api.Message{Kind: api.KindSum, From: 2, To: 5, Low: m, High: high, Count: n - n/2, Root: modelRoot(records[n/2:])})
	}
	// Other records of the inventory do not count.
	v := build(t, append(pieces(20, 1), base(1, 1), base(2, 1))...)
	got := reply(t, v, api.Message{Kind: api.KindSum, High: []byte{2}})
	expectMessages(t, "a part of the inventory", got, api.Message{Kind: api.KindItems, High: []byte{2}, Records: []api.Record{base(1, 1), base(2, 1)}, Want: true})
}

// P6.9: what is sent to a peer that wants the other records, in parts of 64.
func TestReplyToItems(t *testing.T) {
	for _, n := range []int{0, 1, 5, 6, 63, 64, 65, 68, 69, 70, 127, 128, 129, 133, 134, 200} {
		own := pieces(n, 1)
		sent := own[:min(n, 5)]
		extra := base(9, 9)
		v := build(t, own...)
		msg := api.Message{Kind: api.KindItems, From: 3, To: 1, Records: append(slices.Clone(sent), extra), Want: true}
		var want []api.Message
		for left := own[len(sent):]; len(left) > 0; {
			part := left[:min(64, len(left))]
			left = left[len(part):]
			want = append(want, api.Message{Kind: api.KindItems, From: 1, To: 3, Records: part})
		}
		expectMessages(t, "the records that are lacking", reply(t, v, msg), want...)
		expectRecords(t, "after the merge", v, append([]api.Record{extra}, own...)...)
		msg.Want = false
		expectMessages(t, "nothing is wanted", reply(t, build(t, own...), msg))
	}
	v := inventory.New()
	expectMessages(t, "64 records", reply(t, v, api.Message{Kind: api.KindItems, Records: pieces(64, 1), Want: true}))
	expectRecords(t, "64 records", v, pieces(64, 1)...)
}

// P6.9: records of the message that the inventory does not take, or that outdate its own.
func TestReplyAfterTheMerge(t *testing.T) {
	old, newer := piece(numbered(1), 1, 1, 1, true), piece(numbered(1), 1, 1, 2, true)
	other := piece(numbered(2), 1, 1, 1, true)
	ask := func(records ...api.Record) api.Message {
		return api.Message{Kind: api.KindItems, Records: records, Want: true}
	}
	give := func(records ...api.Record) api.Message {
		return api.Message{Kind: api.KindItems, Records: records}
	}
	expectMessages(t, "an older record", reply(t, build(t, newer, other), ask(old, other)), give(newer))
	expectMessages(t, "a newer record", reply(t, build(t, old, other), ask(newer)), give(other))
	expectMessages(t, "both in one message", reply(t, build(t, other), ask(newer, old)), give(other))
	expectMessages(t, "a void record", reply(t, build(t, base(1, 2)), ask(old)), give(base(1, 2)))
	expectMessages(t, "records that become void", reply(t, build(t, old, other), ask(grave(numbered(1)))), give(other))
	part := api.Message{Kind: api.KindItems, Low: []byte{3}, High: []byte{3, 0, 2}, Want: true}
	expectMessages(t, "a part of the inventory", reply(t, build(t, base(1, 1), old, other), part), api.Message{Kind: api.KindItems, Low: part.Low, High: part.High, Records: []api.Record{old}})
}

// P6.9: fields that a kind does not use are not examined, and do not come back.
func TestReplyToOtherFields(t *testing.T) {
	noise := api.Message{
		From: -7, To: 300, Seq: 9, Origin: -1, Target: 99, Table: []api.Member{{Status: 77}}, Object: numbered(3),
		Manifest: api.Manifest{K: -1}, Piece: api.Piece{Index: -4, Data: []byte{1}}, Code: 5000,
	}
	records := pieces(12, 1)
	v := build(t, records...)
	sum, items := noise, noise
	sum.Kind, sum.Want, sum.Records = api.KindSum, true, make([]api.Record, 100)
	for i, m := range reply(t, v, sum) {
		bounds := [][]byte{nil, []byte(modelKey(records[6])), nil}
		want := modelSummary(records, bounds[i], bounds[i+1])
		want.From, want.To = 300, -7
		expectMessages(t, "a sum", []api.Message{m}, want)
	}
	items.Kind, items.Want, items.Count, items.Root = api.KindItems, true, -3, numbered(8)
	expectMessages(t, "items", reply(t, v, items), api.Message{Kind: api.KindItems, From: 300, To: -7, Records: records})
}

// randomMessage returns a message for an inventory with these records: often a right one, sometimes one that is refused.
func randomMessage(r *rand.Rand, records []api.Record) api.Message {
	msg := api.Message{Kind: api.KindSum, From: r.IntN(16), To: r.IntN(16), Low: randomBound(r, 20), High: randomBound(r, 20)}
	if r.IntN(2) == 0 {
		msg.Count, msg.Root = r.IntN(30)-1, numbered(r.IntN(4))
		if r.IntN(2) == 0 {
			s := modelSummary(records, msg.Low, msg.High)
			msg.Count, msg.Root = s.Count, s.Root
		}
		return msg
	}
	msg.Kind, msg.Want = api.KindItems, r.IntN(3) > 0
	msg.Records = append(randomRecords(r, r.IntN(20), 20), records[:min(len(records), r.IntN(40))]...)
	if r.IntN(8) > 0 {
		msg.Records = modelRange(msg.Records, msg.Low, msg.High)
	}
	if r.IntN(20) == 0 {
		msg.Records = append(msg.Records, someInvalid()[r.IntN(10)])
	}
	if r.IntN(20) == 0 {
		msg.Kind = api.Kind(r.IntN(15))
	}
	return msg
}

// P6.9: random messages, one after another.
func TestReplyLikeTheModel(t *testing.T) {
	r := rand.New(rand.NewPCG(6, 13))
	seen := map[api.Errno]int{}
	for range 300 {
		list := randomRecords(r, r.IntN(150), 20)
		v, normal := build(t, list...), modelNormal(list)
		for range 20 {
			msg := randomMessage(r, normal)
			kept := plain(msg)
			kept.Low, kept.High, kept.Records = slices.Clone(kept.Low), slices.Clone(kept.High), slices.Clone(kept.Records)
			after, want, wantE := modelReply(normal, msg)
			got, e := v.Reply(msg)
			if e != wantE {
				t.Fatalf("Reply to %v returns %d instead of %d", msg, e, wantE)
			}
			expectMessages(t, "random", got, want...)
			expectRecords(t, "random", v, after...)
			if !sameMessage(msg, kept) {
				t.Fatal("the argument has changed")
			}
			normal = after
			seen[e]++
		}
	}
	if seen[api.OK] < 1000 || seen[api.ErrArg] < 100 {
		t.Error(seen)
	}
}

// R4: the answers share no memory with the message, with the inventory or with each other.
func TestAnswersAreNew(t *testing.T) {
	records := pieces(150, 1)
	v := build(t, records...)
	spoil := func(list []byte) {
		clear(list)
		_ = append(list, 99, 99, 99)
	}
	for _, msg := range []api.Message{
		{Kind: api.KindSum, Low: []byte{3}, High: []byte{4}},
		{Kind: api.KindSum, Low: []byte{3}, High: []byte{3, 0, 6}},
		{Kind: api.KindItems, Low: []byte{3}, High: []byte{4}, Records: records[:3], Want: true},
	} {
		low, high, sent := slices.Clone(msg.Low), slices.Clone(msg.High), slices.Clone(msg.Records)
		_, want, _ := modelReply(records, msg)
		got := reply(t, v, msg)
		for i := range got {
			expectMessages(t, "answers", got[i:], want[i:]...)
			spoil(got[i].Low)
			spoil(got[i].High)
			clear(got[i].Records)
			_ = append(got[i].Records, grave(numbered(99)))
		}
		if !slices.Equal(msg.Low, low) || !slices.Equal(msg.High, high) || !slices.Equal(msg.Records, sent) {
			t.Error("the message has changed", msg)
		}
		expectRecords(t, "after changes of answers", v, records...)
	}
	sent := pieces(3, 2)
	w := inventory.New()
	reply(t, w, api.Message{Kind: api.KindItems, Records: sent})
	clear(sent)
	expectRecords(t, "after a change of a message", w, pieces(3, 2)...)
}
