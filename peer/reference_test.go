package peer_test

import (
	"bytes"
	"slices"

	"stolon/api"
	"stolon/digest"
	"stolon/disk"
	"stolon/inventory"
	"stolon/member"
	"stolon/place"
	"stolon/rs"
	"stolon/store"
	"stolon/wire"
)

// This file has a second, plainer implementation of the chapter, which follows it sentence by sentence and keeps its state in lists.

// modelBuild is a build of the model.
type modelBuild struct {
	object  api.Digest
	began   uint64
	gather  *place.Gather
	waiting []int
}

// modelShed is a shed of the model.
type modelShed struct {
	object api.Digest
	began  uint64
	keeps  []int
}

// modelOp is an operation of the model.
type modelOp struct {
	ticket   uint64
	kind     api.OpKind
	object   api.Digest
	began    uint64
	waiting  []int
	manifest api.Manifest
	pieces   []api.Piece
	gather   *place.Gather
}

// modelStart is the clock at which the last build of an object began.
type modelStart struct {
	object api.Digest
	clock  uint64
}

// model is a peer.
type model struct {
	c       api.Config
	s       *store.Store
	m       *member.Machine
	inv     *inventory.Inventory
	claims  *place.Claims
	f       *rs.Field
	num     uint64
	said    []api.Record
	builds  []modelBuild
	starts  []modelStart
	sheds   []modelShed
	ops     []*modelOp
	results []api.Result
	ticket  uint64
	synced  int
	left    bool
	sent    []api.Message // by the call that is under way
}

// startModel is P9.1, for a valid configuration.
func startModel(c api.Config, d *disk.Disk) (*model, api.Errno) {
	s, e := store.Open(d, c.Quota)
	if e != api.OK {
		return nil, e
	}
	o := &model{c: c, s: s, inv: inventory.New(), claims: place.NewClaims(), f: rs.NewField(), synced: c.Self}
	o.m, _ = member.New(c.Self, c.Peers, s.Incarnation())
	o.merge(api.Record{Kind: api.RecordBase, Holder: c.Self, Inc: s.Incarnation()})
	for _, id := range s.Graves() {
		o.merge(api.Record{Kind: api.RecordGrave, Object: id})
	}
	o.announcements()
	return o, api.OK
}

// down reports whether the store is not live any more.
func (o *model) down() bool {
	_, _, e := o.s.Where(api.Digest{})
	return e == api.ErrDown
}

// refusal returns the error of a call of a peer that is down or has left.
func (o *model) refusal() api.Errno {
	o.sent = nil
	if o.down() {
		return api.ErrDown
	}
	if o.left {
		return api.ErrState
	}
	return api.OK
}

// done returns what a call returns in the end.
func (o *model) done() ([]api.Message, api.Errno) {
	if o.down() {
		return nil, api.ErrDown
	}
	return o.sent, api.OK
}

func (o *model) merge(r api.Record) { o.inv.Merge([]api.Record{r}) }

func (o *model) send(l ...api.Message) { o.sent = append(o.sent, l...) }

func (o *model) tell(kind api.Kind, to int, object api.Digest) {
	o.send(api.Message{Kind: kind, From: o.c.Self, To: to, Object: object})
}

// saidOf returns the said record of an object, and whether there is one.
func (o *model) saidOf(object api.Digest) (api.Record, bool) {
	for _, r := range o.said {
		if r.Object == object {
			return r, true
		}
	}
	return api.Record{}, false
}

// ascending returns objects in ascending order, each once.
func ascending(lists ...[]api.Digest) []api.Digest {
	l := slices.Concat(lists...)
	slices.SortFunc(l, func(a, b api.Digest) int { return bytes.Compare(a[:], b[:]) })
	return slices.Compact(l)
}

func (o *model) put(m api.Manifest, p api.Piece) api.Errno {
	e := o.s.Put(m, p)
	if e == api.ErrTwice {
		id, _ := digest.ID(m)
		if _, _, e := o.s.Get(id); e == api.OK {
			return api.OK
		}
		return o.s.Put(m, p)
	}
	return e
}

func (o *model) settle() {
	o.graves()
	o.challenges()
	o.announcements()
}

func (o *model) graves() {
	for _, r := range o.inv.Records() {
		if r.Kind == api.RecordGrave && !o.s.Buried(r.Object) {
			o.s.Bury(r.Object)
		}
	}
	o.builds = slices.DeleteFunc(o.builds, func(b modelBuild) bool { return o.inv.Buried(b.object) })
	o.sheds = slices.DeleteFunc(o.sheds, func(s modelShed) bool { return o.inv.Buried(s.object) })
	o.endAll(func(x *modelOp) bool { return o.inv.Buried(x.object) }, api.ErrGone)
}

// endAll ends operations with a code.
func (o *model) endAll(which func(*modelOp) bool, code api.Errno) {
	for _, x := range slices.Clone(o.ops) {
		if which(x) {
			o.end(x, code, nil)
		}
	}
}

// end ends an operation.
func (o *model) end(x *modelOp, code api.Errno, data []byte) {
	o.results = append(o.results, api.Result{Ticket: x.ticket, Kind: x.kind, Code: code, Object: x.object, Data: data})
	o.ops = slices.DeleteFunc(o.ops, func(y *modelOp) bool { return y == x })
}

func (o *model) challenges() {
	candidates := []uint64{0, o.m.Challenge()}
	for _, r := range o.inv.Records() {
		if r.Kind == api.RecordBase && r.Holder == o.c.Self && r.Inc > o.s.Incarnation() {
			candidates = append(candidates, r.Inc)
		}
		if r.Kind == api.RecordPiece && r.Holder == o.c.Self {
			if s, found := o.saidOf(r.Object); !found || s != r {
				candidates = append(candidates, r.Inc)
			}
		}
	}
	challenge := slices.Max(candidates)
	if challenge == 0 {
		return
	}
	if e := o.s.Raise(challenge); e != api.OK {
		return
	}
	o.m.Reincarnate(o.s.Incarnation())
	o.num = 0
	o.said = nil
	o.merge(api.Record{Kind: api.RecordBase, Holder: o.c.Self, Inc: o.s.Incarnation()})
}

func (o *model) announcements() {
	objects := o.s.Held()
	for _, r := range o.said {
		objects = append(objects, r.Object)
	}
	for _, id := range ascending(objects) {
		s, found := o.saidOf(id)
		if o.s.Holds(id) && !(found && s.Held) {
			if m, _, e := o.s.Get(id); e == api.OK {
				o.record(id, true, m.K, m.N)
			}
		} else if !o.s.Holds(id) && found && s.Held {
			o.record(id, false, s.K, s.N)
		}
	}
}

// record makes a new record.
func (o *model) record(id api.Digest, held bool, k, n int) {
	o.num++
	r := api.Record{Kind: api.RecordPiece, Object: id, Holder: o.c.Self, Inc: o.s.Incarnation(), Num: o.num, Held: held, K: k, N: n}
	o.said = append(slices.DeleteFunc(o.said, func(s api.Record) bool { return s.Object == id }), r)
	o.merge(r)
}

// tick is P9.2.
func (o *model) tick(draw uint64) ([]api.Message, api.Errno) {
	if e := o.refusal(); e != api.OK {
		return nil, e
	}
	o.send(o.m.Tick(draw)...)
	o.s.Scrub(1)
	o.claims.Sweep(o.m.Clock())
	o.settle()
	objects := ascending(o.s.Held(), o.inv.Objects())
	for _, id := range objects {
		o.duty(id)
	}
	o.builds = slices.DeleteFunc(o.builds, func(b modelBuild) bool { return !slices.Contains(objects, b.object) })
	o.sheds = slices.DeleteFunc(o.sheds, func(s modelShed) bool { return !slices.Contains(objects, s.object) })
	for _, x := range slices.Clone(o.ops) {
		since := o.m.Clock() - x.began
		if since >= 30 {
			o.end(x, api.ErrTimeout, nil)
		} else if since > 0 && since%6 == 0 {
			slices.Sort(x.waiting)
			for _, to := range x.waiting {
				o.request(x, to)
			}
		}
	}
	o.synchronize()
	return o.done()
}

func (o *model) duty(id api.Digest) {
	_, n := o.inv.Demand(id)
	if o.s.Holds(id) {
		s, _ := o.saidOf(id)
		n = s.N
	}
	live, holders, now := o.m.Live(), o.inv.Holders(id), o.m.Clock()
	duty := place.Duty(id, o.c.Self, live, n, o.s.Holds(id), o.inv.Buried(id))
	o.builds = slices.DeleteFunc(o.builds, func(b modelBuild) bool {
		return b.object == id && (duty != api.DutyBuild || now-b.began >= 8)
	})
	o.sheds = slices.DeleteFunc(o.sheds, func(s modelShed) bool {
		return s.object == id && (duty != api.DutyShed || now-s.began >= 8)
	})
	building := slices.ContainsFunc(o.builds, func(b modelBuild) bool { return b.object == id })
	shedding := slices.ContainsFunc(o.sheds, func(s modelShed) bool { return s.object == id })
	recent := slices.ContainsFunc(o.starts, func(s modelStart) bool { return s.object == id && now-s.clock < 20 })
	sources := place.Sources(o.c.Self, holders, live)
	if duty == api.DutyBuild && !building && !recent && !o.claims.Blocked(id, o.c.Self, now, live, holders) && len(sources) > 0 {
		o.builds = append(o.builds, modelBuild{id, now, place.NewGather(id), sources})
		o.starts = append(o.starts, modelStart{id, now})
		for _, to := range place.Chosen(id, live, n) {
			if to != o.c.Self {
				o.tell(api.KindClaim, to, id)
			}
		}
		for _, to := range sources {
			o.tell(api.KindFetch, to, id)
		}
	}
	if duty == api.DutyShed && !shedding {
		o.sheds = append(o.sheds, modelShed{object: id, began: now})
		for _, to := range place.Chosen(id, live, n) {
			o.tell(api.KindAsk, to, id)
		}
	}
}

// request sends the request of an operation to a peer.
func (o *model) request(x *modelOp, to int) {
	if x.kind == api.OpRestore {
		o.tell(api.KindFetch, to, x.object)
		return
	}
	o.send(api.Message{Kind: api.KindInstall, From: o.c.Self, To: to, Object: x.object, Manifest: x.manifest, Piece: x.pieces[to]})
}

func (o *model) synchronize() {
	var others, later []int
	for _, i := range o.m.Live() {
		if i != o.c.Self {
			others = append(others, i)
			if i > o.synced {
				later = append(later, i)
			}
		}
	}
	if l := append(later, others...); len(l) > 0 {
		o.synced = l[0]
		sum := o.inv.Summary(nil, nil)
		sum.From, sum.To = o.c.Self, l[0]
		o.send(sum)
	}
}

// receive is P9.3.
func (o *model) receive(msg api.Message) ([]api.Message, api.Errno) {
	if e := o.refusal(); e != api.OK {
		return nil, e
	}
	if wire.Check(msg) != api.OK || msg.To != o.c.Self || msg.From >= o.c.Peers {
		return nil, api.ErrArg
	}
	var l []api.Message
	var e api.Errno
	if msg.Kind <= 3 {
		l, e = o.m.Receive(msg)
	} else if msg.Kind <= 5 {
		l, e = o.inv.Reply(msg)
	}
	if e != api.OK {
		return nil, e
	}
	o.send(l...)
	switch msg.Kind {
	case api.KindClaim:
		o.claims.Note(msg.Object, msg.From, o.m.Clock())
	case api.KindFetch:
		if m, p, e := o.s.Get(msg.Object); e == api.OK {
			o.send(api.Message{Kind: api.KindOffer, From: o.c.Self, To: msg.From, Object: msg.Object, Manifest: m, Piece: p})
		} else {
			o.tell(api.KindLack, msg.From, msg.Object)
		}
	case api.KindOffer, api.KindLack:
		o.buildAnswered(msg)
		o.restoresAnswered(msg)
	case api.KindInstall:
		o.send(api.Message{Kind: api.KindStored, From: o.c.Self, To: msg.From, Object: msg.Object, Code: o.install(msg)})
	case api.KindStored:
		o.stored(msg)
	case api.KindAsk:
		if _, _, e := o.s.Get(msg.Object); e == api.OK {
			o.tell(api.KindKeep, msg.From, msg.Object)
		}
	case api.KindKeep:
		o.keep(msg)
	}
	o.settle()
	return o.done()
}

// without returns a list without one of its elements.
func without(l []int, x int) []int {
	return slices.DeleteFunc(l, func(y int) bool { return y == x })
}

// fits reports whether a message brings a piece that can be offered.
func (o *model) fits(msg api.Message) bool {
	return msg.Kind == api.KindOffer && msg.Manifest.Total == o.c.Peers
}

func (o *model) buildAnswered(msg api.Message) {
	i := slices.IndexFunc(o.builds, func(b modelBuild) bool { return b.object == msg.Object })
	if i < 0 {
		return
	}
	if o.fits(msg) {
		o.builds[i].gather.Offer(msg.Manifest, msg.Piece)
	}
	o.builds[i].waiting = without(o.builds[i].waiting, msg.From)
	b := o.builds[i]
	if b.gather.Ready() {
		o.builds = slices.Delete(o.builds, i, i+1)
		if p, e := b.gather.Piece(o.f, o.c.Self); e == api.OK {
			m, _ := b.gather.Manifest()
			o.s.Put(m, p)
		}
	} else if len(b.waiting) == 0 {
		o.builds = slices.Delete(o.builds, i, i+1)
	}
}

func (o *model) restoresAnswered(msg api.Message) {
	for _, x := range slices.Clone(o.ops) {
		if x.kind != api.OpRestore || x.object != msg.Object {
			continue
		}
		if o.fits(msg) {
			x.gather.Offer(msg.Manifest, msg.Piece)
		}
		x.waiting = without(x.waiting, msg.From)
		if x.gather.Ready() {
			data, e := x.gather.Data(o.f)
			o.end(x, e, data)
		} else if len(x.waiting) == 0 {
			o.end(x, api.ErrFew, nil)
		}
	}
}

func (o *model) install(msg api.Message) api.Errno {
	if msg.Piece.Index != o.c.Self || msg.Manifest.Total != o.c.Peers {
		return api.ErrArg
	}
	if id, _ := digest.ID(msg.Manifest); id != msg.Object {
		return api.ErrSum
	}
	return o.put(msg.Manifest, msg.Piece)
}

func (o *model) stored(msg api.Message) {
	for _, x := range slices.Clone(o.ops) {
		if x.kind != api.OpBackup || x.object != msg.Object || !slices.Contains(x.waiting, msg.From) {
			continue
		}
		if msg.Code != api.OK {
			o.end(x, msg.Code, nil)
			continue
		}
		x.waiting = without(x.waiting, msg.From)
		if len(x.waiting) == 0 {
			o.end(x, api.OK, nil)
		}
	}
}

func (o *model) keep(msg api.Message) {
	i := slices.IndexFunc(o.sheds, func(s modelShed) bool { return s.object == msg.Object })
	if i < 0 {
		return
	}
	o.sheds[i].keeps = append(o.sheds[i].keeps, msg.From)
	s, _ := o.saidOf(msg.Object)
	if place.Covered(msg.Object, o.c.Self, s.N, o.sheds[i].keeps) {
		o.sheds = slices.Delete(o.sheds, i, i+1)
		o.s.Drop(msg.Object)
	}
}

// gone reports whether an object is buried in the store or has a grave in the inventory.
func (o *model) gone(object api.Digest) bool { return o.s.Buried(object) || o.inv.Buried(object) }

// newOp adds an operation.
func (o *model) newOp(kind api.OpKind, object api.Digest) *modelOp {
	o.ticket++
	x := &modelOp{ticket: o.ticket, kind: kind, object: object, began: o.m.Clock(), gather: place.NewGather(object)}
	o.ops = append(o.ops, x)
	return x
}

// backup is P9.4.
func (o *model) backup(k, n int, data []byte) (uint64, api.Digest, []api.Message, api.Errno) {
	e := o.refusal()
	switch {
	case e != api.OK:
		return 0, api.Digest{}, nil, e
	case !(1 <= k && k <= n && n <= o.c.Peers):
		return 0, api.Digest{}, nil, api.ErrArg
	case len(data) > 8192:
		return 0, api.Digest{}, nil, api.ErrLong
	case len(o.m.Live()) < n:
		return 0, api.Digest{}, nil, api.ErrLive
	}
	m, pieces, _ := digest.Make(o.f, k, n, o.c.Peers, data)
	id, _ := digest.ID(m)
	if o.gone(id) {
		return 0, api.Digest{}, nil, api.ErrGone
	}
	x := o.newOp(api.OpBackup, id)
	x.manifest, x.pieces = m, pieces
	chosen := place.Chosen(id, o.m.Live(), n)
	var code api.Errno
	if slices.Contains(chosen, o.c.Self) {
		code = o.put(m, pieces[o.c.Self])
	}
	if code != api.OK {
		o.end(x, code, nil)
	} else {
		for _, to := range chosen {
			if to != o.c.Self {
				x.waiting = append(x.waiting, to)
				o.request(x, to)
			}
		}
		if len(x.waiting) == 0 {
			o.end(x, api.OK, nil)
		}
	}
	o.settle()
	if l, e := o.done(); e == api.OK {
		return x.ticket, id, l, api.OK
	}
	return 0, api.Digest{}, nil, api.ErrDown
}

// restore is P9.5.
func (o *model) restore(object api.Digest) (uint64, []api.Message, api.Errno) {
	if e := o.refusal(); e != api.OK {
		return 0, nil, e
	}
	if o.gone(object) {
		return 0, nil, api.ErrGone
	}
	x := o.newOp(api.OpRestore, object)
	if m, p, e := o.s.Get(object); e == api.OK {
		x.gather.Offer(m, p)
	}
	if x.gather.Ready() {
		data, e := x.gather.Data(o.f)
		o.end(x, e, data)
	} else {
		x.waiting = place.Sources(o.c.Self, o.inv.Holders(object), o.m.Live())
		for _, to := range x.waiting {
			o.request(x, to)
		}
		if len(x.waiting) == 0 {
			o.end(x, api.ErrFew, nil)
		}
	}
	o.settle()
	if l, e := o.done(); e == api.OK {
		return x.ticket, l, api.OK
	}
	return 0, nil, api.ErrDown
}

// remove is P9.6.
func (o *model) remove(object api.Digest) api.Errno {
	if e := o.refusal(); e != api.OK {
		return e
	}
	known := o.gone(object) || o.s.Holds(object)
	for _, r := range o.inv.Records() {
		known = known || r.Kind == api.RecordPiece && r.Object == object && r.Held
	}
	if !known {
		return api.ErrNone
	}
	if e := o.s.Bury(object); e != api.OK {
		return e
	}
	o.merge(api.Record{Kind: api.RecordGrave, Object: object})
	o.settle()
	_, e := o.done()
	return e
}

// leave is P9.7.
func (o *model) leave() ([]api.Message, api.Errno) {
	if e := o.refusal(); e != api.OK {
		return nil, e
	}
	o.send(o.m.Leave()...)
	o.endAll(func(*modelOp) bool { return true }, api.ErrState)
	o.builds, o.sheds, o.left = nil, nil, true
	return o.done()
}

// fetchResults is P9.8.
func (o *model) fetchResults() []api.Result {
	if o.down() {
		return nil
	}
	l := o.results
	o.results = nil
	return l
}

// status is what Status returns.
func (o *model) status(object api.Digest) api.ObjectStatus {
	if o.down() {
		return api.ObjectStatus{}
	}
	s := api.ObjectStatus{Held: o.s.Holds(object), Buried: o.gone(object), Holders: o.inv.Holders(object)}
	s.K, s.N = o.inv.Demand(object)
	for _, i := range s.Holders {
		if i < o.c.Peers {
			if x := o.m.Table()[i].Status; x == api.Alive || x == api.Suspect {
				s.Live++
			}
		}
	}
	return s
}
