package peer_test

import (
	"bytes"
	"slices"
	"testing"

	"stolon/api"
	"stolon/digest"
	"stolon/disk"
	"stolon/inventory"
	"stolon/peer"
	"stolon/place"
	"stolon/rs"
	"stolon/wire"
)

// object is an object with its pieces.
type object struct {
	id     api.Digest
	m      api.Manifest
	pieces []api.Piece
	data   string
	rank   []int // the peers, the best first
}

// newObject encodes an object for a swarm.
func newObject(t *testing.T, k, n, peers int, data string) object {
	t.Helper()
	m, pieces, e := digest.Make(rs.NewField(), k, n, peers, []byte(data))
	if e != api.OK {
		t.Fatal(e)
	}
	return objectOf(t, m, pieces, data)
}

// objectOf returns the object of a manifest.
func objectOf(t *testing.T, m api.Manifest, pieces []api.Piece, data string) object {
	t.Helper()
	id, e := digest.ID(m)
	if e != api.OK {
		t.Fatal(e)
	}
	return object{id, m, pieces, data, place.Ranking(id, m.Total)}
}

// forgedObject returns an object whose pieces are right one by one, but do not belong together.
func forgedObject(t *testing.T, k, n, peers int, data string) object {
	t.Helper()
	o := newObject(t, k, n, peers, data)
	o.m.Pieces = slices.Clone(o.m.Pieces)
	for i := range o.pieces {
		o.pieces[i].Data = bytes.Repeat([]byte{byte(i*i*i + 1)}, len(o.pieces[i].Data))
		o.m.Pieces[i] = digest.PieceDigest(i, o.pieces[i].Data)
	}
	return objectOf(t, o.m, o.pieces, data)
}

// rankedObject returns an object of which a peer has a place in the ranking.
func rankedObject(t *testing.T, k, n, peers, self, at int) object {
	t.Helper()
	for i := range 1000 {
		if o := newObject(t, k, n, peers, "object "+string(rune('a'+i))); o.rank[at] == self {
			return o
		}
	}
	t.Fatal("no such object")
	return object{}
}

// newDisk returns a new disk.
func newDisk(t *testing.T, blocks int) *disk.Disk {
	t.Helper()
	d, e := disk.NewDisk(blocks)
	if e != api.OK {
		t.Fatal(e)
	}
	return d
}

// copyDisk returns a disk with the bytes of another one.
func copyDisk(t *testing.T, d *disk.Disk) *disk.Disk {
	t.Helper()
	c, e := disk.LoadDisk(d.Image())
	if e != api.OK {
		t.Fatal(e)
	}
	return c
}

// node is a peer on its disk.
type node struct {
	*peer.Peer
	t           *testing.T
	self, peers int
	disk        *disk.Disk
}

// start starts a peer on a new disk, with room for everything.
func start(t *testing.T, self, peers int) node {
	t.Helper()
	return startOn(t, newDisk(t, 400), self, peers)
}

// startOn starts a peer on a disk.
func startOn(t *testing.T, d *disk.Disk, self, peers int) node {
	t.Helper()
	p, e := peer.Start(api.Config{Self: self, Peers: peers, Quota: 100000}, d)
	if e != api.OK || p == nil {
		t.Fatal("Start returns", e)
	}
	return node{p, t, self, peers, d}
}

// startLive starts a peer on a new disk that takes all others for alive in the incarnation 1.
func startLive(t *testing.T, self, peers int) node {
	t.Helper()
	n := start(t, self, peers)
	n.greet()
	return n
}

// startAgain takes the power of a peer away and starts it again.
func startAgain(n node) node {
	n.t.Helper()
	n.disk.PowerOff()
	n.disk.PowerOn()
	return startOn(n.t, n.disk, n.self, n.peers)
}

// table returns a table in which some peers are alive in the incarnation 1 and the others are absent.
func table(peers int, alive ...int) []api.Member {
	l := make([]api.Member, peers)
	for _, i := range alive {
		l[i] = api.Member{Inc: 1, Status: api.Alive}
	}
	return l
}

// allPeers returns the numbers of all peers of a swarm.
func allPeers(peers int) []int {
	l := make([]int, peers)
	for i := range l {
		l[i] = i
	}
	return l
}

// other returns the number of another peer.
func (n node) other() int { return (n.self + 1) % n.peers }

// meet lets the peer learn a table.
func (n node) meet(l []api.Member) {
	n.t.Helper()
	n.receive(api.Message{Kind: api.KindAck, From: n.other(), Origin: n.self, Table: l})
}

// greet lets the peer learn that all are alive.
func (n node) greet() {
	n.t.Helper()
	n.meet(table(n.peers, allPeers(n.peers)...))
}

// receive lets the peer receive a message, which it must accept, and returns its answers.
func (n node) receive(msg api.Message) []api.Message {
	n.t.Helper()
	msg.To = n.self
	l, e := n.Receive(msg)
	if e != api.OK {
		n.t.Fatalf("Receive of a message of kind %d from %d returns %d", msg.Kind, msg.From, e)
	}
	return l
}

// say lets the peer receive a message about an object from another peer.
func (n node) say(kind api.Kind, from int, id api.Digest) []api.Message {
	n.t.Helper()
	return n.receive(api.Message{Kind: kind, From: from, Object: id})
}

// offer lets the peer receive an Offer of the piece of its sender.
func (n node) offer(from int, o object) []api.Message {
	n.t.Helper()
	return n.receive(api.Message{Kind: api.KindOffer, From: from, Object: o.id, Manifest: o.m, Piece: o.pieces[from]})
}

// install lets the peer receive an Install of its piece, and returns the code of the answer.
func (n node) install(o object) api.Errno {
	n.t.Helper()
	l := n.receive(api.Message{Kind: api.KindInstall, From: n.other(), Object: o.id, Manifest: o.m, Piece: o.pieces[n.self]})
	if len(l) != 1 || l[0].Kind != api.KindStored || l[0].Object != o.id {
		n.t.Fatal("an install is answered by", l)
	}
	return l[0].Code
}

// hold makes the peer store its pieces of objects.
func (n node) hold(list ...object) {
	n.t.Helper()
	for _, o := range list {
		expectCode(n.t, "install", n.install(o), api.OK)
	}
}

// stored lets the peer receive the result of an Install.
func (n node) stored(from int, id api.Digest, code api.Errno) {
	n.t.Helper()
	n.receive(api.Message{Kind: api.KindStored, From: from, Object: id, Code: code})
}

// learn lets the peer receive records.
func (n node) learn(records ...api.Record) []api.Message {
	n.t.Helper()
	return n.receive(api.Message{Kind: api.KindItems, From: n.other(), Records: records})
}

// learnHolders lets the peer receive that others hold their pieces of an object, as of their incarnation 1.
func (n node) learnHolders(o object, holders ...int) {
	n.t.Helper()
	for _, i := range holders {
		n.learn(heldRecord(o, i, 1, 1))
	}
}

// tick lets the peer tick and returns what it sends.
func (n node) tick() []api.Message {
	n.t.Helper()
	l, e := n.Tick(0)
	if e != api.OK {
		n.t.Fatal("Tick returns", e)
	}
	return l
}

// ticks lets the peer tick several times.
func (n node) ticks(count int) {
	n.t.Helper()
	for range count {
		n.tick()
	}
}

// rot changes the record of the peer's piece of an object on the disk.
func (n node) rot(o object) {
	n.t.Helper()
	at, blocks, e := n.Where(o.id)
	if e != api.OK || blocks < 1 {
		n.t.Fatal("Where returns", at, blocks, e)
	}
	n.disk.Rot(at+blocks-1, 60, 1)
}

// result fetches the results, of which there must be one alone.
func (n node) result() api.Result {
	n.t.Helper()
	l := n.Results()
	if len(l) != 1 {
		n.t.Fatal("the results are", l)
	}
	return l[0]
}

// baseRecord returns a base.
func baseRecord(holder int, inc uint64) api.Record {
	return api.Record{Kind: api.RecordBase, Holder: holder, Inc: inc}
}

// graveRecord returns the grave of an object.
func graveRecord(id api.Digest) api.Record {
	return api.Record{Kind: api.RecordGrave, Object: id}
}

// heldRecord returns the record that a holder has its piece.
func heldRecord(o object, holder int, inc, num uint64) api.Record {
	return api.Record{Kind: api.RecordPiece, Object: o.id, Holder: holder, Inc: inc, Num: num, Held: true, K: o.m.K, N: o.m.N}
}

// lostRecord returns the record that a holder does not have its piece any more.
func lostRecord(o object, holder int, inc, num uint64) api.Record {
	r := heldRecord(o, holder, inc, num)
	r.Held = false
	return r
}

// about returns messages of a kind about an object, from one peer to others.
func about(kind api.Kind, from int, o object, to ...int) []api.Message {
	var l []api.Message
	for _, i := range to {
		msg := api.Message{Kind: kind, From: from, To: i, Object: o.id}
		if kind == api.KindInstall {
			msg.Manifest, msg.Piece = o.m, o.pieces[i]
		}
		l = append(l, msg)
	}
	return l
}

// tasksOnly returns those of the messages that are about an object.
func tasksOnly(l []api.Message) []api.Message {
	return slices.DeleteFunc(slices.Clone(l), func(msg api.Message) bool { return msg.Kind <= api.KindItems })
}

// ids returns the ids of objects in ascending order.
func ids(list ...object) []api.Digest {
	var l []api.Digest
	for _, o := range list {
		l = append(l, o.id)
	}
	return ascending(l)
}

// expectCode checks an error code.
func expectCode(t *testing.T, name string, got, want api.Errno) {
	t.Helper()
	if got != want {
		t.Errorf("%s: the code is %d instead of %d", name, got, want)
	}
}

// expectMessages checks messages, in their order.
func expectMessages(t *testing.T, name string, got []api.Message, want ...api.Message) {
	t.Helper()
	if !slices.EqualFunc(got, want, wire.Equal) {
		t.Errorf("%s: the messages are\n%v instead of\n%v", name, got, want)
	}
	for _, msg := range got {
		if wire.Check(msg) != api.OK {
			t.Errorf("%s: this message is not valid: %v", name, msg)
		}
	}
}

// expectRecords checks the records of the peer's inventory, which are given in any order.
func (n node) expectRecords(name string, want ...api.Record) {
	n.t.Helper()
	v := inventory.New()
	expectCode(n.t, "Merge", v.Merge(want), api.OK)
	if got := n.Records(); !slices.Equal(got, v.Records()) || len(got) != len(want) {
		n.t.Errorf("%s: the records are\n%v instead of\n%v", name, got, want)
	}
}

// expectHeld checks which objects the peer holds.
func (n node) expectHeld(name string, want ...object) {
	n.t.Helper()
	if got := n.Held(); !slices.Equal(got, ids(want...)) {
		n.t.Errorf("%s: held are %x instead of %x", name, got, ids(want...))
	}
}

// expectTasks checks which objects have a build and which have a shed.
func (n node) expectTasks(name string, builds, sheds []object) {
	n.t.Helper()
	if got := n.Builds(); !slices.Equal(got, ids(builds...)) {
		n.t.Errorf("%s: the builds are %x instead of %x", name, got, ids(builds...))
	}
	if got := n.Sheds(); !slices.Equal(got, ids(sheds...)) {
		n.t.Errorf("%s: the sheds are %x instead of %x", name, got, ids(sheds...))
	}
}

// expectPending checks which operations have not ended.
func (n node) expectPending(name string, want ...uint64) {
	n.t.Helper()
	if got := n.Pending(); !slices.Equal(got, want) {
		n.t.Errorf("%s: pending are %v instead of %v", name, got, want)
	}
}

// sameResults reports whether lists have the same results.
func sameResults(a, b []api.Result) bool {
	return slices.EqualFunc(a, b, func(x, y api.Result) bool {
		return x.Ticket == y.Ticket && x.Kind == y.Kind && x.Code == y.Code && x.Object == y.Object && bytes.Equal(x.Data, y.Data)
	})
}

// expectResults checks the results, and that they are forgotten then.
func (n node) expectResults(name string, want ...api.Result) {
	n.t.Helper()
	if got := n.Results(); !sameResults(got, want) {
		n.t.Errorf("%s: the results are %v instead of %v", name, got, want)
	}
	if got := n.Results(); len(got) != 0 {
		n.t.Errorf("%s: the results come again: %v", name, got)
	}
}

// backup begins a backup of an object, which must succeed, and returns the ticket and the messages.
func (n node) backup(o object) (uint64, []api.Message) {
	n.t.Helper()
	ticket, id, l, e := n.Backup(o.m.K, o.m.N, []byte(o.data))
	if e != api.OK || id != o.id {
		n.t.Fatalf("Backup returns %x and %d", id, e)
	}
	return ticket, l
}

// restore begins a restore of an object, which must succeed, and returns the ticket and the messages.
func (n node) restore(o object) (uint64, []api.Message) {
	n.t.Helper()
	ticket, l, e := n.Restore(o.id)
	if e != api.OK {
		n.t.Fatal("Restore returns", e)
	}
	return ticket, l
}

// endOf returns the result of an operation on an object.
func endOf(ticket uint64, kind api.OpKind, o object, code api.Errno) api.Result {
	r := api.Result{Ticket: ticket, Kind: kind, Code: code, Object: o.id}
	if kind == api.OpRestore && code == api.OK {
		r.Data = []byte(o.data)
	}
	return r
}

// startQuota starts a peer on a new disk, with a quota.
func startQuota(t *testing.T, self, peers, quota int) (*peer.Peer, api.Errno) {
	t.Helper()
	return peer.Start(api.Config{Self: self, Peers: peers, Quota: quota}, newDisk(t, 400))
}

// recordOf returns the record of an object and a holder in the peer's inventory, and whether there is one.
func recordOf(n node, o object, holder int) (api.Record, bool) {
	for _, r := range n.Records() {
		if r.Kind == api.RecordPiece && r.Object == o.id && r.Holder == holder {
			return r, true
		}
	}
	return api.Record{}, false
}
