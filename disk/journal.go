package disk

import "stolon/api"

// noSlot stands for the active superblock of a disk that has none.
const noSlot = -1

// Journal is a list of records on a disk.
type Journal struct {
	disk    *Disk
	session uint64 // of the disk, as long as the journal is live
	active  int    // the block of the active superblock, or noSlot
	current super  // what the active superblock says; zero without one
	next    uint64 // the generation of the next Rewrite; 0 if there can be none any more
	ready   bool   // a Rewrite of this journal has succeeded
	used    int    // if ready: the blocks of the current area up to the end of the last record
}

// Open returns the journal of a disk and its entries. No earlier journal of the disk is live after that.
func Open(d *Disk) (*Journal, []api.Entry, api.Errno) {
	if d == nil {
		return nil, nil, api.ErrNil
	}
	if d.down {
		return nil, nil, api.ErrDown
	}
	d.session++
	j := &Journal{disk: d, session: d.session, active: noSlot}
	j.findActive()
	// Generations wrap around: this is 0 after the greatest number of all, and only then.
	j.next = j.greatest() + 1
	return j, j.entries(), api.OK
}

// Generation returns the current generation.
func (j *Journal) Generation() uint64 {
	if j.check() != api.OK {
		return 0
	}
	return j.current.generation
}

// Area returns the area size.
func (j *Journal) Area() int {
	if j.check() != api.OK {
		return 0
	}
	return j.size()
}

// Free returns the number of blocks of the current area after the last record that this journal has written.
func (j *Journal) Free() int {
	if j.check() != api.OK || !j.ready {
		return 0
	}
	return j.size() - j.used
}

// Base returns the number of the first block of the current area.
func (j *Journal) Base() int {
	if j.check() != api.OK || j.active == noSlot {
		return 0
	}
	return j.first(j.current.area)
}

// Rewrite makes the records the content of the journal and returns their positions.
func (j *Journal) Rewrite(records [][]byte) ([]int, api.Errno) {
	if e := j.check(); e != api.OK {
		return nil, e
	}
	positions, used, e := layOut(records)
	if e != api.OK {
		return nil, e
	}
	if used > j.size() || j.next == 0 {
		return nil, api.ErrFull
	}
	slot, target := j.successor()
	for i, record := range records {
		if e := j.write(target, positions[i], record); e != api.OK {
			return nil, e
		}
	}
	// Only now, when all the records are on the disk, may their area become the current one.
	if e := j.disk.Write(slot, target.bytes()); e != api.OK {
		return nil, e
	}
	j.active, j.current, j.next = slot, target, target.generation+1
	j.ready, j.used = true, used
	return positions, api.OK
}

// Append writes one more record and returns its position.
func (j *Journal) Append(record []byte) (int, api.Errno) {
	if e := j.check(); e != api.OK {
		return 0, e
	}
	if !j.ready {
		return 0, api.ErrState
	}
	if len(record) > api.MaxRecord {
		return 0, api.ErrLong
	}
	cost := Cost(len(record))
	if cost > j.Free() {
		return 0, api.ErrFull
	}
	at := j.used
	if e := j.write(j.current, at, record); e != api.OK {
		return 0, e
	}
	j.used += cost
	return at, api.OK
}

// ReadAt returns the record that stands at a position of the current area now.
func (j *Journal) ReadAt(at int) ([]byte, api.Errno) {
	if e := j.check(); e != api.OK {
		return nil, e
	}
	data, parts := j.record(at)
	if parts == 0 {
		return nil, api.ErrNone
	}
	return data, api.OK
}

// check returns an error if the journal is not live.
func (j *Journal) check() api.Errno {
	if j == nil {
		return api.ErrNil
	}
	if j.session != j.disk.session {
		return api.ErrDown
	}
	return api.OK
}

// size returns the area size.
func (j *Journal) size() int { return (len(j.disk.blocks) - slots) / slots }

// first returns the number of the first block of an area.
func (j *Journal) first(area int) int { return slots + area*j.size() }

// findActive finds the valid superblock with the greater generation; of two with the same one it is the first.
func (j *Journal) findActive() {
	for slot := range slots {
		s, valid := readSuper(j.disk.blocks[slot])
		if valid && (j.active == noSlot || s.generation > j.current.generation) {
			j.active, j.current = slot, s
		}
	}
}

// greatest returns the greatest generation that is on the disk, or 0 if there is none.
func (j *Journal) greatest() uint64 {
	g := j.current.generation // that of the other superblock is not greater
	for area := range slots {
		for position := range j.size() {
			if p, valid := readPart(j.disk.blocks[j.first(area)+position], position); valid {
				g = max(g, p.generation)
			}
		}
	}
	return g
}

// entries returns the records that stand in the current area.
func (j *Journal) entries() []api.Entry {
	var list []api.Entry
	at := 0
	for at < j.size() {
		data, parts := j.record(at)
		if parts == 0 {
			at++
			continue
		}
		list = append(list, api.Entry{At: at, Data: data})
		at += parts
	}
	return list
}

// record returns the record that stands at a position of the current area, and the number of its parts: 0 if none stands there.
func (j *Journal) record(at int) ([]byte, int) {
	var data []byte
	parts := 1 // until the first part tells
	for i := 0; i < parts; i++ {
		p, valid := j.currentPart(at + i)
		if !valid || p.number != i || i > 0 && p.parts != parts {
			return nil, 0
		}
		parts = p.parts
		data = append(data, p.data...)
	}
	return data, parts
}

// currentPart returns what the log block at a position of the current area says, and whether it is there, valid and of the current generation.
func (j *Journal) currentPart(position int) (part, bool) {
	if j.active == noSlot || position < 0 || position >= j.size() {
		return part{}, false
	}
	p, valid := readPart(j.disk.blocks[j.first(j.current.area)+position], position)
	return p, valid && p.generation == j.current.generation
}

// successor returns the superblock that the next Rewrite writes, and its block.
func (j *Journal) successor() (int, super) {
	if j.active == noSlot {
		return 0, super{generation: j.next}
	}
	return 1 - j.active, super{generation: j.next, area: 1 - j.current.area}
}

// write writes the parts of a record from a position on, for the superblock to which they belong.
func (j *Journal) write(s super, at int, record []byte) api.Errno {
	parts := Cost(len(record))
	for i := range parts {
		data := record[i*partSize : min((i+1)*partSize, len(record))]
		p := part{generation: s.generation, number: i, parts: parts, data: data}
		if e := j.disk.Write(j.first(s.area)+at+i, p.bytes(at+i)); e != api.OK {
			return e
		}
	}
	return api.OK
}

// layOut returns the positions of records that are written one after another from 0 on, and the number of their blocks.
func layOut(records [][]byte) ([]int, int, api.Errno) {
	positions := make([]int, len(records))
	used := 0
	for i, record := range records {
		if len(record) > api.MaxRecord {
			return nil, 0, api.ErrLong
		}
		positions[i] = used
		used += Cost(len(record))
	}
	return positions, used, api.OK
}
