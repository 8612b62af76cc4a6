package disk_test

import (
	"bytes"
	"math"
	"math/rand/v2"
	"slices"
	"testing"

	"stolon/api"
	"stolon/disk"
)

// randomBytes returns n bytes, the same ones for the same seed.
func randomBytes(seed uint64, n int) []byte {
	r := rand.New(rand.NewPCG(seed, 7))
	b := make([]byte, n)
	for i := range b {
		b[i] = byte(r.Uint32())
	}
	return b
}

// newDisk returns a new disk of so many blocks.
func newDisk(t *testing.T, blocks int) *disk.Disk {
	t.Helper()
	d, e := disk.NewDisk(blocks)
	if e != api.OK || d == nil {
		t.Fatal("NewDisk", blocks, e)
	}
	return d
}

// loadDisk returns a disk with the bytes of an image.
func loadDisk(t *testing.T, image []byte) *disk.Disk {
	t.Helper()
	d, e := disk.LoadDisk(image)
	if e != api.OK || d == nil {
		t.Fatal("LoadDisk", len(image), e)
	}
	return d
}

// expectImage checks all bytes of a disk.
func expectImage(t *testing.T, d *disk.Disk, want []byte) {
	t.Helper()
	if got := d.Image(); !bytes.Equal(got, want) {
		for i := range min(len(got), len(want)) {
			if got[i] != want[i] {
				t.Fatalf("byte %d of block %d is %d instead of %d", i%128, i/128, got[i], want[i])
			}
		}
		t.Fatalf("%d bytes instead of %d", len(got), len(want))
	}
}

// P3.1
func TestNewDisk(t *testing.T) {
	for _, blocks := range []int{4, 5, 8, 4095, 4096} {
		d := newDisk(t, blocks)
		if d.Blocks() != blocks || d.Down() {
			t.Error(blocks, d.Blocks(), d.Down())
		}
		expectImage(t, d, make([]byte, 128*blocks))
	}
	for _, blocks := range []int{math.MinInt, -1, 0, 1, 3, 4097, math.MaxInt} {
		if d, e := disk.NewDisk(blocks); e != api.ErrArg || d != nil {
			t.Error(blocks, d, e)
		}
	}
}

// P3.1
func TestLoadDisk(t *testing.T) {
	for _, blocks := range []int{4, 5, 8, 4096} {
		image := randomBytes(uint64(blocks), 128*blocks)
		d := loadDisk(t, image)
		if d.Blocks() != blocks || d.Down() {
			t.Error(blocks, d.Blocks(), d.Down())
		}
		expectImage(t, d, image)
		for i := range blocks {
			if b, e := d.Read(i); e != api.OK || !bytes.Equal(b, image[128*i:128*(i+1)]) {
				t.Fatal("block", i, e)
			}
		}
	}
	for _, size := range []int{0, 1, 127, 128, 3 * 128, 4*128 - 1, 4*128 + 1, 5*128 - 1, 4096*128 + 1, 4097 * 128} {
		if d, e := disk.LoadDisk(make([]byte, size)); e != api.ErrArg || d != nil {
			t.Error(size, d, e)
		}
	}
	if d, e := disk.LoadDisk(nil); e != api.ErrArg || d != nil {
		t.Error(d, e)
	}
}

// P3.1, R4
func TestImageSharesNothing(t *testing.T) {
	image := randomBytes(1, 4*128)
	want := slices.Clone(image)
	d := loadDisk(t, image)
	clear(image)
	expectImage(t, d, want)
	clear(d.Image())
	expectImage(t, d, want)
	before := d.Image()
	d.Wipe()
	if !bytes.Equal(before, want) {
		t.Error("an earlier image has changed")
	}
}

// P3.1: the image is there without power, too.
func TestImageWithoutPower(t *testing.T) {
	image := randomBytes(2, 4*128)
	d := loadDisk(t, image)
	d.PowerOff()
	expectImage(t, d, image)
	if d.Blocks() != 4 {
		t.Error(d.Blocks())
	}
}

// P3.2
func TestReadAndWrite(t *testing.T) {
	d := newDisk(t, 6)
	want := make([]byte, 6*128)
	for _, i := range []int{3, 0, 5, 3, 1} {
		b := randomBytes(uint64(i), 128)
		if e := d.Write(i, b); e != api.OK {
			t.Error("Write", i, e)
		}
		copy(want[128*i:], b)
		expectImage(t, d, want)
		if got, e := d.Read(i); e != api.OK || !bytes.Equal(got, b) {
			t.Error("Read", i, got, e)
		}
	}
}

// P3.2, R1: no power comes before a wrong block, and that before a wrong length.
func TestReadAndWriteErrors(t *testing.T) {
	image := randomBytes(3, 5*128)
	d := loadDisk(t, image)
	whole := make([]byte, 128)
	for _, i := range []int{math.MinInt, -1, 5, 6, 4096, math.MaxInt} {
		for _, b := range [][]byte{whole, nil, whole[:127]} {
			if e := d.Write(i, b); e != api.ErrArg {
				t.Error("Write", i, len(b), e)
			}
		}
		if b, e := d.Read(i); e != api.ErrArg || len(b) != 0 {
			t.Error("Read", i, b, e)
		}
	}
	for _, n := range []int{0, 1, 127, 129, 256} {
		if e := d.Write(4, make([]byte, n)); e != api.ErrShape {
			t.Error("Write of", n, e)
		}
	}
	if e := d.Write(4, nil); e != api.ErrShape {
		t.Error("Write of nil", e)
	}
	d.PowerOff()
	for _, i := range []int{-1, 0, 4, 5} {
		for _, b := range [][]byte{whole, nil} {
			if e := d.Write(i, b); e != api.ErrDown {
				t.Error("Write without power", i, len(b), e)
			}
		}
		if b, e := d.Read(i); e != api.ErrDown || len(b) != 0 {
			t.Error("Read without power", i, b, e)
		}
	}
	expectImage(t, d, image)
}

// P3.2, R4
func TestReadAndWriteShareNothing(t *testing.T) {
	d := newDisk(t, 4)
	want := randomBytes(4, 128)
	b := slices.Clone(want)
	d.Write(2, b)
	if !bytes.Equal(b, want) {
		t.Error("Write changed its argument")
	}
	clear(b)
	got, _ := d.Read(2)
	if !bytes.Equal(got, want) {
		t.Error("Write kept its argument")
	}
	clear(got)
	again, _ := d.Read(2)
	if !bytes.Equal(again, want) {
		t.Error("a result of Read is the disk's memory")
	}
	d.Write(2, make([]byte, 128))
	if !bytes.Equal(again, want) {
		t.Error("a result of Read has changed")
	}
}

// P3.3: each number of writes before the torn one, and each number of bytes that this one writes.
func TestArm(t *testing.T) {
	for after := range 4 {
		for keep := range 129 {
			want := randomBytes(5, 5*128)
			d := loadDisk(t, want)
			if e := d.Arm(after, keep); e != api.OK || d.Down() {
				t.Fatal("Arm", after, keep, e)
			}
			for i := range after {
				b := randomBytes(uint64(10+i), 128)
				if e := d.Write(i, b); e != api.OK || d.Down() {
					t.Fatal("a write before", after, keep, i, e)
				}
				copy(want[128*i:], b)
			}
			b := randomBytes(20, 128)
			if e := d.Write(4, b); e != api.ErrDown || !d.Down() {
				t.Fatal("the torn write", after, keep, e)
			}
			copy(want[128*4:], b[:keep])
			expectImage(t, d, want)
		}
	}
}

// P3.3: the loss happens once.
func TestArmHappensOnce(t *testing.T) {
	d := newDisk(t, 4)
	d.Arm(0, 7)
	b := slices.Repeat([]byte{9}, 128)
	if e := d.Write(1, b); e != api.ErrDown {
		t.Error(e)
	}
	if e := d.Write(1, b); e != api.ErrDown {
		t.Error("without power", e)
	}
	d.PowerOn()
	for range 3 {
		if e := d.Write(1, b); e != api.OK || d.Down() {
			t.Error("afterwards", e)
		}
	}
}

// P3.3: only writes without another error count.
func TestArmCountsGoodWrites(t *testing.T) {
	d := newDisk(t, 4)
	b := slices.Repeat([]byte{9}, 128)
	d.Arm(2, 5)
	others := func() {
		t.Helper()
		if e := d.Write(4, b); e != api.ErrArg {
			t.Error(e)
		}
		if e := d.Write(-1, b); e != api.ErrArg {
			t.Error(e)
		}
		if e := d.Write(0, b[:127]); e != api.ErrShape {
			t.Error(e)
		}
		d.Read(0)
		d.Read(9)
		d.Image()
		d.Wipe()
		d.Rot(0, 0, 1)
		d.Rot(9, 0, 1)
		if d.Down() {
			t.Error("the power is lost")
		}
	}
	for range 2 {
		others()
		if e := d.Write(0, b); e != api.OK {
			t.Error(e)
		}
	}
	others()
	if e := d.Write(0, b); e != api.ErrDown || !d.Down() {
		t.Error(e)
	}
}

// P3.3
func TestArmAgain(t *testing.T) {
	b := slices.Repeat([]byte{9}, 128)
	d := newDisk(t, 4)
	d.Arm(0, 1)
	d.Arm(1, 2)
	if e := d.Write(0, b); e != api.OK {
		t.Error("the first Arm counts", e)
	}
	if e := d.Write(1, b); e != api.ErrDown {
		t.Error("the second Arm does not count", e)
	}
	if image := d.Image(); !bytes.Equal(image[128:132], []byte{9, 9, 0, 0}) {
		t.Error(image[128:132])
	}
	d = newDisk(t, 4)
	d.Arm(5, 1)
	d.Write(0, b)
	d.Arm(0, 3)
	if e := d.Write(1, b); e != api.ErrDown {
		t.Error("the second Arm does not count", e)
	}
	if image := d.Image(); !bytes.Equal(image[128:132], []byte{9, 9, 9, 0}) {
		t.Error(image[128:132])
	}
}

// P3.3, R1, R2: an Arm with an error leaves the one before as it was.
func TestArmErrors(t *testing.T) {
	d := newDisk(t, 4)
	b := slices.Repeat([]byte{9}, 128)
	d.Arm(1, 3)
	for _, c := range []struct{ after, keep int }{
		{-1, 0}, {math.MinInt, 5}, {0, -1}, {0, math.MinInt}, {0, 129}, {3, math.MaxInt}, {-1, 129},
	} {
		if e := d.Arm(c.after, c.keep); e != api.ErrArg {
			t.Error(c, e)
		}
	}
	if e := d.Write(0, b); e != api.OK {
		t.Error(e)
	}
	if e := d.Write(1, b); e != api.ErrDown {
		t.Error(e)
	}
	if image := d.Image(); !bytes.Equal(image[128:133], []byte{9, 9, 9, 0, 0}) {
		t.Error(image[128:133])
	}
	for _, c := range []struct{ after, keep int }{{0, 0}, {-1, 0}, {0, 129}} {
		if e := d.Arm(c.after, c.keep); e != api.ErrDown {
			t.Error("without power", c, e)
		}
	}
	d.PowerOn()
	if e := d.Write(2, b); e != api.OK {
		t.Error("an Arm without power counts", e)
	}
	if e := d.Arm(math.MaxInt, 128); e != api.OK {
		t.Error(e)
	}
	if e := d.Write(2, b); e != api.OK {
		t.Error(e)
	}
}

// P3.4
func TestPower(t *testing.T) {
	image := randomBytes(6, 4*128)
	d := loadDisk(t, image)
	for _, step := range []struct {
		on   bool
		name string
	}{{true, "on"}, {false, "off"}, {false, "off again"}, {true, "on"}, {true, "on again"}, {false, "off"}} {
		if step.on {
			d.PowerOn()
		} else {
			d.PowerOff()
		}
		if d.Down() == step.on {
			t.Error(step.name, d.Down())
		}
		expectImage(t, d, image)
	}
}

// P3.4: both take back what Arm prepared, PowerOn also on a disk that has power.
func TestPowerTakesArmBack(t *testing.T) {
	b := make([]byte, 128)
	for _, steps := range []struct {
		name string
		call func(d *disk.Disk)
	}{
		{"PowerOff and PowerOn", func(d *disk.Disk) { d.PowerOff(); d.PowerOn() }},
		{"PowerOn alone", func(d *disk.Disk) { d.PowerOn() }},
	} {
		for after := range 2 {
			d := newDisk(t, 4)
			d.Arm(after, 1)
			steps.call(d)
			for range 4 {
				if e := d.Write(0, b); e != api.OK || d.Down() {
					t.Error(steps.name, after, e)
				}
			}
		}
	}
}

// P3.5
func TestWipe(t *testing.T) {
	for _, power := range []bool{true, false} {
		d := loadDisk(t, randomBytes(7, 5*128))
		if !power {
			d.PowerOff()
		}
		if e := d.Wipe(); e != api.OK || d.Down() == power || d.Blocks() != 5 {
			t.Error(power, e, d.Down(), d.Blocks())
		}
		expectImage(t, d, make([]byte, 5*128))
	}
}

// P3.5
func TestRot(t *testing.T) {
	want := randomBytes(8, 4*128)
	d := loadDisk(t, want)
	for _, c := range []struct {
		i, at int
		mask  byte
		power bool
	}{
		{0, 0, 1, true}, {3, 127, 255, true}, {2, 64, 128, false}, {2, 64, 3, false}, {1, 5, 0, true}, {0, 127, 0x5A, false},
	} {
		if c.power {
			d.PowerOn()
		} else {
			d.PowerOff()
		}
		if e := d.Rot(c.i, c.at, c.mask); e != api.OK || d.Down() == c.power {
			t.Error(c, e, d.Down())
		}
		want[128*c.i+c.at] ^= c.mask
		expectImage(t, d, want)
	}
	for _, power := range []bool{true, false} {
		if power {
			d.PowerOn()
		} else {
			d.PowerOff()
		}
		for _, c := range []struct{ i, at int }{
			{-1, 0}, {4, 0}, {math.MinInt, 0}, {math.MaxInt, 0}, {0, -1}, {0, 128}, {3, math.MaxInt}, {0, math.MinInt}, {4, 128},
		} {
			if e := d.Rot(c.i, c.at, 255); e != api.ErrArg {
				t.Error(c, e)
			}
		}
	}
	expectImage(t, d, want)
}

// R3
func TestNilDisk(t *testing.T) {
	var d *disk.Disk
	d.PowerOff()
	d.PowerOn()
	if d.Blocks() != 0 || len(d.Image()) != 0 || d.Down() {
		t.Error("a nil Disk has values")
	}
	if b, e := d.Read(0); e != api.ErrNil || len(b) != 0 {
		t.Error("Read", b, e)
	}
	for name, e := range map[string]api.Errno{
		"Write": d.Write(0, make([]byte, 128)), "a bad Write": d.Write(-1, nil), "Arm": d.Arm(0, 0), "a bad Arm": d.Arm(-1, 0),
		"Wipe": d.Wipe(), "Rot": d.Rot(0, 0, 1), "a bad Rot": d.Rot(-1, 0, 1),
	} {
		if e != api.ErrNil {
			t.Error(name, e)
		}
	}
}

// modelDisk is a second, plainer device: left is the number of good writes until the torn one, or -1.
type modelDisk struct {
	image      []byte
	down       bool
	left, keep int
}

func (m *modelDisk) write(i int, b []byte) api.Errno {
	if m.down {
		return api.ErrDown
	}
	if i < 0 || i >= len(m.image)/128 {
		return api.ErrArg
	}
	if len(b) != 128 {
		return api.ErrShape
	}
	n, e := 128, api.OK
	if m.left == 0 {
		n, e, m.down = m.keep, api.ErrDown, true
	}
	if m.left >= 0 {
		m.left--
	}
	copy(m.image[128*i:128*(i+1)], b[:n])
	return e
}

func (m *modelDisk) arm(after, keep int) api.Errno {
	if m.down {
		return api.ErrDown
	}
	if after < 0 || keep < 0 || keep > 128 {
		return api.ErrArg
	}
	m.left, m.keep = after, keep
	return api.OK
}

// P2, P3.1 to P3.5: a device in any sequence of calls does what the model does.
func TestDiskAgainstAModel(t *testing.T) {
	random := rand.New(rand.NewPCG(1, 1))
	for range 300 {
		blocks := 4 + random.IntN(3)
		d := newDisk(t, blocks)
		m := &modelDisk{image: make([]byte, 128*blocks), left: -1}
		for step := range 60 {
			got, want := api.OK, api.OK
			i, at := random.IntN(blocks+2)-1, random.IntN(130)-1
			switch random.IntN(12) {
			case 0:
				d.PowerOff()
				m.down, m.left = true, -1
			case 1, 2:
				d.PowerOn()
				m.down, m.left = false, -1
			case 3, 4:
				after := random.IntN(5) - 1
				got, want = d.Arm(after, at), m.arm(after, at)
			case 5:
				got = d.Wipe()
				clear(m.image)
			case 6:
				got = d.Rot(i, at, byte(step))
				if i < 0 || i >= blocks || at < 0 || at >= 128 {
					want = api.ErrArg
				} else {
					m.image[128*i+at] ^= byte(step)
				}
			default:
				b := randomBytes(random.Uint64(), 128-random.IntN(20)/19)
				got, want = d.Write(i, b), m.write(i, b)
			}
			if got != want || d.Down() != m.down {
				t.Fatalf("step %d: %v instead of %v, Down %v", step, got, want, d.Down())
			}
			expectImage(t, d, m.image)
		}
	}
}
