package master_test

import (
	"bytes"
	"encoding/binary"
	"math"
	"math/rand"
	"testing"

	"phoenix/api"
	"phoenix/master"
)

// greatest is MaxLSN of the document, written out.
const greatest = 1073741824

// plain are masters that may be.
func plain() []api.Master {
	return []api.Master{
		{Epoch: 1, Base: 0, Reset: 1, Ckpt: 0, Pages: 1, Blocks: 1, Frames: 1},
		{Epoch: 300, Base: 10, Reset: 2, Ckpt: 11, Pages: 4, Blocks: 5, Frames: 6},
		{Epoch: 0x01020304, Base: 0x05060708, Reset: 0x00a0b0c0, Ckpt: 0x11121314, Pages: 21, Blocks: 43, Frames: 7},
		{Epoch: 70000, Base: 0, Reset: 70000, Ckpt: 1, Pages: 32, Blocks: 64, Frames: 8},
		{Epoch: 9, Base: 500, Reset: 9, Ckpt: 0, Pages: 2, Blocks: 3, Frames: 4},
		{Epoch: greatest, Base: greatest, Reset: greatest, Ckpt: 0, Pages: 32, Blocks: 64, Frames: 8},
		{Epoch: greatest, Base: greatest - 1, Reset: greatest, Ckpt: greatest, Pages: 32, Blocks: 64, Frames: 8},
	}
}

// of is the master of seven numbers, in package api's order.
func of(l [7]int) api.Master {
	return api.Master{Epoch: l[0], Base: l[1], Reset: l[2], Ckpt: l[3], Pages: l[4], Blocks: l[5], Frames: l[6]}
}

func numbers(m api.Master) [7]int {
	return [7]int{m.Epoch, m.Base, m.Reset, m.Ckpt, m.Pages, m.Blocks, m.Frames}
}

// may tells by the document whether m is a master, by what it refuses.
func may(m api.Master) bool {
	switch {
	case m.Epoch < 1, m.Epoch > greatest,
		m.Base < 0, m.Base > greatest,
		m.Reset < 1, m.Reset > m.Epoch,
		m.Ckpt != 0 && m.Ckpt <= m.Base, m.Ckpt < 0, m.Ckpt > greatest,
		m.Pages < 1, m.Pages > 32,
		m.Blocks < 1, m.Blocks > 64,
		m.Frames < 1, m.Frames > 8:
		return false
	}
	return true
}

// sector is a master's bytes as the document lays them, by another way than the program's; its numbers may be such as no master has.
func sector(l [7]uint32) []byte {
	b := []byte("PHXM")
	for _, n := range l {
		b = binary.LittleEndian.AppendUint32(b, n)
	}
	return append(b, make([]byte, 256-len(b))...)
}

// written is m's sector; of a number beyond four bytes, what fits.
func written(m api.Master) []byte {
	var l [7]uint32
	for i, n := range numbers(m) {
		l[i] = uint32(n)
	}
	return sector(l)
}

// reads holds that b is the master m's.
func reads(t *testing.T, b []byte, m api.Master) {
	t.Helper()
	if got, err := master.Read(b); err != nil || got != m {
		t.Errorf("Read(%v): %+v, %v; want %+v", b, got, err, m)
	}
}

// unread holds that Read answers err, and nothing beside.
func unread(t *testing.T, b []byte, err error) {
	t.Helper()
	if m, got := master.Read(b); got != err || m != (api.Master{}) {
		t.Errorf("Read(%v): %+v, %v; want %v", b, m, got, err)
	}
}

// holds holds a master that may be against all calls.
func holds(t *testing.T, m api.Master) {
	t.Helper()
	if err := master.Check(m); err != nil {
		t.Errorf("Check(%+v): %v", m, err)
	}
	want := written(m)
	if b, err := master.Bytes(m); err != nil || !bytes.Equal(b, want) {
		t.Errorf("Bytes(%+v): %v, %v; want %v", m, b, err, want)
	}
	reads(t, want, m)
}

// refused holds that there is no such master; its bytes, where its numbers fit into them, are none's.
func refused(t *testing.T, m api.Master) {
	t.Helper()
	if err := master.Check(m); err != api.ErrRange {
		t.Errorf("Check(%+v): %v; want ErrRange", m, err)
	}
	if b, err := master.Bytes(m); err != api.ErrRange || len(b) != 0 {
		t.Errorf("Bytes(%+v): %v, %v; want ErrRange", m, b, err)
	}
	for _, n := range numbers(m) {
		if n < 0 || n > math.MaxUint32 {
			return
		}
	}
	unread(t, written(m), api.ErrMaster)
}

// judged holds m against the document's word on it.
func judged(t *testing.T, m api.Master) bool {
	t.Helper()
	if may(m) {
		holds(t, m)
		return true
	}
	refused(t, m)
	return false
}

func TestLayout(t *testing.T) {
	m := api.Master{Epoch: 0x14131211, Base: 0x18171615, Reset: 0x04030201, Ckpt: 0x28272625, Pages: 0x1f, Blocks: 0x3e, Frames: 5}
	want := make([]byte, 256)
	copy(want, []byte{
		0x50, 0x48, 0x58, 0x4d,
		0x11, 0x12, 0x13, 0x14, 0x15, 0x16, 0x17, 0x18, 0x01, 0x02, 0x03, 0x04, 0x25, 0x26, 0x27, 0x28,
		0x1f, 0, 0, 0, 0x3e, 0, 0, 0, 5,
	})
	if b, err := master.Bytes(m); err != nil || !bytes.Equal(b, want) {
		t.Errorf("%v, %v; want %v", b, err, want)
	}
	reads(t, want, m)
}

func TestPlain(t *testing.T) {
	for _, m := range plain() {
		holds(t, m)
	}
}

func TestZeroValue(t *testing.T) {
	refused(t, api.Master{})
	unread(t, make([]byte, 256), api.ErrMaster)
}

// Each number at its least and its greatest, and just beyond; the other six are such that it alone decides.
func TestBounds(t *testing.T) {
	wide := [7]int{greatest, 0, 1, 0, 3, 3, 3}
	for at, x := range [][2]int{{1, greatest}, {0, greatest}, {1, greatest}, {0, greatest}, {1, 32}, {1, 64}, {1, 8}} {
		for _, n := range []int{x[0], x[0] + 1, x[1] - 1, x[1]} {
			l := wide
			l[at] = n
			holds(t, of(l))
		}
		for _, n := range []int{x[0] - 1, -1, x[1] + 1, 2*greatest - 1, 2 * greatest, math.MaxUint32, math.MaxUint32 + 1, 1<<32 + x[0], 1<<32 + 1, 1 - 1<<32, math.MinInt, math.MaxInt} {
			l := wide
			l[at] = n
			refused(t, of(l))
		}
	}
}

func TestReset(t *testing.T) {
	for _, epoch := range []int{1, 2, 3, 255, 256, 65536, greatest - 1, greatest} {
		m := api.Master{Epoch: epoch, Pages: 1, Blocks: 1, Frames: 1}
		for _, reset := range []int{1, (epoch + 1) / 2, max(epoch-1, 1), epoch} {
			m.Reset = reset
			holds(t, m)
		}
		for _, reset := range []int{math.MinInt, -epoch, -1, 0, epoch + 1, epoch + 256, math.MaxInt} {
			m.Reset = reset
			refused(t, m)
		}
	}
}

func TestCkpt(t *testing.T) {
	for _, base := range []int{0, 1, 2, 10, 255, 65536, greatest - 1, greatest} {
		m := api.Master{Epoch: 1, Base: base, Reset: 1, Pages: 1, Blocks: 1, Frames: 1}
		holds(t, m)
		for _, ckpt := range []int{base + 1, base + 2, greatest} {
			if ckpt > base && ckpt <= greatest {
				m.Ckpt = ckpt
				holds(t, m)
			}
		}
		for _, ckpt := range []int{math.MinInt, -greatest, -base, -1, 1, base / 2, base - 1, base, greatest + 1, math.MaxInt} {
			if ckpt < 0 || ckpt > greatest || ckpt != 0 && ckpt <= base {
				m.Ckpt = ckpt
				refused(t, m)
			}
		}
	}
}

// All that lie around the bounds, each with each.
func TestEachWithEach(t *testing.T) {
	long := []int{-1, 0, 1, 2, greatest - 1, greatest, greatest + 1}
	for _, epoch := range long {
		for _, base := range long {
			for _, reset := range long {
				for _, ckpt := range long {
					for _, sizes := range [][3]int{{1, 1, 1}, {32, 64, 8}, {0, 1, 1}, {33, 64, 8}, {1, 0, 1}, {32, 65, 8}, {1, 1, 0}, {32, 64, 9}} {
						judged(t, of([7]int{epoch, base, reset, ckpt, sizes[0], sizes[1], sizes[2]}))
					}
				}
			}
		}
	}
}

func TestSizes(t *testing.T) {
	for pages := -1; pages <= 34; pages++ {
		for blocks := -1; blocks <= 66; blocks++ {
			for frames := -1; frames <= 10; frames++ {
				judged(t, api.Master{Epoch: 5, Base: 6, Reset: 4, Ckpt: 7, Pages: pages, Blocks: blocks, Frames: frames})
			}
		}
	}
}

func TestLengths(t *testing.T) {
	unread(t, nil, api.ErrShort)
	one := written(plain()[1])
	for _, long := range [][]byte{append(bytes.Clone(one), one...), make([]byte, 512), bytes.Repeat([]byte{255}, 512)} {
		for n := range len(long) + 1 {
			if n != 256 {
				unread(t, long[:n], api.ErrShort)
			}
		}
	}
	reads(t, append(bytes.Clone(one), bytes.Repeat([]byte{255}, 256)...)[:256], plain()[1]) // what lies behind the length is not read
	unread(t, append(make([]byte, 256), one...)[:256], api.ErrMaster)
	unread(t, bytes.Repeat([]byte{255}, 256), api.ErrMaster)
}

// judgedBytes holds Read of a sector against what the document says of these bytes.
func judgedBytes(t *testing.T, b []byte) bool {
	t.Helper()
	var l [7]uint32
	var m [7]int
	for i := range l {
		l[i] = binary.LittleEndian.Uint32(b[4+4*i:])
		m[i] = int(l[i])
	}
	if bytes.Equal(b, sector(l)) && may(of(m)) {
		reads(t, b, of(m))
		return true
	}
	unread(t, b, api.ErrMaster)
	return false
}

// Each byte turned to all that it may be: the mark and the zeros behind the numbers may be nothing else.
func TestEachByteTurned(t *testing.T) {
	for _, m := range plain() {
		good := written(m)
		for at := range good {
			for x := range 256 {
				b := bytes.Clone(good)
				b[at] = byte(x)
				ok := judgedBytes(t, b)
				if (at < 4 || at >= 32) && ok != (b[at] == good[at]) {
					t.Errorf("%+v, byte %d is %d: %v by the document", m, at, x, ok)
				}
			}
		}
	}
}

// A sector of zeros but for one byte, and but for the mark.
func TestNearlyZeros(t *testing.T) {
	for at := range 256 {
		for _, x := range []byte{1, 0x50, 128, 255} {
			b := make([]byte, 256)
			b[at] = x
			unread(t, b, api.ErrMaster)
		}
	}
	unread(t, sector([7]uint32{}), api.ErrMaster)
	for _, mark := range []string{"PHXB", "PHXP", "MXHP", "phxm", "\x00\x00\x00\x00"} {
		b := written(plain()[1])
		copy(b, mark)
		unread(t, b, api.ErrMaster)
	}
}

// Masters with a few bits turned.
func TestManySectors(t *testing.T) {
	rnd := rand.New(rand.NewSource(5))
	found := map[bool]int{}
	for range 100000 {
		epoch, base := 1+rnd.Intn(greatest), rnd.Intn(greatest)
		m := api.Master{Epoch: epoch, Base: base, Reset: 1 + rnd.Intn(epoch), Pages: 1 + rnd.Intn(32), Blocks: 1 + rnd.Intn(64), Frames: 1 + rnd.Intn(8)}
		if rnd.Intn(2) == 0 {
			m.Ckpt = base + 1 + rnd.Intn(greatest-base)
		}
		b := written(m)
		for range rnd.Intn(3) {
			b[rnd.Intn(40)] ^= 1 << rnd.Intn(8)
		}
		found[judgedBytes(t, b)]++
	}
	if found[true] < 10000 || found[false] < 10000 {
		t.Errorf("too few of one sort: %v", found)
	}
}

func TestBytesMemory(t *testing.T) {
	for _, m := range plain() {
		first, err := master.Bytes(m)
		second, err2 := master.Bytes(m)
		if err != nil || err2 != nil {
			t.Fatal(err, err2)
		}
		room := first[:cap(first)]
		for i := range room {
			room[i] = 0xee
		}
		if !bytes.Equal(second, written(m)) {
			t.Errorf("%+v: what is written into one answer shows in another one", m)
		}
		holds(t, m)
	}
}

func TestReadMemory(t *testing.T) {
	for _, good := range []bool{true, false} {
		room := append(written(plain()[1]), 1, 2, 3)
		if !good {
			room[4] = 0
			room[5] = 0
		}
		kept := bytes.Clone(room)
		if _, err := master.Read(room[:256]); (err == nil) != good || !bytes.Equal(room, kept) {
			t.Errorf("Read changed what it was given: %v, %v", err, room)
		}
		if _, err := master.Read(room); err != api.ErrShort || !bytes.Equal(room, kept) {
			t.Errorf("Read changed what it was given: %v, %v", err, room)
		}
	}
}
