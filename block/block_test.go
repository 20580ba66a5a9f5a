package block_test

import (
	"bytes"
	"encoding/binary"
	"math"
	"math/rand"
	"slices"
	"testing"

	"phoenix/api"
	"phoenix/block"
)

// plain are records of each kind.
func plain() []api.Rec {
	return []api.Rec{
		{Kind: 1, Txn: 7},
		{Kind: 2, Txn: 300, Page: 5, Prev: 77, Key: 1000, Had: true, Has: true, Old: 12, New: -13},
		{Kind: 2, Txn: 60000, Page: 32, Prev: 1 << 30, Key: 1048575, Has: true, New: math.MinInt64},
		{Kind: 2, Txn: 1, Page: 1, Had: true, Old: math.MaxInt64},
		{Kind: 3, Txn: 300, Page: 5, Prev: 77, Next: 66, Key: 1000, Had: true, Has: true, Old: 70, New: 8},
		{Kind: 3, Txn: 300, Page: 5, Prev: 77, Next: 66, Key: 1000, Had: true, Old: 70},
		{Kind: 4, Txn: 9, Prev: 1234567},
		{Kind: 5, Txn: 10, Prev: 1234568},
		{Kind: 6, Txn: 11, Prev: 1234569},
		{Kind: 7},
		{Kind: 8, Txn: 12, Prev: 500, Next: 400, Key: 1},
		{Kind: 9, Page: 31, Prev: 600},
		{Kind: 10, Next: 44},
	}
}

// bad are records that may not be.
func bad() []api.Rec {
	return []api.Rec{
		{},
		{Kind: 11},
		{Kind: -1, Txn: 1},
		{Kind: 1},
		{Kind: 1, Txn: 60001},
		{Kind: 1, Txn: 1, Prev: 1},
		{Kind: 2, Txn: 1, Page: 1},
		{Kind: 2, Txn: 1, Page: 33, Has: true},
		{Kind: 2, Txn: 1, Page: 1, Has: true, Key: 1048576},
		{Kind: 3, Txn: 1, Page: 1, Old: 1},
		{Kind: 4, Txn: 1, Prev: 1<<30 + 1},
		{Kind: 7, New: 1},
		{Kind: 8, Txn: 1, Key: 3},
		{Kind: 9, Page: 1},
		{Kind: 10, Next: -1},
		{Kind: math.MaxInt, Txn: math.MinInt, Page: math.MaxInt, Prev: math.MinInt, Next: math.MaxInt, Key: math.MinInt},
	}
}

// some are n plain records from the one at first on, round and round.
func some(first, n int) []api.Rec {
	var l []api.Rec
	for i := range n {
		l = append(l, plain()[(first+i)%len(plain())])
	}
	return l
}

// written is a record's bytes as chapter 3 lays them.
func written(r api.Rec) []byte {
	b := []byte{byte(r.Kind), 0}
	if r.Had {
		b[1]++
	}
	if r.Has {
		b[1] += 2
	}
	b = binary.LittleEndian.AppendUint16(b, uint16(r.Txn))
	b = binary.LittleEndian.AppendUint16(b, uint16(r.Page))
	b = append(b, 0, 0)
	for _, n := range []int{r.Prev, r.Next, r.Key, 0} {
		b = binary.LittleEndian.AppendUint32(b, uint32(n))
	}
	b = binary.LittleEndian.AppendUint64(b, uint64(r.Old))
	return binary.LittleEndian.AppendUint64(b, uint64(r.New))
}

// sector is a block's bytes as the document lays them, by another way than the program's; its numbers may be such as no block has.
func sector(epoch uint32, count uint16, l ...api.Rec) []byte {
	b := binary.LittleEndian.AppendUint32([]byte("PHXB"), epoch)
	b = binary.LittleEndian.AppendUint16(b, count)
	b = append(b, 0, 0, 0, 0, 0, 0)
	for _, r := range l {
		b = append(b, written(r)...)
	}
	return append(b, make([]byte, 256-len(b))...)
}

// holds holds a block that may be against both calls.
func holds(t *testing.T, epoch int, l []api.Rec) {
	t.Helper()
	want := sector(uint32(epoch), uint16(len(l)), l...)
	if b, err := block.Bytes(epoch, l...); err != nil || !bytes.Equal(b, want) {
		t.Errorf("Bytes(%d, %+v): %v, %v; want %v", epoch, l, b, err, want)
	}
	reads(t, want, epoch, l)
}

// reads holds what Read says of the bytes of a block.
func reads(t *testing.T, b []byte, epoch int, l []api.Rec) {
	t.Helper()
	if e, got, err := block.Read(b); err != nil || e != epoch || !slices.Equal(got, l) {
		t.Errorf("Read(%v): %d, %+v, %v; want %d, %+v", b, e, got, err, epoch, l)
	}
}

// refused holds that there is no such block.
func refused(t *testing.T, epoch int, l []api.Rec) {
	t.Helper()
	if b, err := block.Bytes(epoch, l...); err != api.ErrRange || len(b) != 0 {
		t.Errorf("Bytes(%d, %+v): %v, %v; want ErrRange", epoch, l, b, err)
	}
}

// unread holds that Read answers err, and nothing beside.
func unread(t *testing.T, b []byte, err error) {
	t.Helper()
	if e, l, got := block.Read(b); got != err || e != 0 || len(l) != 0 {
		t.Errorf("Read(%v): %d, %+v, %v; want %v", b, e, l, got, err)
	}
}

func TestLayout(t *testing.T) {
	l := []api.Rec{{Kind: 1, Txn: 0x1122}, {Kind: 10, Next: 0x3344}}
	want := make([]byte, 256)
	copy(want, []byte{0x50, 0x48, 0x58, 0x42, 0x14, 0x13, 0x12, 0x11, 2, 0, 0, 0, 0, 0, 0, 0, 1, 0, 0x22, 0x11})
	want[56], want[68], want[69] = 10, 0x44, 0x33
	if b, err := block.Bytes(0x11121314, l...); err != nil || !bytes.Equal(b, want) {
		t.Errorf("%v, %v; want %v", b, err, want)
	}
	reads(t, want, 0x11121314, l)
}

func TestOneRecordToPerBlock(t *testing.T) {
	for n := 1; n <= 6; n++ {
		for first := range plain() {
			holds(t, 1000*n+first, some(first, n))
		}
	}
}

func TestSameRecordsAgain(t *testing.T) {
	for _, r := range plain() {
		holds(t, 3, []api.Rec{r, r, r, r, r, r})
	}
}

func TestEpochs(t *testing.T) {
	for _, n := range []int{1, 6} {
		l := some(2, n)
		for _, epoch := range []int{1, 2, 255, 256, 65535, 65536, 1 << 24, 1<<30 - 1, 1 << 30} {
			holds(t, epoch, l)
		}
		for _, epoch := range []int{0, -1, 1<<30 + 1, 1 << 31, 1 << 32, 1<<32 + 1, 1 - 1<<32, math.MinInt, math.MaxInt} {
			refused(t, epoch, l)
		}
		for _, epoch := range []uint32{0, 1<<30 + 1, 1 << 31, 1<<31 + 1, math.MaxUint32} {
			unread(t, sector(epoch, uint16(n), l...), api.ErrBlock)
		}
	}
}

func TestHowMany(t *testing.T) {
	for _, epoch := range []int{1, 1 << 30} {
		refused(t, epoch, nil)
		refused(t, epoch, []api.Rec{})
		for _, n := range []int{7, 8, 13, 100, 256, 257, 65536, 65537} {
			refused(t, epoch, some(0, n))
		}
	}
	refused(t, 0, nil)
	refused(t, 0, some(0, 7))
	refused(t, 0, bad())
}

// Records and a number that tells of fewer, or of more.
func TestHowManyInTheBytes(t *testing.T) {
	for _, n := range []int{0, 1, 6} {
		for count := range 1 << 16 {
			b := sector(5, uint16(count), some(0, n)...)
			if count == n && n > 0 {
				reads(t, b, 5, some(0, n))
			} else {
				unread(t, b, api.ErrBlock)
			}
		}
	}
}

func TestRecordsThatMayNotBe(t *testing.T) {
	for _, r := range bad() {
		for n := 1; n <= 6; n++ {
			for at := range n {
				l := some(at, n)
				l[at] = r
				refused(t, 1, l)
				unread(t, sector(1, uint16(n), l...), api.ErrBlock)
			}
		}
	}
}

func TestSectorOfZeros(t *testing.T) {
	unread(t, make([]byte, 256), nil)
	for at := range 256 {
		for _, x := range []byte{1, 0x50, 128, 255} {
			b := make([]byte, 256)
			b[at] = x
			unread(t, b, api.ErrBlock)
		}
	}
}

func TestLengths(t *testing.T) {
	unread(t, nil, api.ErrShort)
	one := sector(9, 6, some(0, 6)...)
	for _, long := range [][]byte{append(bytes.Clone(one), one...), make([]byte, 512), bytes.Repeat([]byte{255}, 512)} {
		for n := range len(long) + 1 {
			if n != 256 {
				unread(t, long[:n], api.ErrShort)
			}
		}
	}
	reads(t, append(bytes.Clone(one), one...)[:256], 9, some(0, 6))
	unread(t, make([]byte, 512)[:256], nil)
	unread(t, append(make([]byte, 256), one...)[:256], nil) // what lies behind the length is not read
	unread(t, bytes.Repeat([]byte{255}, 256), api.ErrBlock)
}

// said is what a sector's bytes say, without asking whether it may be; of its records those that it has room for.
func said(b []byte) (uint32, uint16, []api.Rec) {
	n := binary.LittleEndian
	count := n.Uint16(b[8:])
	var l []api.Rec
	for at := 16; len(l) < int(count) && at+40 <= 256; at += 40 {
		r := b[at : at+40]
		l = append(l, api.Rec{Kind: int(r[0]), Had: r[1]%2 == 1, Has: r[1]/2%2 == 1, Txn: int(n.Uint16(r[2:])), Page: int(n.Uint16(r[4:])),
			Prev: int(n.Uint32(r[8:])), Next: int(n.Uint32(r[12:])), Key: int(n.Uint32(r[16:])), Old: int64(n.Uint64(r[24:])), New: int64(n.Uint64(r[32:]))})
	}
	return n.Uint32(b[4:]), count, l
}

// may tells by chapter 3 whether r is a record.
func may(r api.Rec) bool {
	in := func(n, least, most int) bool { return least <= n && n <= most }
	plain := !r.Had && !r.Has && r.Old == 0 && r.New == 0
	txn, page := in(r.Txn, 1, 60000), in(r.Page, 1, 32)
	prev, next := in(r.Prev, 0, 1<<30), in(r.Next, 0, 1<<30)
	switch r.Kind {
	case 1:
		return txn && plain && r.Page == 0 && r.Prev == 0 && r.Next == 0 && r.Key == 0
	case 2:
		return txn && page && prev && r.Next == 0 && in(r.Key, 0, 1<<20-1) && (r.Had || r.Old == 0) && (r.Has || r.New == 0) && (r.Had || r.Has)
	case 3:
		return txn && page && prev && next && in(r.Key, 0, 1<<20-1) && r.Had && 1 <= r.Old && r.Old <= 1<<30 && (r.Has || r.New == 0)
	case 4, 5, 6:
		return txn && plain && r.Page == 0 && prev && r.Next == 0 && r.Key == 0
	case 7:
		return plain && r.Txn == 0 && r.Page == 0 && r.Prev == 0 && r.Next == 0 && r.Key == 0
	case 8:
		return txn && plain && r.Page == 0 && prev && next && in(r.Key, 0, 2)
	case 9:
		return plain && r.Txn == 0 && page && in(r.Prev, 1, 1<<30) && r.Next == 0 && r.Key == 0
	case 10:
		return plain && r.Txn == 0 && r.Page == 0 && r.Prev == 0 && in(r.Next, 0, 60000) && r.Key == 0
	}
	return false
}

// judged holds Read of b, which is not all zeros, against what the document says of these bytes.
func judged(t *testing.T, b []byte) bool {
	t.Helper()
	epoch, count, l := said(b)
	ok := 1 <= epoch && epoch <= 1<<30 && 1 <= count && count <= 6 && bytes.Equal(b, sector(epoch, count, l...))
	for _, r := range l {
		ok = ok && may(r)
	}
	if ok {
		reads(t, b, int(epoch), l)
	} else {
		unread(t, b, api.ErrBlock)
	}
	return ok
}

// Each byte of blocks of one record to six turned to all that it may be.
func TestEachByteTurned(t *testing.T) {
	for n := 1; n <= 6; n++ {
		good := sector(77, uint16(n), some(3*n, n)...)
		for at := range good {
			for x := range 256 {
				b := bytes.Clone(good)
				b[at] = byte(x)
				ok := judged(t, b)
				fixed := at < 4 || 8 <= at && at < 16 || at >= 16+40*n
				if fixed && ok != (b[at] == good[at]) {
					t.Errorf("%d records, byte %d is %d: %v by the book", n, at, x, ok)
				}
			}
		}
	}
}

// Blocks with a few bytes turned, and with records that may be or not.
func TestManyBlocks(t *testing.T) {
	rnd := rand.New(rand.NewSource(4))
	pool := append(append(plain(), plain()...), bad()[:3]...)
	found := map[bool]int{}
	for range 100000 {
		var l []api.Rec
		for range rnd.Intn(7) {
			l = append(l, pool[rnd.Intn(len(pool))])
		}
		b := sector(uint32(rnd.Intn(1<<30+2)), uint16(len(l)), l...)
		for range rnd.Intn(3) {
			b[rnd.Intn(256)] ^= 1 << rnd.Intn(8)
		}
		found[judged(t, b)]++
	}
	if found[true] < 10000 || found[false] < 10000 {
		t.Errorf("too few of one sort: %v", found)
	}
}

func TestBytesMemory(t *testing.T) {
	for n := 1; n <= 6; n++ {
		room := some(0, 8)
		first, err := block.Bytes(4, room[:n]...)
		second, err2 := block.Bytes(4, room[:n]...)
		if err != nil || err2 != nil || !slices.Equal(room, some(0, 8)) {
			t.Fatalf("%v, %v, %+v", err, err2, room)
		}
		want := sector(4, uint16(n), some(0, n)...)
		clear(room)
		for i := range first[:cap(first)] {
			first[:cap(first)][i] = 0xee
		}
		if !bytes.Equal(second, want) {
			t.Errorf("%d records: what is written into one answer shows in another one", n)
		}
		if third, err := block.Bytes(4, some(0, n)...); err != nil || !bytes.Equal(third, want) {
			t.Errorf("%d records: a later answer shows it: %v, %v", n, third, err)
		}
	}
}

func TestReadMemory(t *testing.T) {
	for n := 1; n <= 6; n++ {
		room := append(sector(4, uint16(n), some(0, n)...), 1, 2, 3)
		kept := bytes.Clone(room)
		_, first, err := block.Read(room[:256])
		_, second, err2 := block.Read(room[:256])
		if err != nil || err2 != nil || !bytes.Equal(room, kept) {
			t.Fatalf("Read changed what it was given: %v, %v, %v", err, err2, room)
		}
		clear(room)
		clear(first[:cap(first)])
		if !slices.Equal(second, some(0, n)) {
			t.Errorf("%d records: what is written into one answer shows in another one: %+v", n, second)
		}
		reads(t, kept[:256], 4, some(0, n))
	}
}
