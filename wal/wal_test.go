package wal_test

import (
	"bytes"
	"errors"
	"math"
	"math/rand"
	"slices"
	"testing"

	"phoenix/api"
	"phoenix/block"
	"phoenix/disk"
	"phoenix/wal"
)

// What the document says of the sizes, written out.
const (
	greatest = 1073741824
	perBlock = 6
)

// begin is a plain record that tells its number k (1 to 60000).
func begin(k int) api.Rec { return api.Rec{Kind: api.Begin, Txn: k} }

// begins are those of from to to.
func begins(from, to int) []api.Rec {
	var l []api.Rec
	for k := from; k <= to; k++ {
		l = append(l, begin(k))
	}
	return l
}

// kinds are records of each kind, some with the most that they may have.
func kinds() []api.Rec {
	return []api.Rec{
		{Kind: api.Begin, Txn: 60000},
		{Kind: api.Set, Txn: 1, Page: 32, Prev: greatest, Key: 1<<20 - 1, Had: true, Old: math.MinInt64, Has: true, New: math.MaxInt64},
		{Kind: api.Set, Txn: 2, Page: 1, Has: true, New: -1},
		{Kind: api.Clr, Txn: 3, Page: 2, Prev: 9, Next: greatest, Key: 4, Had: true, Old: 8, Has: true, New: 77},
		{Kind: api.Commit, Txn: 4, Prev: 5},
		{Kind: api.Abort, Txn: 5, Prev: 6},
		{Kind: api.End, Txn: 6, Prev: 7},
		{Kind: api.CkBegin},
		{Kind: api.CkTxn, Txn: 7, Prev: 3, Next: 2, Key: 2},
		{Kind: api.CkPage, Page: 5, Prev: 1},
		{Kind: api.CkEnd, Next: 60000},
	}
}

// wrong are records that can't be.
func wrong() []api.Rec {
	return []api.Rec{
		{},
		{Kind: -1, Txn: 1},
		{Kind: 11, Txn: 1},
		{Kind: api.Begin},
		{Kind: api.Begin, Txn: 60001},
		{Kind: api.Begin, Txn: 1, Prev: 1},
		{Kind: api.Set, Txn: 1, Page: 1},
		{Kind: api.Set, Txn: 1, Page: 33, Has: true},
		{Kind: api.Clr, Txn: 1, Page: 1, Key: 1, Had: true, Has: true, New: 4},
		{Kind: api.Commit, Txn: 1, Prev: greatest + 1},
		{Kind: api.CkPage, Page: 1},
		{Kind: api.CkEnd, New: 1},
	}
}

// fill appends l, each of which there must be room for.
func fill(t *testing.T, g *wal.Log, l ...api.Rec) {
	t.Helper()
	for _, r := range l {
		last, room := g.Last(), g.Room()
		lsn, err := g.Append(r)
		if err != nil || lsn != last+1 || g.Last() != lsn || g.Room() != room-1 {
			t.Fatalf("Append(%+v) behind %d: %d, %v; Last %d, Room %d behind %d", r, last, lsn, err, g.Last(), g.Room(), room)
		}
	}
}

// refuses holds that Append(r) answers err, and changes nothing.
func refuses(t *testing.T, g *wal.Log, r api.Rec, err error) {
	t.Helper()
	base, last, done, room := g.Base(), g.Last(), g.Done(), g.Room()
	if lsn, got := g.Append(r); got != err || lsn != 0 {
		t.Errorf("Append(%+v): %d, %v; want %v", r, lsn, got, err)
	}
	if g.Base() != base || g.Last() != last || g.Done() != done || g.Room() != room {
		t.Errorf("Append(%+v) refused, but Base %d, Last %d, Done %d, Room %d", r, g.Base(), g.Last(), g.Done(), g.Room())
	}
	none(t, g, last+1)
}

// none holds that there is no record of that number.
func none(t *testing.T, g *wal.Log, lsn int) {
	t.Helper()
	if r, is := g.Rec(lsn); is || r != (api.Rec{}) {
		t.Errorf("Rec(%d): %+v, %v; Base %d, Last %d", lsn, r, is, g.Base(), g.Last())
	}
}

// tells holds that g tells just the records l behind base, of which done are flushed, in a log of so many blocks.
func tells(t *testing.T, g *wal.Log, blocks, base, done int, l []api.Rec) {
	t.Helper()
	room := max(0, min(blocks*perBlock-len(l), greatest-base-len(l)))
	if g.Base() != base || g.Last() != base+len(l) || g.Done() != base+done || g.Room() != room {
		t.Fatalf("Base %d, Last %d, Done %d, Room %d; want %d, %d, %d, %d", g.Base(), g.Last(), g.Done(), g.Room(), base, base+len(l), base+done, room)
	}
	for i, want := range l {
		if r, is := g.Rec(base + 1 + i); !is || r != want {
			t.Errorf("Rec(%d): %+v, %v; want %+v", base+1+i, r, is, want)
		}
	}
	for _, lsn := range []int{base, base - 1, base - 2, -base - 1, base + len(l) + 1, base + len(l) + 2, base + 1<<32, base - 1<<32, math.MinInt, math.MinInt + 1, math.MinInt + base, math.MinInt + base + 1, math.MaxInt - 1, math.MaxInt} {
		none(t, g, lsn)
	}
}

// sector is what the document asks a sector to have: a block's bytes.
func sector(t *testing.T, epoch int, l ...api.Rec) []byte {
	t.Helper()
	b, err := block.Bytes(epoch, l...)
	if err != nil {
		t.Fatal(err)
	}
	return b
}

// junk is a sector that is no block: a block but for one byte.
func junk(t *testing.T) []byte {
	t.Helper()
	b := sector(t, 1, begin(1))
	b[255] = 1
	return b
}

func zeros() []byte { return make([]byte, 256) }

func write(t *testing.T, d *disk.Disk, i int, b []byte) {
	t.Helper()
	if err := d.Write(i, b); err != nil {
		t.Fatalf("Write(%d): %v", i, err)
	}
}

func sync(t *testing.T, d *disk.Disk) {
	t.Helper()
	if err := d.Sync(); err != nil {
		t.Fatalf("Sync: %v", err)
	}
}

func flush(t *testing.T, g *wal.Log) {
	t.Helper()
	if err := g.Flush(); err != nil || g.Done() != g.Last() {
		t.Fatalf("Flush: %v; Done %d, Last %d", err, g.Done(), g.Last())
	}
}

func open(t *testing.T, d *disk.Disk, first, blocks, base, reset, epoch int) *wal.Log {
	t.Helper()
	g, err := wal.Open(d, first, blocks, base, reset, epoch)
	if err != nil || g == nil {
		t.Fatalf("Open: %v, %v", g, err)
	}
	return g
}

// unopened holds that Open answers err, around pos unless that is below 0, and nothing beside.
func unopened(t *testing.T, g *wal.Log, got error, pos int, err error) {
	t.Helper()
	if g != nil {
		t.Errorf("a log beside %v", got)
	}
	if pos < 0 {
		if got != err {
			t.Errorf("%v; want %v", got, err)
		}
		return
	}
	var at *api.At
	if !errors.As(got, &at) || at.Pos != pos || at.Err != err {
		t.Errorf("%v; want %v at %d", got, err, pos)
	}
}

// lies holds that the disk's last versions are want, and that its loose ones are as said.
func lies(t *testing.T, d *disk.Disk, want [][]byte, loose [][2]int) {
	t.Helper()
	if got := d.Loose(); !slices.Equal(got, loose) {
		t.Errorf("loose %v; want %v", got, loose)
	}
	for i, b := range want {
		if got, err := d.Read(i); err != nil || !bytes.Equal(got, b) {
			t.Errorf("sector %d: %v, %v; want %v", i, got, err, b)
		}
	}
}

// off takes the power.
func off(t *testing.T, d *disk.Disk) {
	t.Helper()
	d.Fuse(0)
	if err := d.Sync(); err != api.ErrOff || !d.Off() {
		t.Fatal("the power stays on", err)
	}
}

// P6.1: a log without records.

func TestNewHasNone(t *testing.T) {
	for _, base := range []int{0, 1, 100, greatest - 1, greatest} {
		for _, blocks := range []int{0, 1, 2, 64} {
			g := wal.New(disk.New(70), 2, blocks, base, 7)
			tells(t, g, blocks, base, 0, nil)
			flush(t, g)
			tells(t, g, blocks, base, 0, nil)
		}
	}
}

func TestNewLeavesTheDisk(t *testing.T) {
	d := disk.New(4)
	write(t, d, 1, junk(t))
	write(t, d, 2, sector(t, 3, begin(9)))
	d.Fuse(0)
	tells(t, wal.New(d, 1, 2, 5, 7), 2, 5, 0, nil)
	if d.Off() {
		t.Error("New wrote")
	}
	lies(t, d, [][]byte{zeros(), junk(t), sector(t, 3, begin(9)), zeros()}, [][2]int{{1, 1}, {2, 1}})
}

// P6.1: Append.

func TestAppendNumbersOn(t *testing.T) {
	for _, base := range []int{0, 1, 4711, greatest - 11} {
		d := disk.New(5)
		g := wal.New(d, 1, 3, base, 2)
		var l []api.Rec
		for i, r := range kinds() {
			if lsn, err := g.Append(r); err != nil || lsn != base+1+i {
				t.Errorf("Append(%+v): %d, %v", r, lsn, err)
			}
			l = append(l, r)
			tells(t, g, 3, base, 0, l)
		}
		lies(t, d, [][]byte{zeros(), zeros(), zeros(), zeros(), zeros()}, nil)
	}
}

func TestAppendRefusesARecordThatCantBe(t *testing.T) {
	g := wal.New(disk.New(5), 1, 2, 10, 2)
	for _, r := range wrong() {
		refuses(t, g, r, api.ErrRange)
	}
	fill(t, g, begins(1, 7)...)
	for _, r := range wrong() {
		refuses(t, g, r, api.ErrRange)
	}
	tells(t, g, 2, 10, 0, begins(1, 7))
}

func TestAppendIntoAFullLog(t *testing.T) {
	for _, blocks := range []int{0, 1, 2, 64} {
		g := wal.New(disk.New(70), 1, blocks, 10, 2)
		l := begins(1, blocks*perBlock)
		fill(t, g, l...)
		for _, r := range kinds() {
			refuses(t, g, r, api.ErrLogFull)
		}
		for _, r := range wrong() {
			refuses(t, g, r, api.ErrRange) // named ahead of ErrLogFull
		}
		flush(t, g)
		refuses(t, g, begin(1), api.ErrLogFull)
		tells(t, g, blocks, 10, len(l), l)
	}
}

func TestAppendUpToTheLastNumber(t *testing.T) {
	for left := range 15 {
		base := greatest - left
		g := wal.New(disk.New(5), 1, 2, base, 2)
		n := min(left, 12)
		if g.Room() != n {
			t.Fatalf("base %d: Room %d; want %d", base, g.Room(), n)
		}
		fill(t, g, begins(1, n)...)
		refuses(t, g, begin(1), api.ErrLogFull)
		refuses(t, g, api.Rec{}, api.ErrRange)
		tells(t, g, 2, base, 0, begins(1, n))
		flush(t, g)
		tells(t, g, 2, base, n, begins(1, n))
	}
}

func TestRoomIsHowManyGoIn(t *testing.T) {
	for _, blocks := range []int{math.MinInt, -64, -1, 0, 1, 2, 3, 63, 64} {
		for _, base := range []int{0, 1, 1000, greatest - 385, greatest - 384, greatest - 383, greatest - 13, greatest - 6, greatest - 5, greatest - 1, greatest} {
			g := wal.New(disk.New(200), 1, blocks, base, 2)
			room := g.Room()
			if want := min(max(blocks, 0)*perBlock, greatest-base); room != want {
				t.Errorf("%d blocks from %d on: Room %d; want %d", blocks, base, room, want)
				continue
			}
			fill(t, g, begins(1, room)...)
			refuses(t, g, begin(1), api.ErrLogFull)
		}
	}
}

// TestRoomOfBlocksBeyondAllBounds: there are no more than there are numbers; what is below 0 is none.
func TestRoomOfBlocksBeyondAllBounds(t *testing.T) {
	for _, blocks := range []int{greatest / perBlock, greatest/perBlock + 1, greatest, greatest + 1, 1 << 60, 1<<61 + 1, 1 << 62, math.MaxInt} {
		for _, base := range []int{0, 5, greatest - 3, greatest} {
			g := wal.New(disk.New(3), 1, blocks, base, 2)
			want := greatest - base
			if blocks < greatest {
				want = min(want, blocks*perBlock)
			}
			if g.Room() != want {
				t.Errorf("%d blocks from %d on: Room %d; want %d", blocks, base, g.Room(), want)
			}
			if want > 0 {
				fill(t, g, begin(1))
			}
		}
	}
	for _, blocks := range []int{math.MinInt, math.MinInt + 1, -1 << 62, -1<<61 - 1, -1 << 61, -greatest, -1} {
		g := wal.New(disk.New(3), 1, blocks, 5, 2)
		tells(t, g, 0, 5, 0, nil)
		refuses(t, g, begin(1), api.ErrLogFull)
	}
}

func TestAppendAndRecWithoutPower(t *testing.T) {
	d := disk.New(4)
	g := wal.New(d, 1, 2, 3, 2)
	off(t, d)
	fill(t, g, begins(1, 8)...)
	tells(t, g, 2, 3, 0, begins(1, 8))
}

func TestRecIsKeptAsItWas(t *testing.T) {
	g := wal.New(disk.New(4), 1, 2, 0, 2)
	r := begin(1)
	fill(t, g, r)
	r.Txn = 2
	got, _ := g.Rec(1)
	got.Txn = 3
	tells(t, g, 2, 0, 0, begins(1, 1))
}

func TestTwoLogsAreApart(t *testing.T) {
	d := disk.New(6)
	a, b := wal.New(d, 1, 2, 0, 2), wal.New(d, 3, 2, 50, 3)
	fill(t, a, begins(1, 3)...)
	fill(t, b, begins(11, 18)...)
	flush(t, a)
	tells(t, a, 2, 0, 3, begins(1, 3))
	tells(t, b, 2, 50, 0, begins(11, 18))
	flush(t, b)
	lies(t, d, [][]byte{zeros(), sector(t, 2, begins(1, 3)...), zeros(), sector(t, 3, begins(11, 16)...), sector(t, 3, begins(17, 18)...), zeros()}, nil)
}

// P6.2: Flush.

// TestFlushWritesWhatIsNotFlushed cuts at the Sync, so that the loose versions tell which blocks were written, and how often; then it goes through.
func TestFlushWritesWhatIsNotFlushed(t *testing.T) {
	const blocks, first = 3, 2
	for had := 0; had <= blocks*perBlock; had++ {
		for has := had + 1; has <= blocks*perBlock; has++ {
			d := disk.New(6)
			g := wal.New(d, first, blocks, 100, 9)
			fill(t, g, begins(1, had)...)
			flush(t, g)
			fill(t, g, begins(had+1, has)...)
			var loose [][2]int
			for i := range blocks {
				if (i+1)*perBlock > had && i*perBlock < has {
					loose = append(loose, [2]int{first + i, 1})
				}
			}
			fast := d.Image()
			d.Fuse(len(loose))
			if err := g.Flush(); err != api.ErrOff || g.Done() != 100+had || !d.Off() {
				t.Fatalf("%d to %d, cut at the Sync: %v, Done %d", had, has, err, g.Done())
			}
			if got := d.Loose(); !slices.Equal(got, loose) || !slices.EqualFunc(d.Image(), fast, bytes.Equal) {
				t.Fatalf("%d to %d: loose %v; want %v", had, has, got, loose)
			}
			d.Crash()
			d.Fuse(len(loose) + 1)
			flush(t, g)
			if d.Off() || d.Sync() != api.ErrOff {
				t.Fatalf("%d to %d: not just the writes and a Sync", had, has)
			}
			d.Crash()
			tells(t, g, blocks, 100, has, begins(1, has))
			lies(t, d, image(t, 6, first, 9, begins(1, has)), nil)
		}
	}
}

// image is a disk of n sectors with the blocks of l, all of one epoch, from first on.
func image(t *testing.T, n, first, epoch int, l []api.Rec) [][]byte {
	t.Helper()
	var out [][]byte
	for range n {
		out = append(out, zeros())
	}
	for c := range slices.Chunk(l, perBlock) {
		out[first] = sector(t, epoch, c...)
		first++
	}
	return out
}

func TestFlushCutAtEachStep(t *testing.T) {
	const first, base = 1, 30
	for cut := range 5 {
		d := disk.New(6)
		g := wal.New(d, first, 4, base, 5)
		fill(t, g, begins(1, 4)...)
		flush(t, g)
		fill(t, g, begins(5, 20)...) // four blocks are to be written
		d.Fuse(cut)
		if err := g.Flush(); err != api.ErrOff || !d.Off() || g.Done() != base+4 {
			t.Errorf("cut %d: %v, Done %d", cut, err, g.Done())
		}
		var loose [][2]int
		for i := range min(cut+1, 4) { // a Write that finds no power leaves its version, a Sync does nothing
			loose = append(loose, [2]int{first + i, 1})
		}
		if got := d.Loose(); !slices.Equal(got, loose) {
			t.Errorf("cut %d: loose %v; want %v", cut, got, loose)
		}
		if err := g.Flush(); err != api.ErrOff || g.Done() != base+4 || !slices.Equal(d.Loose(), loose) {
			t.Errorf("cut %d, again without power: %v, Done %d", cut, err, g.Done())
		}
		d.Crash(1, 1, 1, 1)
		want := image(t, 6, first, 5, begins(1, 20))
		for i := len(loose); i < 4; i++ {
			want[first+i] = zeros()
		}
		lies(t, d, want, nil)
		flush(t, g)
		lies(t, d, image(t, 6, first, 5, begins(1, 20)), nil)
		tells(t, g, 4, base, 20, begins(1, 20))
	}
}

func TestFlushOfNothing(t *testing.T) {
	for _, n := range []int{0, 1, 6, 7, 12} {
		d := disk.New(4)
		g := wal.New(d, 1, 2, 8, 5)
		fill(t, g, begins(1, n)...)
		flush(t, g)
		write(t, d, 3, junk(t)) // would be fast behind a Sync
		d.Fuse(0)
		flush(t, g)
		if d.Off() || !slices.Equal(d.Loose(), [][2]int{{3, 1}}) {
			t.Errorf("%d records: it wrote or synced: %v", n, d.Loose())
		}
		off(t, d)
		flush(t, g)
		tells(t, g, 2, 8, n, begins(1, n))
	}
}

func TestFlushWithoutPower(t *testing.T) {
	d := disk.New(4)
	g := wal.New(d, 1, 2, 8, 5)
	fill(t, g, begins(1, 7)...)
	off(t, d)
	if err := g.Flush(); err != api.ErrOff || g.Done() != 8 || len(d.Loose()) != 0 {
		t.Error(err, g.Done(), d.Loose())
	}
	tells(t, g, 2, 8, 0, begins(1, 7))
}

func TestFlushSyncsTheWholeDisk(t *testing.T) {
	d := disk.New(4)
	g := wal.New(d, 2, 1, 0, 5)
	write(t, d, 0, junk(t))
	fill(t, g, begin(1))
	flush(t, g)
	d.Crash()
	lies(t, d, [][]byte{junk(t), zeros(), sector(t, 5, begin(1)), zeros()}, nil)
}

func TestFlushAgainWritesTheBlockWhole(t *testing.T) {
	d := disk.New(3)
	g := wal.New(d, 1, 2, 0, 5)
	for k := 1; k <= 12; k++ {
		fill(t, g, begin(k))
		flush(t, g)
		lies(t, d, image(t, 3, 1, 5, begins(1, k)), nil)
	}
}

func TestFlushIntoSectorsThatAreNone(t *testing.T) {
	for _, first := range []int{math.MinInt, -7, -1, 3, 4, 1 << 40, math.MaxInt} {
		d := disk.New(3)
		g := wal.New(d, first, 3, 8, 5)
		flush(t, g)
		fill(t, g, begins(1, 7)...)
		if err := g.Flush(); err != api.ErrRange || g.Done() != 8 {
			t.Errorf("from %d on: %v, Done %d", first, err, g.Done())
		}
		lies(t, d, [][]byte{zeros(), zeros(), zeros()}, nil)
		tells(t, g, 3, 8, 0, begins(1, 7))
	}
	d := disk.New(3)
	g := wal.New(d, 2, 3, 8, 5)
	fill(t, g, begins(1, 6)...)
	flush(t, g)
	fill(t, g, begin(7))
	if err := g.Flush(); err != api.ErrRange || g.Done() != 14 {
		t.Errorf("the second block: %v, Done %d", err, g.Done())
	}
	tells(t, g, 3, 8, 6, begins(1, 7))
	lies(t, d, [][]byte{zeros(), zeros(), sector(t, 5, begins(1, 6)...)}, nil)
}

// TestFlushPartlyIntoSectorsThatAreNone: the blocks are written in order, as far as it comes; no Sync follows, and Done stays.
func TestFlushPartlyIntoSectorsThatAreNone(t *testing.T) {
	d := disk.New(3)
	g := wal.New(d, 1, 3, 8, 5)
	fill(t, g, begins(1, 13)...)
	if err := g.Flush(); err != api.ErrRange {
		t.Error(err)
	}
	tells(t, g, 3, 8, 0, begins(1, 13))
	lies(t, d, image(t, 3, 1, 5, begins(1, 12)), [][2]int{{1, 1}, {2, 1}})
	d.Fuse(1)
	if err := g.Flush(); err != api.ErrOff { // met ahead of the sector that is none
		t.Error(err)
	}
}

func TestFlushOfEpochs(t *testing.T) {
	for _, epoch := range []int{1, 2, 256, greatest} {
		d := disk.New(3)
		g := wal.New(d, 1, 2, 0, epoch)
		fill(t, g, begins(1, 7)...)
		flush(t, g)
		lies(t, d, image(t, 3, 1, epoch, begins(1, 7)), nil)
	}
	for _, epoch := range []int{math.MinInt, -1, 0, greatest + 1, math.MaxInt} {
		d := disk.New(3)
		g := wal.New(d, 1, 2, 0, epoch)
		fill(t, g, begins(1, 7)...)
		if err := g.Flush(); err != api.ErrRange || g.Done() != 0 {
			t.Errorf("epoch %d: %v, Done %d", epoch, err, g.Done())
		}
		lies(t, d, [][]byte{zeros(), zeros(), zeros()}, nil)
	}
}

// P6.3: Open.

// lay is what a sector is laid with: a block of so many records of an epoch; none: zeros; fewer: no block.
type lay struct{ epoch, many int }

// laid writes those from first on, and is the records of each: their numbers tell which block they are of.
func laid(t *testing.T, d *disk.Disk, first int, l []lay) [][]api.Rec {
	t.Helper()
	var out [][]api.Rec
	for i, x := range l {
		recs := begins(100*i+1, 100*i+x.many)
		out = append(out, recs)
		if x.many > 0 {
			write(t, d, first+i, sector(t, x.epoch, recs...))
		} else if x.many < 0 {
			write(t, d, first+i, junk(t))
		}
	}
	sync(t, d)
	return out
}

// found is what the document says of these blocks: how many are there, or where it is that the log can't be (else -1).
func found(l []lay, reset, epoch int) (int, int) {
	for i, x := range l {
		switch {
		case x.many < 0:
			return 0, i
		case x.many == 0:
			return i, -1
		case x.epoch >= epoch:
			return 0, i
		case x.epoch < reset, i > 0 && x.epoch < l[i-1].epoch:
			return i, -1
		case x.many < perBlock:
			return i + 1, -1
		}
	}
	return len(l), -1
}

// opens opens what is laid, and holds it against found; nothing may be written, and where it is a log, it goes on.
func opens(t *testing.T, l []lay, base, reset, epoch int) {
	t.Helper()
	const first = 2
	d := disk.New(first + len(l) + 1)
	recs := laid(t, d, first, l)
	ahead := d.Image()
	d.Fuse(0)
	g, err := wal.Open(d, first, len(l), base, reset, epoch)
	if d.Off() || !slices.EqualFunc(d.Image(), ahead, bytes.Equal) {
		t.Errorf("%v: Open wrote", l)
	}
	d.Fuse(-1)
	many, pos := found(l, reset, epoch)
	if pos >= 0 {
		unopened(t, g, err, pos, api.ErrLog)
		return
	}
	if err != nil || g == nil {
		t.Errorf("%v: %v", l, err)
		return
	}
	all := slices.Concat(recs[:many]...)
	tells(t, g, len(l), base, len(all), all)
	if g.Room() > 0 {
		goesOn(t, d, g, first, all, reset, epoch, l)
	}
}

// behind tells whether the blocks of l behind the first so many are such as elder boots left.
func behind(l []lay, many, epoch int) bool {
	return !slices.ContainsFunc(l[many:], func(x lay) bool { return x.many < 0 || x.many > 0 && x.epoch >= epoch })
}

// goesOn appends as many as there is room for, one by one, each flushed: blocks that are written are of epoch, the others stay; the next boot finds all. (Just behind a full block it comes to the next one, which no boot may have left.)
func goesOn(t *testing.T, d *disk.Disk, g *wal.Log, first int, all []api.Rec, reset, epoch int, l []lay) {
	t.Helper()
	want := d.Image()
	for k := range g.Room() {
		fill(t, g, begin(5000+k))
		all = append(all, begin(5000+k))
		flush(t, g)
		i := (len(all) - 1) / perBlock
		want[first+i] = sector(t, epoch, all[i*perBlock:]...)
		lies(t, d, want, nil)
		tells(t, g, len(l), g.Base(), len(all), all)
		if len(all)%perBlock != 0 || behind(l, i+1, epoch) {
			again := open(t, d, first, len(l), g.Base(), reset, epoch+1)
			tells(t, again, len(l), g.Base(), len(all), all)
		}
	}
}

func TestOpenByTheDocument(t *testing.T) {
	const reset, epoch = 3, 9
	for _, l := range [][]lay{
		{},
		{{}},
		{{}, {}, {}},
		{{5, 1}, {}, {}},
		{{5, 5}, {}, {}},
		{{5, 6}, {}, {}},
		{{5, 6}, {5, 6}, {5, 5}},
		{{5, 6}, {5, 6}, {5, 6}},         // all full
		{{3, 6}, {5, 6}, {8, 6}},         // of boots that follow
		{{5, 6}, {}, {5, 6}},             // behind zeros
		{{}, {5, 6}, {5, 6}},             // behind zeros, from the first one on
		{{5, 5}, {5, 6}, {}},             // behind one that is not full
		{{5, 5}, {4, 6}, {3, 6}},         // elder boots behind one that is not full
		{{5, 6}, {4, 6}, {5, 6}},         // an elder boot ends it, whatever follows
		{{5, 6}, {4, 1}, {9, 6}},         // and what can't be behind it is not looked at
		{{5, 6}, {4, 6}, {5, -1}},        // nor what is no block
		{{3, 6}, {3, 6}, {3, 1}},         // reset itself
		{{2, 6}, {5, 6}, {5, 6}},         // below reset
		{{1, 1}, {9, 6}, {5, -1}},        // below reset, and not looked further
		{{5, 6}, {2, 6}, {5, 6}},         // below both
		{{8, 6}, {8, 6}, {8, 3}},         // just below epoch
		{{9, 6}, {}, {}},                 // epoch itself
		{{9, 1}, {}, {}},                 // and not full
		{{10, 6}, {}, {}},                // above epoch
		{{greatest, 1}, {}, {}},          // far above
		{{8, 6}, {9, 1}, {}},             // the second one
		{{8, 6}, {8, 6}, {12, 6}},        // the last one
		{{0, -1}, {}, {}},                // no block
		{{5, 6}, {0, -1}, {}},            // the second one
		{{5, 6}, {5, 6}, {0, -1}},        // the last one
		{{5, 2}, {0, -1}, {}},            // behind the end
		{{}, {0, -1}, {9, 6}},            // behind zeros
		{{5, 6}, {}, {10, 6}},            // behind zeros, above epoch
		{{5, 3}, {9, 6}, {0, -1}},        // behind one that is not full, above epoch
		{{4, 6}, {6, 6}, {5, 1}},         // rising, then not
		{{4, 6}, {4, 6}, {6, 2}, {5, 6}}, // rising, then the end
	} {
		for _, base := range []int{0, 50, greatest - 100} {
			opens(t, l, base, reset, epoch)
		}
	}
}

// TestOpenOfAll goes through all logs of three blocks, of few epochs and sizes.
func TestOpenOfAll(t *testing.T) {
	var one []lay
	one = append(one, lay{}, lay{0, -1})
	for epoch := 1; epoch <= 5; epoch++ {
		one = append(one, lay{epoch, 1}, lay{epoch, 5}, lay{epoch, 6})
	}
	for _, a := range one {
		for _, b := range one {
			for _, c := range one {
				opens(t, []lay{a, b, c}, 7, 2, 4)
			}
		}
	}
}

func TestOpenOfRandom(t *testing.T) {
	rnd := rand.New(rand.NewSource(6))
	for range 400 {
		var l []lay
		epoch := 1 + rnd.Intn(3)
		for range 1 + rnd.Intn(6) {
			epoch += rnd.Intn(3) * rnd.Intn(2)
			x := lay{epoch, perBlock}
			switch rnd.Intn(10) {
			case 0:
				x.many = rnd.Intn(perBlock+1) - 1
			case 1:
				x.epoch = 1 + rnd.Intn(12)
			}
			l = append(l, x)
		}
		opens(t, l, rnd.Intn(1000), rnd.Intn(4), 5+rnd.Intn(8))
	}
}

// TestOpenWhichIsMetFirst: an epoch that is both too great and below reset is told of.
func TestOpenWhichIsMetFirst(t *testing.T) {
	for _, x := range []struct{ boot, pos int }{{4, -1}, {5, 0}, {7, 0}, {9, 0}, {10, 0}} {
		d := disk.New(3)
		write(t, d, 1, sector(t, x.boot, begins(1, 6)...))
		g, err := wal.Open(d, 1, 2, 50, 10, 5)
		if x.pos >= 0 {
			unopened(t, g, err, x.pos, api.ErrLog)
		} else if err != nil {
			t.Error(x, err)
		} else {
			tells(t, g, 2, 50, 0, nil)
		}
	}
}

func TestOpenLooksAtItsBlocksAlone(t *testing.T) {
	d := disk.New(6)
	write(t, d, 0, junk(t))
	write(t, d, 1, junk(t))
	write(t, d, 2, sector(t, 1, begins(1, 6)...))
	write(t, d, 3, sector(t, 1, begins(7, 12)...))
	write(t, d, 4, junk(t))
	g := open(t, d, 2, 2, 0, 1, 2)
	tells(t, g, 2, 0, 12, begins(1, 12))
	refuses(t, g, begin(1), api.ErrLogFull)
	one := open(t, d, 2, 1, 0, 1, 2)
	tells(t, one, 1, 0, 6, begins(1, 6))
	three, err := wal.Open(d, 2, 3, 0, 1, 2)
	unopened(t, three, err, 2, api.ErrLog)
}

func TestOpenOfNoBlocks(t *testing.T) {
	d := disk.New(2)
	write(t, d, 1, junk(t))
	off(t, d)
	for _, blocks := range []int{math.MinInt, -1, 0} {
		for _, first := range []int{-1, 1, 2, math.MaxInt} {
			g := open(t, d, first, blocks, 40, 1, 2)
			tells(t, g, 0, 40, 0, nil)
			refuses(t, g, begin(1), api.ErrLogFull)
		}
	}
}

func TestOpenSectorsThatAreNone(t *testing.T) {
	for _, first := range []int{math.MinInt, -2, -1, 3, 4, 1 << 40, math.MaxInt} {
		g, err := wal.Open(disk.New(3), first, 2, 0, 1, 2)
		unopened(t, g, err, -1, api.ErrRange)
	}
	d := disk.New(3)
	tells(t, open(t, d, 2, 2, 0, 1, 2), 2, 0, 0, nil) // what is past the end is not come to
	write(t, d, 2, sector(t, 1, begins(1, 5)...))
	tells(t, open(t, d, 2, 2, 0, 1, 2), 2, 0, 5, begins(1, 5))
	write(t, d, 2, sector(t, 1, begins(1, 6)...))
	g, err := wal.Open(d, 2, 2, 0, 1, 2)
	unopened(t, g, err, -1, api.ErrRange)
	tells(t, open(t, d, 2, 1, 0, 1, 2), 1, 0, 6, begins(1, 6))
}

func TestOpenWithoutPower(t *testing.T) {
	d := disk.New(3)
	write(t, d, 1, junk(t))
	off(t, d)
	for _, first := range []int{-1, 1, 2, 3} {
		g, err := wal.Open(d, first, 1, 0, 1, 2)
		unopened(t, g, err, -1, api.ErrOff)
	}
}

func TestOpenUpToTheLastNumber(t *testing.T) {
	for left := range 15 {
		d := disk.New(4)
		laid(t, d, 1, []lay{{1, 6}, {1, 2}})
		base := greatest - left
		g := open(t, d, 1, 2, base, 1, 2)
		room := min(4, max(0, left-8)) // of blocks, of numbers; some are beyond the last number already
		all := slices.Concat(begins(1, 6), begins(101, 102))
		tells(t, g, 2, base, 8, all)
		if g.Room() != room {
			t.Errorf("base %d: Room %d; want %d", base, g.Room(), room)
		}
		fill(t, g, begins(11, 10+room)...)
		refuses(t, g, begin(1), api.ErrLogFull)
		flush(t, g)
	}
}

func TestOpenReadsEachKind(t *testing.T) {
	d := disk.New(4)
	g := wal.New(d, 1, 2, 6, 1)
	fill(t, g, kinds()...)
	flush(t, g)
	tells(t, open(t, d, 1, 2, 6, 1, 2), 2, 6, 11, kinds())
}

// TestOpenSeesItsDisk: a log holds its disk, and its own records.
func TestOpenSeesItsDisk(t *testing.T) {
	d := disk.New(3)
	write(t, d, 1, sector(t, 1, begins(1, 3)...))
	g := open(t, d, 1, 2, 0, 1, 2)
	write(t, d, 1, junk(t))
	tells(t, g, 2, 0, 3, begins(1, 3))
	fill(t, g, begin(4))
	flush(t, g)
	lies(t, d, image(t, 3, 1, 2, begins(1, 4)), nil)
}

// TestCutAndOpenedAgain: boots follow one another; each flushes, and is cut while it flushes more, at each step, with each choice of what the sectors keep. The next one finds what was flushed, and of the rest a first part, with blocks of elder boots behind its end.
func TestCutAndOpenedAgain(t *testing.T) {
	const first, blocks, base = 1, 4, 20
	for cut := range 4 {
		for second := range 4 {
			for keep := range 64 {
				d := disk.New(6)
				all := boot(t, d, wal.New(d, first, blocks, base, 1), 1, nil, cut, keep&7)
				g := open(t, d, first, blocks, base, 1, 2)
				all = prefix(t, g, all, 5)
				had := len(all)
				all = boot(t, d, g, 2, all, second, keep>>3)
				g = open(t, d, first, blocks, base, 1, 3)
				all = prefix(t, g, all, min(had+5, blocks*perBlock))
				tells(t, g, blocks, base, len(all), all)
			}
		}
	}
}

// boot appends five and flushes them, then twelve more, whose Flush is cut, and keeps of it what the bits of keep say; it is all that was appended. What there is no room for is left out.
func boot(t *testing.T, d *disk.Disk, g *wal.Log, n int, all []api.Rec, cut, keep int) []api.Rec {
	t.Helper()
	all = slices.Clone(all)
	put := func(many int) {
		for range min(many, g.Room()) {
			r := begin(1000*n + len(all))
			fill(t, g, r)
			all = append(all, r)
		}
	}
	put(5)
	flush(t, g)
	put(12)
	d.Fuse(cut)
	if err := g.Flush(); err != nil && err != api.ErrOff {
		t.Fatal(err)
	}
	d.Crash(keep&1, keep>>1&1, keep>>2&1)
	return all
}

// prefix holds that g has a first part of all, of at least so many; it is that part.
func prefix(t *testing.T, g *wal.Log, all []api.Rec, least int) []api.Rec {
	t.Helper()
	n := g.Last() - g.Base()
	if n < least || n > len(all) {
		t.Fatalf("%d records of %d; %d at least were flushed", n, len(all), least)
	}
	tells(t, g, 4, g.Base(), n, all[:n])
	return all[:n]
}

// P0.1: every call ends and none panics.

func TestNothingPanics(t *testing.T) {
	odd := []int{math.MinInt, math.MinInt + 1, -1 << 31, -1, 0, 1, 2, 7, 64, 65, 200, greatest - 1, greatest, greatest + 1, 1 << 31, 1 << 62, math.MaxInt - 1, math.MaxInt}
	for _, first := range odd {
		for _, blocks := range odd {
			for _, n := range odd {
				for _, epoch := range []int{math.MinInt, 0, 1, 3, greatest, math.MaxInt} {
					d := disk.New(3)
					write(t, d, 1, sector(t, 2, begins(1, 6)...))
					g, err := wal.Open(d, first, blocks, n, n, epoch)
					if (g == nil) != (err != nil) {
						t.Fatal(first, blocks, n, epoch, g, err)
					}
					for _, g := range []*wal.Log{wal.New(d, first, blocks, n, epoch), g} {
						if g != nil {
							pokes(g, odd)
						}
					}
				}
			}
		}
	}
}

// pokes makes all calls.
func pokes(g *wal.Log, odd []int) {
	for k := range 8 {
		_, _ = g.Append(begin(k))
	}
	_ = g.Flush()
	for _, lsn := range odd {
		g.Rec(lsn)
	}
	g.Base()
	g.Last()
	g.Done()
	g.Room()
}
