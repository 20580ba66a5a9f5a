package pool_test

import (
	"bytes"
	"cmp"
	"errors"
	"math"
	"math/rand"
	"slices"
	"testing"

	"phoenix/api"
	"phoenix/disk"
	"phoenix/page"
	"phoenix/pool"
	"phoenix/wal"
)

// What the document says of the sizes, written out.
const (
	greatest   = 1073741824
	lastKey    = 1048575
	perPage    = 20
	mostFrames = 8
)

// How the disks of these tests are laid out: sector 0, the pages, the log's blocks.
const (
	logAt  = 13
	blocks = 6
	size   = logAt + blocks
)

// odd are the least and the greatest number, and those around the bounds that the document names.
func odd() []int {
	l := []int{math.MinInt, math.MinInt + 1, math.MaxInt - 1, math.MaxInt}
	for _, n := range []int{0, 3, mostFrames, size, 200, greatest, 1 << 31, 1 << 32, 1 << 62} {
		l = append(l, n-1, n, n+1, -n-1, -n, 1-n)
	}
	slices.Sort(l)
	return slices.Compact(l)
}

// of is the page of these keys, each with a value that tells it and the LSN.
func of(lsn int, keys ...int) api.Page {
	g := api.Page{LSN: lsn}
	for _, k := range keys {
		g.L = append(g.L, api.Entry{Key: k, Value: int64(k)*1000003 - int64(lsn)})
	}
	return g
}

// even is the page of the first n even keys.
func even(lsn, n int) api.Page {
	var l []int
	for i := range n {
		l = append(l, 2*i)
	}
	return of(lsn, l...)
}

// wrong are pages that page.Check refuses.
func wrong() []api.Page {
	return []api.Page{
		of(-1), of(math.MinInt), of(greatest + 1), of(math.MaxInt), of(1<<32 + 1),
		of(-1, 1), of(greatest+1, 1),
		even(1, perPage+1), even(1, 200),
		of(1, 2, 2), of(1, 3, 2), of(1, 1, 2, 3, 0),
		of(1, -1), of(1, math.MinInt), of(1, lastKey+1), of(1, 5, math.MaxInt),
		of(0, 5), even(0, perPage),
	}
}

// right are pages that it does not refuse.
func right() []api.Page {
	return []api.Page{
		{}, {L: []api.Entry{}}, of(1), of(greatest), of(1, 0), of(2, lastKey), of(greatest, 0, lastKey),
		even(3, perPage-1), even(4, perPage),
		{LSN: 5, L: []api.Entry{{Key: 0, Value: 0}, {Key: 1, Value: math.MinInt64}, {Key: 2, Value: math.MaxInt64}, {Key: 3, Value: -1}}},
	}
}

// junk are sectors that are no page.
func junk(t *testing.T) [][]byte {
	t.Helper()
	tail, many, keys := sector(t, of(7, 3)), sector(t, of(7, 3)), sector(t, of(7, 3))
	tail[255] = 1
	many[4] = perPage + 1
	clear(keys[0:4]) // keys, and LSN is 0
	return [][]byte{tail, many, keys, bytes.Repeat([]byte{7}, 256), bytes.Repeat([]byte{255}, 256)}
}

// sector is what the document asks a page's sector to have.
func sector(t *testing.T, g api.Page) []byte {
	t.Helper()
	b, err := page.Bytes(g)
	if err != nil {
		t.Fatalf("Bytes(%+v): %v", g, err)
	}
	return b
}

func same(a, b api.Page) bool { return a.LSN == b.LSN && slices.Equal(a.L, b.L) }

// logOf is a new log of d in these sectors, behind which so many records are flushed.
func logOf(t *testing.T, d *disk.Disk, first, n int) *wal.Log {
	t.Helper()
	l := wal.New(d, first, blocks, 0, 1)
	add(t, l, n)
	if err := l.Flush(); err != nil {
		t.Fatal(err)
	}
	return l
}

// add appends n records, and flushes none.
func add(t *testing.T, l *wal.Log, n int) {
	t.Helper()
	for range n {
		if _, err := l.Append(api.Rec{Kind: api.Begin, Txn: l.Last() + 1}); err != nil {
			t.Fatal(err)
		}
	}
}

// store is a disk, a log of it with so many records that are flushed, and a pool of both.
func store(t *testing.T, frames, n int) (*disk.Disk, *wal.Log, *pool.Pool) {
	t.Helper()
	d := disk.New(size)
	l := logOf(t, d, logAt, n)
	return d, l, pool.New(d, l, frames)
}

// lost is a store whose log has six records that are flushed, one that is not, and no sector that this one could be written into: its Flush answers ErrRange, with power.
func lost(t *testing.T, frames int) (*disk.Disk, *wal.Log, *pool.Pool) {
	t.Helper()
	d := disk.New(size)
	l := logOf(t, d, size-1, 6)
	add(t, l, 1)
	return d, l, pool.New(d, l, frames)
}

// lay writes g into sector n, past the pool, and makes it fast.
func lay(t *testing.T, d *disk.Disk, n int, g api.Page) {
	t.Helper()
	write(t, d, n, sector(t, g))
	if err := d.Sync(); err != nil {
		t.Fatal(err)
	}
}

func write(t *testing.T, d *disk.Disk, n int, b []byte) {
	t.Helper()
	if err := d.Write(n, b); err != nil {
		t.Fatalf("Write(%d): %v", n, err)
	}
}

// off takes the power.
func off(t *testing.T, d *disk.Disk) {
	t.Helper()
	d.Fuse(0)
	if err := d.Sync(); err != api.ErrOff || !d.Off() {
		t.Fatal("the power stays on", err)
	}
}

func got(t *testing.T, p *pool.Pool, n, hint int, want api.Page) {
	t.Helper()
	if g, err := p.Get(n, hint); err != nil || !same(g, want) {
		t.Errorf("Get(%d, %d): %+v, %v; want %+v", n, hint, g, err, want)
	}
}

// fetch gets these pages, one by one, with hint 0.
func fetch(t *testing.T, p *pool.Pool, l ...int) {
	t.Helper()
	for _, n := range l {
		if _, err := p.Get(n, 0); err != nil {
			t.Fatalf("Get(%d, 0): %v", n, err)
		}
	}
}

// notGot holds that Get answers err, around pos unless that is below 0, and nothing beside.
func notGot(t *testing.T, p *pool.Pool, n, hint, pos int, err error) {
	t.Helper()
	g, e := p.Get(n, hint)
	if !same(g, api.Page{}) {
		t.Errorf("Get(%d, %d): %+v beside %v", n, hint, g, e)
	}
	if at := around(e); pos < 0 && e != err || pos >= 0 && at != (api.At{Pos: pos, Err: err}) {
		t.Errorf("Get(%d, %d): %v; want %v, %d", n, hint, e, err, pos)
	}
}

// around is the place and the error that err has, or the zero value.
func around(err error) api.At {
	var at *api.At
	if !errors.As(err, &at) {
		return api.At{}
	}
	return *at
}

func set(t *testing.T, p *pool.Pool, n int, g api.Page) {
	t.Helper()
	if err := p.Set(n, g); err != nil {
		t.Errorf("Set(%d, %+v): %v", n, g, err)
	}
}

func notSet(t *testing.T, p *pool.Pool, n int, g api.Page) {
	t.Helper()
	if err := p.Set(n, g); err != api.ErrRange {
		t.Errorf("Set(%d, %+v): %v", n, g, err)
	}
}

func flush(t *testing.T, p *pool.Pool, n int, want error) {
	t.Helper()
	if err := p.Flush(n); err != want {
		t.Errorf("Flush(%d): %v; want %v", n, err, want)
	}
}

func flushAll(t *testing.T, p *pool.Pool, want error) {
	t.Helper()
	if err := p.FlushAll(); err != want {
		t.Errorf("FlushAll: %v; want %v", err, want)
	}
}

func evict(t *testing.T, p *pool.Pool, hint int, want error) {
	t.Helper()
	if err := p.Evict(hint); err != want {
		t.Errorf("Evict(%d): %v; want %v", hint, err, want)
	}
}

func here(t *testing.T, p *pool.Pool, want ...int) {
	t.Helper()
	if l := p.Here(); !slices.Equal(l, want) {
		t.Errorf("Here: %v; want %v", l, want)
	}
}

// dirties holds that these pages are dirty, given with their records one after the other.
func dirties(t *testing.T, p *pool.Pool, numbers ...int) {
	t.Helper()
	var want []api.Dirty
	for i := 0; i < len(numbers); i += 2 {
		want = append(want, api.Dirty{Page: numbers[i], From: numbers[i+1]})
	}
	if l := p.Dirty(); !slices.Equal(l, want) {
		t.Errorf("Dirty: %v; want %v", l, want)
	}
}

// loose holds how many loose versions these sectors have, given one after the other.
func loose(t *testing.T, d *disk.Disk, numbers ...int) {
	t.Helper()
	var want [][2]int
	for i := 0; i < len(numbers); i += 2 {
		want = append(want, [2]int{numbers[i], numbers[i+1]})
	}
	if l := d.Loose(); !slices.Equal(l, want) {
		t.Errorf("loose: %v; want %v", l, want)
	}
}

// lies holds that the disk has this page.
func lies(t *testing.T, d *disk.Disk, n int, want api.Page) {
	t.Helper()
	b, err := d.Read(n)
	if err != nil || !bytes.Equal(b, sector(t, want)) {
		t.Errorf("sector %d: %v, %v; want %+v", n, b, err, want)
	}
}

// rising are the numbers from one to another.
func rising(from, to int) []int {
	var l []int
	for n := from; n <= to; n++ {
		l = append(l, n)
	}
	return l
}

// P11.1: New.

func TestNewHasNone(t *testing.T) {
	for _, frames := range odd() {
		d, l, p := store(t, frames, 2)
		here(t, p)
		dirties(t, p)
		off(t, d)
		for _, n := range odd() {
			evict(t, p, n, nil)
			flush(t, p, n, nil)
			notSet(t, p, n, of(1, 5))
			notSet(t, p, n, api.Page{})
		}
		here(t, p)
		dirties(t, p)
		if l.Done() != 2 {
			t.Error("Done", l.Done())
		}
	}
}

// A pool is made without a write, a Sync or a record, of a disk with power or without.
func TestNewLeavesTheDisk(t *testing.T) {
	d := disk.New(size)
	l := logOf(t, d, logAt, 3)
	add(t, l, 1)
	write(t, d, 3, junk(t)[0])
	d.Fuse(0)
	here(t, pool.New(d, l, 4))
	if d.Off() || l.Done() != 3 || l.Last() != 4 {
		t.Error(d.Off(), l.Done(), l.Last())
	}
	loose(t, d, 3, 1)
	off(t, d)
	here(t, pool.New(d, l, 4))
	loose(t, d, 3, 1)
}

func TestFrames(t *testing.T) {
	for _, frames := range append(odd(), 1, 2, 3, 4, 5, 6, 7) {
		want := min(max(frames, 1), mostFrames)
		_, _, p := store(t, frames, 0)
		for n := 1; n <= 12; n++ {
			got(t, p, n, 0, api.Page{})
			here(t, p, rising(max(1, n-want+1), n)...)
		}
	}
}

// P11.1: Get.

func TestGetReadsTheSector(t *testing.T) {
	for _, g := range right() {
		for n := 1; n < size; n++ {
			d, l, p := store(t, 2, 0)
			write(t, d, n, sector(t, g))
			got(t, p, n, 5, g)
			here(t, p, n)
			dirties(t, p)
			loose(t, d, n, 1)
			if l.Last() != 0 {
				t.Error("records", l.Last())
			}
		}
	}
}

// What was written last is read, be it fast or not.
func TestGetReadsTheLastVersion(t *testing.T) {
	d, _, p := store(t, 2, 0)
	lay(t, d, 4, of(1, 1))
	write(t, d, 4, sector(t, of(2, 2)))
	write(t, d, 4, sector(t, of(3, 3)))
	got(t, p, 4, 0, of(3, 3))
	d.Crash(1)
	evict(t, p, 0, nil)
	got(t, p, 4, 0, of(2, 2))
}

func TestGetPutsBehindTheOthers(t *testing.T) {
	_, _, p := store(t, 8, 0)
	order := []int{5, 12, 1, 9, 2, 7, 3, 11}
	for i, n := range order {
		got(t, p, n, i, api.Page{})
		here(t, p, order[:i+1]...)
	}
}

func TestGetBelowOne(t *testing.T) {
	for _, power := range []bool{true, false} {
		d, _, p := store(t, 2, 3)
		fetch(t, p, 1, 2)
		set(t, p, 1, of(2, 5))
		if !power {
			off(t, d)
		}
		for _, n := range []int{0, -1, -2, -size, -greatest, -1 << 32, math.MinInt + 1, math.MinInt} {
			for _, hint := range []int{-1, 0, 1, 2} {
				notGot(t, p, n, hint, -1, api.ErrRange)
				notSet(t, p, n, of(1, 5))
				flush(t, p, n, nil)
			}
		}
		here(t, p, 1, 2)
		dirties(t, p, 1, 2)
		loose(t, d)
	}
}

func TestGetUpToTheLastSector(t *testing.T) {
	for _, n := range []int{2, 3, 9, 32, 199, 200} {
		d := disk.New(n)
		p := pool.New(d, wal.New(d, 1, 1, 0, 1), 3)
		got(t, p, 1, 0, api.Page{})
		if n > 2 {
			got(t, p, n-1, 0, api.Page{})
		}
		want := p.Here()
		for _, above := range []int{n, n + 1, n + 2, 2 * n, 1000, greatest, 1<<32 + 1, math.MaxInt} {
			notGot(t, p, above, 0, -1, api.ErrRange)
			here(t, p, want...)
		}
	}
	d := disk.New(1)
	p := pool.New(d, wal.New(d, 1, 1, 0, 1), 1)
	for _, n := range []int{0, 1, 2} { // sector 0 is no page
		notGot(t, p, n, 0, -1, api.ErrRange)
	}
	here(t, p)
}

// Behind the last sector there is none, but that is met when a page has been given up already.
func TestGetBehindTheLastSectorGivesUp(t *testing.T) {
	for _, n := range []int{size, size + 1, math.MaxInt} {
		d, l, p := store(t, 3, 2)
		fetch(t, p, 6, 4, 5)
		set(t, p, 4, of(2, 8))
		notGot(t, p, n, 1, -1, api.ErrRange)
		here(t, p, 6, 5)
		dirties(t, p)
		lies(t, d, 4, of(2, 8))
		loose(t, d, 4, 1)
		notGot(t, p, n, 1, -1, api.ErrRange) // there is room now
		here(t, p, 6, 5)
		got(t, p, 4, 0, of(2, 8))
		here(t, p, 6, 5, 4)
		if l.Done() != 2 {
			t.Error("Done", l.Done())
		}
	}
}

// A page that is here: nothing is asked of the disk, nothing is given up, and it stays in its place.
func TestGetAgain(t *testing.T) {
	d, _, p := store(t, 3, 4)
	for _, n := range []int{8, 3, 5} {
		lay(t, d, n, of(1, n))
	}
	fetch(t, p, 8, 3, 5)
	set(t, p, 3, of(4, 77))
	for _, n := range []int{8, 3, 5} {
		write(t, d, n, junk(t)[3])
	}
	for _, power := range []bool{true, false} {
		if !power {
			off(t, d)
		}
		for _, hint := range odd() {
			got(t, p, 5, hint, of(1, 5))
			got(t, p, 3, hint, of(4, 77))
			got(t, p, 8, hint, of(1, 8))
			here(t, p, 8, 3, 5)
			dirties(t, p, 3, 4)
		}
	}
	loose(t, d, 3, 1, 5, 1, 8, 1)
}

// A page that was given up is read anew, and is behind the others then.
func TestGetAnew(t *testing.T) {
	d, _, p := store(t, 3, 4)
	lay(t, d, 3, of(1, 3))
	fetch(t, p, 3, 8, 5)
	lay(t, d, 3, of(2, 4, 6))
	got(t, p, 3, 0, of(1, 3))
	evict(t, p, 0, nil)
	got(t, p, 3, 0, of(2, 4, 6))
	here(t, p, 8, 5, 3)
	set(t, p, 3, of(4, 7))
	evict(t, p, 2, nil)
	here(t, p, 8, 5)
	got(t, p, 3, 0, of(4, 7))
	here(t, p, 8, 5, 3)
	dirties(t, p)
}

// Where frames are here, the hint tells which is given up; in whatever pool, that is so.
func TestGetGivesUp(t *testing.T) {
	for frames := 1; frames <= mostFrames; frames++ {
		for _, hint := range append(odd(), rising(-3, 3*frames)...) {
			_, _, p := store(t, frames, 0)
			for n := frames; n > 0; n-- {
				got(t, p, n, hint, api.Page{})
			}
			want := rising(1, frames)
			slices.Reverse(want)
			here(t, p, want...)
			got(t, p, 12, hint, api.Page{})
			k := 0
			if hint > 0 {
				k = hint % frames
			}
			here(t, p, append(slices.Delete(want, k, k+1), 12)...)
		}
	}
}

// A pool worked out by hand, page by page.
func TestGetGivesUpByHand(t *testing.T) {
	_, _, p := store(t, 3, 0)
	for _, x := range []struct {
		n, hint int
		want    []int
	}{
		{4, 2, []int{4}},
		{2, 2, []int{4, 2}},
		{6, 2, []int{4, 2, 6}},
		{2, 0, []int{4, 2, 6}},
		{1, 0, []int{2, 6, 1}},
		{4, 1, []int{2, 1, 4}},
		{5, 2, []int{2, 1, 5}},
		{6, 3, []int{1, 5, 6}},
		{2, 7, []int{1, 6, 2}},
		{3, -1, []int{6, 2, 3}},
		{1, -8, []int{2, 3, 1}},
	} {
		got(t, p, x.n, x.hint, api.Page{})
		here(t, p, x.want...)
	}
}

// What is given up for another one is written first, if it is dirty, with the log ahead.
func TestGetWritesWhatItGivesUp(t *testing.T) {
	d, l, p := store(t, 2, 2)
	add(t, l, 2)
	fetch(t, p, 1, 2)
	set(t, p, 1, of(2, 10))
	set(t, p, 2, of(3, 20))
	got(t, p, 3, 0, api.Page{})
	lies(t, d, 1, of(2, 10))
	loose(t, d, 1, 1)
	dirties(t, p, 2, 3)
	if l.Done() != 2 {
		t.Error("Done", l.Done())
	}
	got(t, p, 1, 0, of(2, 10)) // page 2 goes
	lies(t, d, 2, of(3, 20))
	loose(t, d, 2, 1)
	dirties(t, p)
	here(t, p, 3, 1)
	if l.Done() != 4 {
		t.Error("Done", l.Done())
	}
}

func TestGetNoPage(t *testing.T) {
	for _, b := range junk(t) {
		for _, n := range []int{1, 7, size - 1} {
			d, _, p := store(t, 2, 3)
			write(t, d, n, b)
			notGot(t, p, n, 0, n, api.ErrPage)
			here(t, p)
			fetch(t, p, 2, 3)
			set(t, p, 3, of(3, 8))
			notGot(t, p, n, 1, n, api.ErrPage)
			here(t, p, 2) // what was given up stays so
			dirties(t, p)
			lies(t, d, 3, of(3, 8))
			notGot(t, p, n, 0, n, api.ErrPage)
			here(t, p, 2) // there was room
			notSet(t, p, n, of(1, 5))
			write(t, d, n, sector(t, of(2, 4)))
			got(t, p, n, 0, of(2, 4))
			here(t, p, 2, n)
		}
	}
}

func TestGetWithoutPower(t *testing.T) {
	d, _, p := store(t, 3, 3)
	fetch(t, p, 1, 2)
	set(t, p, 2, of(3, 8))
	off(t, d)
	for _, n := range []int{3, size - 1, size, math.MaxInt} {
		notGot(t, p, n, 0, -1, api.ErrOff)
		here(t, p, 1, 2)
		dirties(t, p, 2, 3)
	}
	d.Crash()
	fetch(t, p, 3)
	off(t, d)
	notGot(t, p, 4, 1, -1, api.ErrOff) // the dirty one can't be written, and stays
	here(t, p, 1, 2, 3)
	dirties(t, p, 2, 3)
	notGot(t, p, 4, 2, -1, api.ErrOff) // page 3 goes, ahead of the read
	here(t, p, 1, 2)
	dirties(t, p, 2, 3)
	got(t, p, 1, 0, api.Page{})
	got(t, p, 2, 0, of(3, 8))
	loose(t, d)
}

// A page that can't be written, since the log can't be flushed, is not given up, and the other one is not read.
func TestGetWhereNothingCanBeGivenUp(t *testing.T) {
	d, l, p := lost(t, 2)
	fetch(t, p, 1, 2)
	set(t, p, 1, of(7, 3))
	write(t, d, 5, junk(t)[0])
	for _, n := range []int{5, 6} {
		notGot(t, p, n, 0, -1, api.ErrRange)
		here(t, p, 1, 2)
		dirties(t, p, 1, 7)
	}
	got(t, p, 1, 0, of(7, 3))
	loose(t, d, 5, 1)
	notGot(t, p, 5, 1, 5, api.ErrPage) // the other one can
	here(t, p, 1)
	if l.Done() != 6 {
		t.Error("Done", l.Done())
	}
}

// P11.1: Set.

func TestSet(t *testing.T) {
	for _, g := range right() {
		d, l, p := store(t, 3, 0)
		fetch(t, p, 7, 2, 9)
		off(t, d) // memory alone
		set(t, p, 2, g)
		got(t, p, 2, 0, g)
		got(t, p, 7, 0, api.Page{})
		got(t, p, 9, 0, api.Page{})
		here(t, p, 7, 2, 9)
		dirties(t, p, 2, g.LSN)
		if l.Last() != 0 {
			t.Error("records", l.Last())
		}
		loose(t, d)
	}
}

func TestSetAPageThatMayNotBe(t *testing.T) {
	d, _, p := store(t, 3, 9)
	fetch(t, p, 7, 2, 9)
	set(t, p, 2, of(6, 1, 2))
	for _, g := range wrong() {
		for _, n := range []int{7, 2, 9, 3} {
			notSet(t, p, n, g)
		}
		got(t, p, 7, 0, api.Page{})
		got(t, p, 2, 0, of(6, 1, 2))
		dirties(t, p, 2, 6)
	}
	here(t, p, 7, 2, 9)
	flushAll(t, p, nil)
	lies(t, d, 7, api.Page{})
	lies(t, d, 2, of(6, 1, 2))
}

func TestSetAPageThatIsNotHere(t *testing.T) {
	d, _, p := store(t, 2, 9)
	fetch(t, p, 2, 3)
	set(t, p, 2, of(4, 1))
	got(t, p, 4, 0, api.Page{}) // page 2 goes
	for _, n := range append(odd(), 1, 2, 5, 12, size-1) {
		if n != 3 && n != 4 {
			notSet(t, p, n, of(5, 2))
		}
	}
	here(t, p, 3, 4)
	dirties(t, p)
	lies(t, d, 2, of(4, 1))
	got(t, p, 2, 0, of(4, 1))
}

// One that is dirty already stays so from where it was, be the new page's LSN less, the same or greater; it is the new page.
func TestSetAgain(t *testing.T) {
	lsns := []int{0, 1, 5, 6, 7, greatest - 1, greatest}
	for _, a := range lsns {
		for _, b := range lsns {
			_, _, p := store(t, 3, 6)
			fetch(t, p, 5, 4)
			set(t, p, 4, of(a))
			set(t, p, 5, of(3, 3))
			set(t, p, 4, of(b))
			got(t, p, 4, 0, of(b))
			dirties(t, p, 4, a, 5, 3)
			// Once flushed it is dirty from where it is set anew.
			flush(t, p, 4, nil)
			dirties(t, p, 5, 3)
			set(t, p, 4, of(b))
			dirties(t, p, 4, b, 5, 3)
			here(t, p, 5, 4)
		}
	}
}

// A refused page makes one that is not dirty no dirtier.
func TestSetRefusedStaysClean(t *testing.T) {
	d, _, p := store(t, 1, 0)
	lay(t, d, 4, of(3, 9))
	fetch(t, p, 4)
	for _, g := range wrong() {
		notSet(t, p, 4, g)
	}
	dirties(t, p)
	got(t, p, 4, 0, of(3, 9))
	d.Fuse(0)
	evict(t, p, 0, nil)
}

// A page that is set as it was is dirty too.
func TestSetTheSame(t *testing.T) {
	d, _, p := store(t, 1, 3)
	lay(t, d, 4, of(3, 9))
	fetch(t, p, 4)
	set(t, p, 4, of(3, 9))
	dirties(t, p, 4, 3)
	flush(t, p, 4, nil)
	loose(t, d, 4, 1)
	dirties(t, p)
}

// P11.2: Flush.

func TestFlush(t *testing.T) {
	for _, g := range right() {
		d, _, p := store(t, 2, 0)
		fetch(t, p, 7, 2)
		set(t, p, 2, g)
		set(t, p, 7, of(1, 1))
		flush(t, p, 2, nil)
		lies(t, d, 2, g)
		lies(t, d, 7, api.Page{})
		loose(t, d, 2, 1) // written, but not made fast
		dirties(t, p, 7, 1)
		here(t, p, 7, 2)
		got(t, p, 2, 0, g)
	}
}

// One that is not here, or not dirty: nothing, with a fuse that would tell, and without power.
func TestFlushNothing(t *testing.T) {
	d, l, p := store(t, 3, 2)
	add(t, l, 1)
	lay(t, d, 5, of(3, 3))
	fetch(t, p, 4, 5, 6)
	set(t, p, 4, of(2, 1))
	flush(t, p, 4, nil)
	set(t, p, 6, of(2, 6))
	write(t, d, 9, junk(t)[0])
	d.Fuse(0)
	for _, n := range append(odd(), 1, 4, 5, 7) {
		if n != 6 {
			flush(t, p, n, nil)
		}
	}
	if d.Off() || l.Done() != 2 {
		t.Error("something was done", d.Off(), l.Done())
	}
	loose(t, d, 4, 1, 9, 1)
	off(t, d)
	flush(t, p, 4, nil)
	flush(t, p, 5, nil)
	flush(t, p, 8, nil)
	flush(t, p, 6, api.ErrOff)
}

// A page whose LSN is at the log's Done, or below, is written alone; one above it behind the log.
func TestFlushLogAhead(t *testing.T) {
	for done := range 5 {
		for lsn := range 7 {
			d, l, p := store(t, 1, done)
			add(t, l, 2)
			fetch(t, p, 3)
			set(t, p, 3, of(lsn))
			write(t, d, 9, junk(t)[0]) // a Sync, which would be the log's, makes it fast
			flush(t, p, 3, nil)
			lies(t, d, 3, of(lsn))
			dirties(t, p)
			want := done
			if lsn > done {
				loose(t, d, 3, 1)
				want = done + 2
			} else {
				loose(t, d, 3, 1, 9, 1)
			}
			if l.Done() != want {
				t.Errorf("LSN %d: Done %d; want %d", lsn, l.Done(), want)
			}
		}
	}
}

// A log all of which is flushed has nothing to flush, be the LSN above its Done: the page is written.
func TestFlushAboveTheLogsLast(t *testing.T) {
	for _, lsn := range []int{4, 5, 100, greatest} {
		d, l, p := store(t, 1, 3)
		fetch(t, p, 3)
		set(t, p, 3, of(lsn, 1))
		d.Fuse(1) // a Write, and nothing else
		flush(t, p, 3, nil)
		loose(t, d, 3, 1)
		dirties(t, p)
		if d.Off() || l.Done() != 3 {
			t.Error(d.Off(), l.Done())
		}
	}
}

// A log that begins behind many records: its numbers count, not how many it has.
func TestFlushLogWithABase(t *testing.T) {
	for _, x := range []struct{ lsn, done int }{{1, 101}, {100, 101}, {101, 101}, {102, 103}, {103, 103}} {
		d := disk.New(size)
		l := wal.New(d, logAt, blocks, 100, 1)
		add(t, l, 1)
		if err := l.Flush(); err != nil {
			t.Fatal(err)
		}
		add(t, l, 2)
		p := pool.New(d, l, 1)
		fetch(t, p, 3)
		set(t, p, 3, of(x.lsn, 1))
		flush(t, p, 3, nil)
		if l.Done() != x.done {
			t.Errorf("LSN %d: Done %d; want %d", x.lsn, l.Done(), x.done)
		}
	}
}

// It is the LSN of the page that counts, not the one from which on it is dirty.
func TestFlushLogUpToTheLastChange(t *testing.T) {
	for _, x := range []struct{ from, lsn, done int }{{1, 3, 4}, {3, 1, 2}, {2, 2, 2}, {2, 3, 4}, {4, 2, 2}} {
		_, l, p := store(t, 1, 2)
		add(t, l, 2)
		fetch(t, p, 3)
		set(t, p, 3, of(x.from, 1))
		set(t, p, 3, of(x.lsn, 2))
		dirties(t, p, 3, x.from)
		flush(t, p, 3, nil)
		if l.Done() != x.done {
			t.Errorf("%+v: Done %d", x, l.Done())
		}
	}
}

// Cut at each step: the log's block, its Sync, the page. Where the power goes at a write, its version may have come there.
func TestFlushCutAtEachStep(t *testing.T) {
	for cut, want := range [][]int{{logAt, 1}, {logAt, 1}, {3, 1}, {3, 1}} {
		d, l, p := store(t, 1, 2)
		add(t, l, 1)
		fetch(t, p, 3)
		set(t, p, 3, of(3, 8))
		d.Fuse(cut)
		if cut == 3 {
			flush(t, p, 3, nil)
			dirties(t, p)
		} else {
			flush(t, p, 3, api.ErrOff)
			dirties(t, p, 3, 3)
		}
		loose(t, d, want...)
		here(t, p, 3)
		got(t, p, 3, 0, of(3, 8))
		if done := l.Done(); cut < 2 && done != 2 || cut >= 2 && done != 3 {
			t.Errorf("cut %d: Done %d", cut, done)
		}
	}
}

func TestFlushWithoutPower(t *testing.T) {
	for _, lsn := range []int{2, 3} {
		d, l, p := store(t, 1, 2)
		add(t, l, 1)
		fetch(t, p, 3)
		set(t, p, 3, of(lsn, 8))
		off(t, d)
		flush(t, p, 3, api.ErrOff)
		flush(t, p, 3, api.ErrOff)
		dirties(t, p, 3, lsn)
		here(t, p, 3)
		loose(t, d)
		if l.Done() != 2 {
			t.Error("Done", l.Done())
		}
	}
}

// Where the log can't be flushed, the page isn't written, and stays as it is.
func TestFlushWhereTheLogCantBe(t *testing.T) {
	d, l, p := lost(t, 2)
	fetch(t, p, 3, 4)
	set(t, p, 3, of(7, 8))
	set(t, p, 4, of(6, 8))
	flush(t, p, 3, api.ErrRange)
	dirties(t, p, 3, 7, 4, 6)
	lies(t, d, 3, api.Page{})
	loose(t, d)
	flush(t, p, 4, nil)
	dirties(t, p, 3, 7)
	loose(t, d, 4, 1)
	here(t, p, 3, 4)
	got(t, p, 3, 0, of(7, 8))
	if l.Done() != 6 {
		t.Error("Done", l.Done())
	}
}

// Each Flush of a page that was set anew is one more version; one of a page that was not is none.
func TestFlushAgain(t *testing.T) {
	d, _, p := store(t, 1, 9)
	fetch(t, p, 3)
	for k := 1; k <= 5; k++ {
		set(t, p, 3, of(k, k))
		flush(t, p, 3, nil)
		flush(t, p, 3, nil)
		loose(t, d, 3, k)
		lies(t, d, 3, of(k, k))
	}
}

// P11.2: FlushAll.

func TestFlushAll(t *testing.T) {
	d, l, p := store(t, 5, 3)
	add(t, l, 1)
	fetch(t, p, 7, 2, 9, 4, 1)
	set(t, p, 9, of(2, 9))
	set(t, p, 2, of(3, 2))
	set(t, p, 4, of(1, 4))
	set(t, p, 4, of(2, 5))
	write(t, d, 11, sector(t, of(1, 11)))
	flushAll(t, p, nil)
	loose(t, d)
	dirties(t, p)
	here(t, p, 7, 2, 9, 4, 1)
	if l.Done() != 3 {
		t.Error("Done", l.Done())
	}
	d.Crash()
	for n := 1; n < logAt; n++ {
		want := map[int]api.Page{9: of(2, 9), 2: of(3, 2), 4: of(2, 5), 11: of(1, 11)}[n]
		lies(t, d, n, want)
	}
}

// Without anything to write it syncs, also where no page is here.
func TestFlushAllSyncs(t *testing.T) {
	for _, many := range []int{0, 1, 3} {
		d, l, p := store(t, 3, 2)
		add(t, l, 1)
		fetch(t, p, rising(1, many)...)
		write(t, d, 5, sector(t, of(1, 1)))
		d.Fuse(1)
		flushAll(t, p, nil)
		loose(t, d)
		if d.Off() || l.Done() != 2 {
			t.Error(d.Off(), l.Done())
		}
		flushAll(t, p, api.ErrOff)
		flushAll(t, p, api.ErrOff)
		here(t, p, rising(1, many)...)
	}
}

// Cut at each step: the pages go rising, in whatever order they are here, and the Sync is the last.
func TestFlushAllCutAtEachStep(t *testing.T) {
	for _, order := range [][]int{{1, 2, 3, 4}, {4, 3, 2, 1}, {3, 1, 4, 2}, {2, 4, 1, 3}} {
		for cut := range 6 {
			d, l, p := store(t, 4, 5)
			fetch(t, p, order...)
			for _, n := range order {
				set(t, p, n, of(n, n))
			}
			d.Fuse(cut)
			var want []int
			for n := 1; n <= min(cut+1, 4); n++ {
				want = append(want, n, 1)
			}
			if cut == 5 {
				flushAll(t, p, nil)
				loose(t, d)
			} else {
				flushAll(t, p, api.ErrOff)
				loose(t, d, want...)
			}
			here(t, p, order...)
			if l.Done() != 5 {
				t.Error("Done", l.Done())
			}
		}
	}
}

// The log is flushed at the first page that needs it, and once: its Sync makes the pages ahead fast.
func TestFlushAllWithTheLog(t *testing.T) {
	// The steps are pages 1 and 2, the log's block and its Sync, pages 3 and 4, the Sync.
	for cut, want := range [][]int{
		{1, 1}, {1, 1, 2, 1}, {1, 1, 2, 1, logAt, 1}, {1, 1, 2, 1, logAt, 1}, {3, 1}, {3, 1, 4, 1}, {3, 1, 4, 1}, nil,
	} {
		d, l, p := store(t, 4, 2)
		add(t, l, 2)
		fetch(t, p, 4, 2, 3, 1)
		for n := 1; n <= 4; n++ {
			set(t, p, n, of(n, n))
		}
		d.Fuse(cut)
		if cut == 7 {
			flushAll(t, p, nil)
			dirties(t, p)
		} else {
			flushAll(t, p, api.ErrOff)
		}
		loose(t, d, want...)
		here(t, p, 4, 2, 3, 1)
		if done := l.Done(); cut < 4 && done != 2 || cut >= 4 && done != 4 {
			t.Errorf("cut %d: Done %d", cut, done)
		}
	}
}

// Where the log can't be flushed, it ends at the page that needs it: no page behind it is written, and there is no Sync.
func TestFlushAllWhereTheLogCantBe(t *testing.T) {
	d, _, p := lost(t, 3)
	fetch(t, p, 3, 2, 1)
	set(t, p, 1, of(6, 1))
	set(t, p, 2, of(7, 2))
	set(t, p, 3, of(6, 3))
	flushAll(t, p, api.ErrRange)
	loose(t, d, 1, 1)
	lies(t, d, 1, of(6, 1))
	lies(t, d, 2, api.Page{})
	lies(t, d, 3, api.Page{})
	here(t, p, 3, 2, 1)
	got(t, p, 2, 0, of(7, 2))
	set(t, p, 2, of(6, 2))
	flushAll(t, p, nil)
	loose(t, d)
	dirties(t, p)
	lies(t, d, 2, of(6, 2))
	lies(t, d, 3, of(6, 3))
}

// P11.2: Evict.

func TestEvict(t *testing.T) {
	for many := 1; many <= mostFrames; many++ {
		for _, hint := range append(odd(), rising(-3, 3*many)...) {
			d, _, p := store(t, mostFrames, 0)
			for n := many; n > 0; n-- {
				fetch(t, p, n)
			}
			want := p.Here()
			off(t, d) // a page that is not dirty goes without the disk
			evict(t, p, hint, nil)
			k := 0
			if hint > 0 {
				k = hint % many
			}
			gone := want[k]
			want = slices.Delete(want, k, k+1)
			here(t, p, want...)
			notSet(t, p, gone, of(1, 5))
			flush(t, p, gone, nil)
			for range many - 1 {
				evict(t, p, hint, nil)
			}
			here(t, p)
			evict(t, p, hint, nil)
		}
	}
}

func TestEvictByHand(t *testing.T) {
	_, _, p := store(t, 8, 0)
	fetch(t, p, 6, 3, 9, 1, 7)
	for _, x := range []struct {
		hint int
		want []int
	}{{7, []int{6, 3, 1, 7}}, {-2, []int{3, 1, 7}}, {4, []int{3, 7}}, {3, []int{3}}, {5, nil}, {1, nil}} {
		evict(t, p, x.hint, nil)
		here(t, p, x.want...)
	}
}

// A dirty page is written as it goes, and is there when it is got again; the others stay as they are.
func TestEvictWrites(t *testing.T) {
	d, l, p := store(t, 3, 2)
	add(t, l, 1)
	fetch(t, p, 5, 4, 6)
	set(t, p, 5, of(1, 1))
	set(t, p, 4, of(2, 2))
	set(t, p, 6, of(3, 3))
	d.Fuse(1)
	evict(t, p, 1, nil)
	loose(t, d, 4, 1)
	lies(t, d, 4, of(2, 2))
	here(t, p, 5, 6)
	dirties(t, p, 5, 1, 6, 3)
	d.Crash(1)
	evict(t, p, 1, nil) // behind the log
	here(t, p, 5)
	dirties(t, p, 5, 1)
	loose(t, d, 6, 1)
	if l.Done() != 3 {
		t.Error("Done", l.Done())
	}
	got(t, p, 6, 0, of(3, 3))
	got(t, p, 4, 0, of(2, 2))
	here(t, p, 5, 6, 4)
	dirties(t, p, 5, 1)
}

// A page that can't be written is not given up.
func TestEvictFails(t *testing.T) {
	d, _, p := store(t, 2, 2)
	fetch(t, p, 5, 4)
	set(t, p, 5, of(2, 1))
	off(t, d)
	for _, hint := range []int{0, -1, 2, 4, math.MinInt} {
		evict(t, p, hint, api.ErrOff)
		here(t, p, 5, 4)
		dirties(t, p, 5, 2)
	}
	got(t, p, 5, 0, of(2, 1))
	d, l, p := lost(t, 2)
	fetch(t, p, 5, 4)
	set(t, p, 5, of(7, 1))
	evict(t, p, 0, api.ErrRange)
	here(t, p, 5, 4)
	dirties(t, p, 5, 7)
	got(t, p, 5, 0, of(7, 1))
	loose(t, d)
	evict(t, p, 1, nil)
	here(t, p, 5)
	if l.Done() != 6 {
		t.Error("Done", l.Done())
	}
}

// P11.2: Dirty and Here.

// Dirty rises by pages, Here is as they came, whatever is set, flushed and given up between.
func TestDirtyAndHere(t *testing.T) {
	_, _, p := store(t, 8, 9)
	order := []int{8, 2, 12, 5, 1, 10}
	fetch(t, p, order...)
	for i, n := range order {
		set(t, p, n, of(9-i, n))
	}
	dirties(t, p, 1, 5, 2, 8, 5, 6, 8, 9, 10, 4, 12, 7)
	here(t, p, order...)
	flush(t, p, 2, nil)
	flush(t, p, 10, nil)
	dirties(t, p, 1, 5, 5, 6, 8, 9, 12, 7)
	here(t, p, order...)
	evict(t, p, 2, nil)
	dirties(t, p, 1, 5, 5, 6, 8, 9)
	here(t, p, 8, 2, 5, 1, 10)
	set(t, p, 2, of(1, 2))
	dirties(t, p, 1, 5, 2, 1, 5, 6, 8, 9)
	fetch(t, p, 12)
	here(t, p, 8, 2, 5, 1, 10, 12)
	flushAll(t, p, nil)
	dirties(t, p)
	here(t, p, 8, 2, 5, 1, 10, 12)
}

// P0.4: memory.

// spoil writes into a list and into its spare room, and behind it.
func spoil[T any](l []T, x T) {
	all := l[:cap(l)]
	for i := range all {
		all[i] = x
	}
	_ = append(l, x)
}

func TestGetIsNewMemory(t *testing.T) {
	for many := range perPage + 1 {
		want := even(3, many)
		d, _, p := store(t, 2, 3)
		lay(t, d, 4, want)
		a, _ := p.Get(4, 0) // as it is read
		b, _ := p.Get(4, 0)
		spoil(a.L, api.Entry{Key: 99, Value: -1})
		if !same(b, want) {
			t.Errorf("%d keys: another list is %v", many, b.L)
		}
		spoil(b.L, api.Entry{Key: 98, Value: -2})
		got(t, p, 4, 0, want)
		set(t, p, 4, want)
		c, _ := p.Get(4, 0) // as it was set
		spoil(c.L, api.Entry{Key: 97, Value: -3})
		got(t, p, 4, 0, want)
		flush(t, p, 4, nil)
		lies(t, d, 4, want)
		stays, _ := p.Get(4, 0)
		set(t, p, 4, even(2, perPage-many))
		if !same(stays, want) {
			t.Errorf("%d keys: a page from before is %+v", many, stays)
		}
	}
}

func TestSetKeepsItsOwn(t *testing.T) {
	for many := range perPage + 1 {
		want := even(3, many)
		g := even(3, many)
		g.L = append(g.L, api.Entry{Key: 77, Value: 7}, api.Entry{Key: 78, Value: 8})
		room := g.L
		g.L = g.L[:many]
		d, _, p := store(t, 2, 3)
		fetch(t, p, 4, 5)
		set(t, p, 4, g)
		set(t, p, 5, g)
		if !same(g, want) || room[many] != (api.Entry{Key: 77, Value: 7}) || room[many+1] != (api.Entry{Key: 78, Value: 8}) {
			t.Errorf("%d keys: what was handed in is %v", many, room)
		}
		spoil(g.L, api.Entry{Key: 99, Value: -1})
		got(t, p, 4, 0, want)
		a, _ := p.Get(4, 0)
		spoil(a.L, api.Entry{Key: 96, Value: -4})
		got(t, p, 5, 0, want)
		flushAll(t, p, nil)
		lies(t, d, 4, want)
		lies(t, d, 5, want)
		if many > 0 && g.L[0].Key != 99 {
			t.Errorf("%d keys: a call wrote into what was handed in: %v", many, g.L)
		}
	}
}

func TestListsAreNewMemory(t *testing.T) {
	for many := range mostFrames + 1 {
		_, _, p := store(t, mostFrames, 9)
		order := rising(1, many)
		slices.Reverse(order)
		fetch(t, p, order...)
		var want []int
		for _, n := range order {
			set(t, p, n, of(n, n))
			want = append([]int{n, n}, want...)
		}
		h, other := p.Here(), p.Here()
		spoil(h, -7)
		if !slices.Equal(other, order) {
			t.Errorf("another list is %v; want %v", other, order)
		}
		here(t, p, order...)
		m, more := p.Dirty(), p.Dirty()
		spoil(m, api.Dirty{Page: -7, From: -8})
		if len(more) != many || many > 0 && more[0] != (api.Dirty{Page: 1, From: 1}) {
			t.Errorf("another list is %v", more)
		}
		dirties(t, p, want...)
		evict(t, p, 0, nil)
		fetch(t, p, 12)
		if !slices.Equal(other, order) || len(more) != many {
			t.Errorf("a list from before is %v, %v", other, more)
		}
	}
}

// Objects that are made of others.

// Two pools of one disk and one log know nothing of each other but what the disk and the log have.
func TestTwoPools(t *testing.T) {
	d, l, a := store(t, 2, 1)
	add(t, l, 1)
	b := pool.New(d, l, 3)
	fetch(t, a, 3, 4)
	fetch(t, b, 4)
	set(t, a, 3, of(1, 1))
	set(t, a, 4, of(2, 2))
	dirties(t, b)
	here(t, b, 4)
	got(t, b, 3, 0, api.Page{}) // not written yet
	flushAll(t, a, nil)
	got(t, b, 4, 0, api.Page{}) // here, as it was
	for range 2 {
		evict(t, b, 0, nil)
	}
	got(t, b, 4, 0, of(2, 2))
	got(t, b, 3, 0, of(1, 1))
	here(t, b, 4, 3)
	set(t, b, 3, of(2, 9))
	dirties(t, a)
	got(t, a, 3, 0, of(1, 1))
}

// What others do to the log, and to the disk, a pool sees.
func TestSeesItsDiskAndLog(t *testing.T) {
	d, l, p := store(t, 2, 0)
	fetch(t, p, 3)
	add(t, l, 3)
	if err := l.Flush(); err != nil {
		t.Fatal(err)
	}
	set(t, p, 3, of(3, 1))
	d.Fuse(1) // the log is flushed already: a Write, and nothing else
	flush(t, p, 3, nil)
	loose(t, d, 3, 1)
	flushAll(t, p, api.ErrOff)
	d.Crash(0)
	got(t, p, 3, 0, of(3, 1))
	evict(t, p, 0, nil)
	got(t, p, 3, 0, api.Page{})
	image := d.Image()
	image[5] = sector(t, of(2, 8))
	if err := d.Load(image...); err != nil {
		t.Fatal(err)
	}
	got(t, p, 5, 0, of(2, 8))
}

// A log on a disk of its own: the pages are on the pool's, and both have to have power.
func TestLogElsewhere(t *testing.T) {
	d, other := disk.New(size), disk.New(size)
	l := logOf(t, other, logAt, 1)
	add(t, l, 1)
	p := pool.New(d, l, 2)
	fetch(t, p, 3, 4)
	set(t, p, 3, of(1, 1))
	set(t, p, 4, of(2, 1))
	off(t, other)
	flush(t, p, 4, api.ErrOff)
	loose(t, d)
	flush(t, p, 3, nil)
	loose(t, d, 3, 1)
	other.Crash()
	off(t, d)
	flush(t, p, 4, api.ErrOff)
	dirties(t, p, 4, 2)
	loose(t, other)
	if l.Done() != 2 {
		t.Error("Done", l.Done())
	}
}

// What a crash leaves.

// TestLogIsAheadOfPages: wherever the power goes, and whatever each sector keeps, each page on the disk has all its records in the log that is opened.
func TestLogIsAheadOfPages(t *testing.T) {
	for seed := range int64(150) {
		for cut := range 12 {
			r := rand.New(rand.NewSource(seed))
			d, l, p := store(t, 1+r.Intn(3), 0)
			d.Fuse(cut)
			for steps := 0; steps < 200 && !d.Off(); steps++ {
				step(t, r, l, p)
			}
			keep := r.Perm(size)
			d.Crash(keep...)
			o, err := wal.Open(d, logAt, blocks, 0, 1, 2)
			if err != nil {
				t.Fatal(err)
			}
			for n := 1; n < logAt; n++ {
				b, _ := d.Read(n)
				g, err := page.Read(b)
				if err != nil || g.LSN > o.Last() {
					t.Fatalf("seed %d, cut %d: page %d is of %d; the log ends at %d; %v", seed, cut, n, g.LSN, o.Last(), err)
				}
			}
		}
	}
}

// step is one of a store that goes on: a page is changed by a record, or written, or given up.
func step(t *testing.T, r *rand.Rand, l *wal.Log, p *pool.Pool) {
	n, hint := 1+r.Intn(5), r.Intn(4)
	switch r.Intn(8) {
	case 0:
		_ = p.Flush(n)
	case 1:
		_ = p.FlushAll()
	case 2:
		_ = p.Evict(hint)
	default:
		if _, err := p.Get(n, hint); err == nil && l.Room() > 0 {
			add(t, l, 1)
			set(t, p, n, of(l.Last(), n))
		}
	}
}

// book is the document's sentences, gone through one by one, on a disk and a log of its own.
type book struct {
	d      *disk.Disk
	l      *wal.Log
	frames int
	here   []int
	pages  map[int]api.Page
	from   map[int]int
}

func (b *book) get(n, hint int) (api.Page, error) {
	if n < 1 {
		return api.Page{}, api.ErrRange
	}
	if g, is := b.pages[n]; is {
		return g, nil
	}
	if len(b.here) == b.frames {
		if err := b.evict(hint); err != nil {
			return api.Page{}, err
		}
	}
	s, err := b.d.Read(n)
	if err != nil {
		return api.Page{}, err
	}
	g, err := page.Read(s)
	if err != nil {
		return api.Page{}, &api.At{Pos: n, Err: api.ErrPage}
	}
	b.here = append(b.here, n)
	b.pages[n] = g
	return g, nil
}

func (b *book) set(n int, g api.Page) error {
	if _, is := b.pages[n]; !is {
		return api.ErrRange
	}
	if err := page.Check(g); err != nil {
		return err
	}
	b.pages[n] = g
	if _, is := b.from[n]; !is {
		b.from[n] = g.LSN
	}
	return nil
}

func (b *book) flush(n int) error {
	g, is := b.pages[n]
	if _, dirty := b.from[n]; !is || !dirty {
		return nil
	}
	if g.LSN > b.l.Done() {
		if err := b.l.Flush(); err != nil {
			return err
		}
	}
	s, _ := page.Bytes(g)
	if err := b.d.Write(n, s); err != nil {
		return err
	}
	delete(b.from, n)
	return nil
}

func (b *book) flushAll() error {
	for n := range 200 {
		if err := b.flush(n); err != nil {
			return err
		}
	}
	return b.d.Sync()
}

func (b *book) evict(hint int) error {
	if len(b.here) == 0 {
		return nil
	}
	if hint < 0 {
		hint = 0
	}
	n := b.here[hint%len(b.here)]
	if err := b.flush(n); err != nil {
		return err
	}
	b.here = slices.DeleteFunc(b.here, func(x int) bool { return x == n })
	delete(b.pages, n)
	return nil
}

func (b *book) dirty() []api.Dirty {
	var l []api.Dirty
	for n, from := range b.from {
		l = append(l, api.Dirty{Page: n, From: from})
	}
	slices.SortFunc(l, func(x, y api.Dirty) int { return cmp.Compare(x.Page, y.Page) })
	return l
}

// twin is a store, and the book of one just the same.
type twin struct {
	d *disk.Disk
	l *wal.Log
	p *pool.Pool
	b *book
}

// twins is both, some pages laid, some sectors no pages, some logs with less room on the disk than they would take.
func twins(t *testing.T, r *rand.Rand) *twin {
	t.Helper()
	frames, first, n := r.Intn(11)-1, logAt, r.Intn(12)
	if r.Intn(4) == 0 {
		first, n = size-2, r.Intn(7)
	}
	var d [2]*disk.Disk
	var l [2]*wal.Log
	seed := r.Int63()
	for i := range d {
		same := rand.New(rand.NewSource(seed))
		d[i] = disk.New(size)
		l[i] = logOf(t, d[i], first, n)
		for k := range 8 {
			if same.Intn(3) == 0 {
				lay(t, d[i], 1+same.Intn(10), of(1+same.Intn(9), k, k+same.Intn(5)+1))
			}
		}
		if same.Intn(2) == 0 {
			write(t, d[i], 1+same.Intn(10), junk(t)[same.Intn(5)])
		}
	}
	b := &book{d: d[1], l: l[1], frames: min(max(frames, 1), mostFrames), pages: map[int]api.Page{}, from: map[int]int{}}
	return &twin{d[0], l[0], pool.New(d[0], l[0], frames), b}
}

// number is a page's, seldom one that is none.
func number(r *rand.Rand) int {
	if r.Intn(12) == 0 {
		return []int{-1, 0, size - 1, size, size + 1, math.MinInt, math.MaxInt}[r.Intn(7)]
	}
	return 1 + r.Intn(10)
}

func hintOf(r *rand.Rand) int {
	if r.Intn(8) == 0 {
		return []int{-1, -9, math.MinInt, math.MaxInt, 100}[r.Intn(5)]
	}
	return r.Intn(12)
}

// pageOf is one around the log's Done and Last, seldom one that may not be.
func pageOf(r *rand.Rand, l *wal.Log) api.Page {
	if r.Intn(10) == 0 {
		w := wrong()
		return w[r.Intn(len(w))]
	}
	return of(max(1, l.Done()-1+r.Intn(4)), r.Intn(9), 9+r.Intn(9))
}

// do does one thing to both, and holds that they answer the same; it is the error.
func (x *twin) do(t *testing.T, r *rand.Rand) error {
	t.Helper()
	n, hint := number(r), hintOf(r)
	var a, b error
	switch k := r.Intn(20); {
	case k < 7:
		var g, want api.Page
		g, a = x.p.Get(n, hint)
		want, b = x.b.get(n, hint)
		if !same(g, want) {
			t.Errorf("Get(%d, %d): %+v; want %+v", n, hint, g, want)
		}
	case k < 13:
		if h := x.p.Here(); len(h) > 0 && r.Intn(5) > 0 {
			n = h[r.Intn(len(h))]
		}
		g := pageOf(r, x.l)
		a, b = x.p.Set(n, g), x.b.set(n, g)
	case k < 15:
		a, b = x.p.Flush(n), x.b.flush(n)
	case k == 15:
		a, b = x.p.FlushAll(), x.b.flushAll()
	case k < 18:
		a, b = x.p.Evict(hint), x.b.evict(hint)
	case x.l.Room() > 0:
		add(t, x.l, 1)
		add(t, x.b.l, 1)
	}
	if !alike(a, b) {
		t.Errorf("%v; want %v", a, b)
	}
	return b
}

// alike tells whether these are one error, or errors around one place.
func alike(a, b error) bool {
	return a == b || around(a) != (api.At{}) && around(a) == around(b)
}

// holdMemory holds what stands in memory.
func (x *twin) holdMemory(t *testing.T) {
	t.Helper()
	here(t, x.p, x.b.here...)
	if l := x.p.Dirty(); !slices.Equal(l, x.b.dirty()) {
		t.Errorf("Dirty: %v; want %v", l, x.b.dirty())
	}
	if x.l.Done() != x.b.l.Done() || x.l.Last() != x.b.l.Last() {
		t.Errorf("Done %d, Last %d; want %d, %d", x.l.Done(), x.l.Last(), x.b.l.Done(), x.b.l.Last())
	}
}

// holdDisk holds what stands on the disk.
func (x *twin) holdDisk(t *testing.T) {
	t.Helper()
	if a, b := x.d.Loose(), x.b.d.Loose(); !slices.Equal(a, b) {
		t.Errorf("loose: %v; want %v", a, b)
	}
	if !slices.EqualFunc(x.d.Image(), x.b.d.Image(), bytes.Equal) {
		t.Error("other sectors")
	}
	for i := range size {
		a, e := x.d.Read(i)
		b, f := x.b.d.Read(i)
		if !bytes.Equal(a, b) || e != f {
			t.Errorf("sector %d: %v, %v; want %v, %v", i, a, e, b, f)
		}
	}
}

// Long runs of calls against the book, some with a fuse. Where the power goes, the disk alone counts from then on, and what a crash leaves of it.
func TestRuns(t *testing.T) {
	for seed := range int64(400) {
		r := rand.New(rand.NewSource(seed))
		x := twins(t, r)
		if seed%2 == 0 {
			cut := r.Intn(60)
			x.d.Fuse(cut)
			x.b.d.Fuse(cut)
		}
		for range 250 {
			if x.do(t, r) == api.ErrOff {
				break
			}
			x.holdMemory(t)
			x.holdDisk(t)
			if t.Failed() {
				t.Fatalf("seed %d", seed)
			}
		}
		x.holdDisk(t)
		keep := r.Perm(size)
		x.d.Crash(keep...)
		x.b.d.Crash(keep...)
		x.holdDisk(t)
		if t.Failed() {
			t.Fatalf("seed %d", seed)
		}
	}
}

// P0.1: every call ends and none panics.

func TestNothingPanics(t *testing.T) {
	for _, frames := range odd() {
		for _, power := range []bool{true, false} {
			d, _, p := store(t, frames, 1)
			fetch(t, p, 1, 2, 3)
			if !power {
				off(t, d)
			}
			for _, n := range odd() {
				for _, hint := range odd() {
					_, _ = p.Get(n, hint)
				}
				for _, g := range slices.Concat(wrong(), right()) {
					_ = p.Set(n, g)
				}
				_ = p.Flush(n)
				_ = p.FlushAll()
				_ = p.Evict(n)
				p.Dirty()
				p.Here()
			}
		}
	}
}
