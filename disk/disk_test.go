package disk_test

import (
	"bytes"
	"math"
	"math/rand"
	"slices"
	"testing"

	"phoenix/api"
	"phoenix/disk"
)

// full is a sector whose bytes differ from place to place, so that a part of another version shows.
func full(k byte) []byte {
	b := make([]byte, api.Sector)
	for i := range b {
		b[i] = k + byte(i)*k
	}
	return b
}

// sectors are those of full, one of each k; 0 is a sector of zeros.
func sectors(k ...byte) [][]byte {
	var l [][]byte
	for _, x := range k {
		l = append(l, full(x))
	}
	return l
}

// state is all that a disk tells without being changed. Read is asked of every sector, and what it answers while power is off is left out.
type state struct {
	off   bool
	last  [][]byte
	fast  [][]byte
	loose [][2]int
}

func look(t *testing.T, d *disk.Disk) state {
	t.Helper()
	s := state{off: d.Off(), fast: d.Image(), loose: d.Loose()}
	for i := range d.Size() {
		b, err := d.Read(i)
		if s.off {
			if err != api.ErrOff || len(b) != 0 {
				t.Fatalf("Read(%d) without power: %v, %v", i, b, err)
			}
			continue
		}
		if err != nil {
			t.Fatalf("Read(%d): %v", i, err)
		}
		s.last = append(s.last, b)
	}
	return s
}

func (s state) equal(o state) bool {
	return s.off == o.off && slices.EqualFunc(s.last, o.last, bytes.Equal) && slices.EqualFunc(s.fast, o.fast, bytes.Equal) && slices.Equal(s.loose, o.loose)
}

func expect(t *testing.T, d *disk.Disk, what string, want state) {
	t.Helper()
	if got := look(t, d); !got.equal(want) {
		t.Errorf("%s: off %v, loose %v; want off %v, loose %v; last as wanted: %v, fast as wanted: %v", what, got.off, got.loose, want.off, want.loose,
			slices.EqualFunc(got.last, want.last, bytes.Equal), slices.EqualFunc(got.fast, want.fast, bytes.Equal))
	}
}

func write(t *testing.T, d *disk.Disk, i int, k byte) {
	t.Helper()
	if err := d.Write(i, full(k)); err != nil {
		t.Fatalf("Write(%d): %v", i, err)
	}
}

func sync(t *testing.T, d *disk.Disk) {
	t.Helper()
	if err := d.Sync(); err != nil {
		t.Fatalf("Sync: %v", err)
	}
}

// outside are places that a disk of n sectors does not have.
func outside(n int) []int {
	return []int{math.MinInt, math.MinInt + 1, -1 << 40, -n, -2, -1, n, n + 1, 1 << 31, 1 << 40, math.MaxInt - 1, math.MaxInt}
}

func TestNew(t *testing.T) {
	for _, x := range []struct{ n, want int }{
		{math.MinInt, 1}, {-200, 1}, {-1, 1}, {0, 1}, {1, 1}, {2, 2}, {97, 97}, {199, 199}, {200, 200}, {201, 200}, {1 << 40, 200}, {math.MaxInt, 200},
	} {
		d := disk.New(x.n)
		if got := d.Size(); got != x.want {
			t.Errorf("New(%d) has %d sectors, want %d", x.n, got, x.want)
		}
		zeros := sectors(make([]byte, x.want)...)
		expect(t, d, "a new disk", state{last: zeros, fast: zeros})
	}
}

func TestReadOutside(t *testing.T) {
	for _, n := range []int{1, 3, 200} {
		d := disk.New(n)
		for _, i := range outside(n) {
			if b, err := d.Read(i); err != api.ErrRange || len(b) != 0 {
				t.Errorf("%d sectors: Read(%d): %d bytes, %v", n, i, len(b), err)
			}
		}
	}
}

func TestWriteIsReadAndLoose(t *testing.T) {
	d := disk.New(4)
	write(t, d, 3, 1)
	write(t, d, 1, 2)
	write(t, d, 3, 3)
	write(t, d, 3, 3)
	expect(t, d, "written", state{last: sectors(0, 2, 0, 3), fast: sectors(0, 0, 0, 0), loose: [][2]int{{1, 1}, {3, 3}}})
	sync(t, d)
	expect(t, d, "synced", state{last: sectors(0, 2, 0, 3), fast: sectors(0, 2, 0, 3)})
	sync(t, d)
	expect(t, d, "synced again", state{last: sectors(0, 2, 0, 3), fast: sectors(0, 2, 0, 3)})
	write(t, d, 0, 4)
	write(t, d, 3, 0)
	expect(t, d, "written behind it", state{last: sectors(4, 2, 0, 0), fast: sectors(0, 2, 0, 3), loose: [][2]int{{0, 1}, {3, 1}}})
	sync(t, d)
	expect(t, d, "synced behind it", state{last: sectors(4, 2, 0, 0), fast: sectors(4, 2, 0, 0)})
}

// TestSameBytesAreAVersion: each Write is one more version, also where nothing differs.
func TestSameBytesAreAVersion(t *testing.T) {
	d := disk.New(1)
	for n := 1; n <= 40; n++ {
		write(t, d, 0, 0)
		if got := d.Loose(); !slices.Equal(got, [][2]int{{0, n}}) {
			t.Errorf("behind %d Writes: %v", n, got)
		}
	}
}

func TestEverySector(t *testing.T) {
	d := disk.New(200)
	k := make([]byte, 200)
	var loose [][2]int
	for i := range k {
		k[i] = byte(i + 1)
		write(t, d, i, k[i])
		loose = append(loose, [2]int{i, 1})
	}
	expect(t, d, "all written", state{last: sectors(k...), fast: sectors(make([]byte, 200)...), loose: loose})
	sync(t, d)
	expect(t, d, "all synced", state{last: sectors(k...), fast: sectors(k...)})
}

// wrongWrites tries all that can't be written: places ahead of lengths. None of it may show, nor take from a fuse.
func wrongWrites(t *testing.T, d *disk.Disk) {
	t.Helper()
	lengths := []int{0, 1, 40, 255, 257, 512, 5000}
	for _, i := range outside(d.Size()) {
		for _, n := range append(lengths, api.Sector) {
			if err := d.Write(i, make([]byte, n)); err != api.ErrRange {
				t.Errorf("Write(%d, %d bytes): %v", i, n, err)
			}
		}
	}
	for i := range d.Size() {
		for _, n := range lengths {
			if err := d.Write(i, bytes.Repeat([]byte{9}, n)); err != api.ErrShort {
				t.Errorf("Write(%d, %d bytes): %v", i, n, err)
			}
		}
		if err := d.Write(i, nil); err != api.ErrShort {
			t.Errorf("Write(%d, nil): %v", i, err)
		}
	}
}

func TestWrongWritesChangeNothing(t *testing.T) {
	d := disk.New(3)
	write(t, d, 1, 5)
	sync(t, d)
	write(t, d, 1, 6)
	write(t, d, 2, 7)
	before := look(t, d)
	wrongWrites(t, d)
	expect(t, d, "behind wrong Writes", before)
}

// fuseSteps are a Sync or a Write each, of a disk of two sectors.
func fuseSteps() []struct {
	sync bool
	i    int
	k    byte
} {
	return []struct {
		sync bool
		i    int
		k    byte
	}{{i: 0, k: 1}, {i: 1, k: 2}, {i: 0, k: 3}, {sync: true}, {sync: true}, {i: 1, k: 4}, {i: 1, k: 5}, {sync: true}, {i: 0, k: 6}}
}

// TestFuseAtEachStep: state n of those wanted is the one that a fuse of n leaves, which burns at step n.
func TestFuseAtEachStep(t *testing.T) {
	wanted := []state{
		{fast: sectors(0, 0), loose: [][2]int{{0, 1}}},
		{fast: sectors(0, 0), loose: [][2]int{{0, 1}, {1, 1}}},
		{fast: sectors(0, 0), loose: [][2]int{{0, 2}, {1, 1}}},
		{fast: sectors(0, 0), loose: [][2]int{{0, 2}, {1, 1}}},
		{fast: sectors(3, 2)},
		{fast: sectors(3, 2), loose: [][2]int{{1, 1}}},
		{fast: sectors(3, 2), loose: [][2]int{{1, 2}}},
		{fast: sectors(3, 2), loose: [][2]int{{1, 2}}},
		{fast: sectors(3, 5), loose: [][2]int{{0, 1}}},
	}
	for n, want := range wanted {
		d := disk.New(2)
		d.Fuse(n)
		for at, x := range fuseSteps() {
			// What is no Write or Sync that would go through takes nothing from the fuse.
			if d.Off() != (at > n) {
				t.Errorf("fuse %d: ahead of step %d Off is %v", n, at, d.Off())
			}
			if !d.Off() {
				wrongWrites(t, d)
			}
			look(t, d)
			err := step(d, x.sync, x.i, x.k)
			if want := offFrom(at, n); err != want {
				t.Errorf("fuse %d: step %d: %v, want %v", n, at, err, want)
			}
		}
		want.off = true
		expect(t, d, "burnt", want)
	}
}

func step(d *disk.Disk, sync bool, i int, k byte) error {
	if sync {
		return d.Sync()
	}
	return d.Write(i, full(k))
}

func offFrom(at, n int) error {
	if at >= n {
		return api.ErrOff
	}
	return nil
}

func TestNoFuse(t *testing.T) {
	for _, n := range []int{math.MinInt, -9, -2, -1, 9, 10, 1 << 40, math.MaxInt} {
		d := disk.New(2)
		d.Fuse(n)
		for at, x := range fuseSteps() {
			if err := step(d, x.sync, x.i, x.k); err != nil {
				t.Errorf("fuse %d: step %d: %v", n, at, err)
			}
		}
		expect(t, d, "not burnt", state{last: sectors(6, 5), fast: sectors(3, 5), loose: [][2]int{{0, 1}}})
	}
}

func TestFuseTakesTheLastOnesPlace(t *testing.T) {
	for _, x := range []struct{ first, second, through int }{{0, 1, 1}, {0, 3, 3}, {5, 0, 0}, {5, 2, 2}, {-1, 2, 2}, {1, 1, 1}} {
		d := disk.New(1)
		d.Fuse(x.first)
		d.Fuse(x.second)
		n := 0
		for n < 20 && d.Write(0, full(1)) == nil {
			n++
		}
		if n != x.through || !d.Off() {
			t.Errorf("Fuse(%d), Fuse(%d): %d go through, off %v", x.first, x.second, n, d.Off())
		}
	}
	d := disk.New(1)
	d.Fuse(2)
	write(t, d, 0, 1)
	d.Fuse(2)
	write(t, d, 0, 1)
	sync(t, d)
	if err := d.Sync(); err != api.ErrOff {
		t.Errorf("a fuse begun anew: %v", err)
	}
	d = disk.New(1)
	d.Fuse(0)
	d.Fuse(-1)
	sync(t, d)
	write(t, d, 0, 1)
}

// TestWithoutPower: nothing but Crash and Load brings it back, and nothing else changes anything.
func TestWithoutPower(t *testing.T) {
	d := disk.New(2)
	write(t, d, 0, 1)
	d.Fuse(0)
	if err := d.Write(1, full(2)); err != api.ErrOff {
		t.Errorf("the Write that finds no power: %v", err)
	}
	want := state{off: true, fast: sectors(0, 0), loose: [][2]int{{0, 1}, {1, 1}}}
	expect(t, d, "off", want)
	for _, n := range []int{-1, 0, 1, 100} {
		d.Fuse(n)
		for _, i := range append(outside(2), 0, 1) {
			for _, b := range [][]byte{nil, full(3), make([]byte, 255), make([]byte, 257)} {
				if err := d.Write(i, b); err != api.ErrOff {
					t.Errorf("Write(%d, %d bytes) without power: %v", i, len(b), err)
				}
			}
			if b, err := d.Read(i); err != api.ErrOff || len(b) != 0 {
				t.Errorf("Read(%d) without power: %d bytes, %v", i, len(b), err)
			}
		}
		if err := d.Sync(); err != api.ErrOff {
			t.Errorf("Sync without power: %v", err)
		}
		if d.Size() != 2 {
			t.Errorf("Size without power: %d", d.Size())
		}
		expect(t, d, "still off", want)
	}
	d.Crash(1, 1)
	expect(t, d, "behind a crash", state{last: sectors(1, 2), fast: sectors(1, 2)})
}

// TestSyncFindsNoPower: it does nothing, and what was loose may be kept or not.
func TestSyncFindsNoPower(t *testing.T) {
	for _, x := range []struct {
		keep []int
		want byte
	}{{nil, 0}, {[]int{1}, 1}, {[]int{2}, 2}} {
		d := disk.New(1)
		d.Fuse(2)
		write(t, d, 0, 1)
		write(t, d, 0, 2)
		if err := d.Sync(); err != api.ErrOff {
			t.Errorf("Sync: %v", err)
		}
		d.Crash(x.keep...)
		expect(t, d, "behind it", state{last: sectors(x.want), fast: sectors(x.want)})
	}
}

// crashed is a disk of six sectors: 1 has a fast version 10 and loose 11, 12; 3 has loose 31; 4 has a fast one 40 and loose 41, 42, 43; 5 has a fast one 50.
func crashed(t *testing.T) *disk.Disk {
	t.Helper()
	d := disk.New(6)
	for _, x := range []struct {
		i int
		k byte
	}{{1, 9}, {1, 10}, {4, 40}, {5, 50}} {
		write(t, d, x.i, x.k)
	}
	sync(t, d)
	for _, x := range []struct {
		i int
		k byte
	}{{4, 41}, {1, 11}, {4, 42}, {3, 31}, {1, 12}, {4, 43}} {
		write(t, d, x.i, x.k)
	}
	return d
}

func TestCrashKeeps(t *testing.T) {
	for _, x := range []struct {
		keep []int
		want [3]byte // of sectors 1, 3, 4
	}{
		{nil, [3]byte{10, 0, 40}},
		{[]int{}, [3]byte{10, 0, 40}},
		{[]int{0, 0, 0}, [3]byte{10, 0, 40}},
		{[]int{1}, [3]byte{11, 0, 40}},
		{[]int{2}, [3]byte{12, 0, 40}},
		{[]int{3}, [3]byte{10, 0, 40}},
		{[]int{4}, [3]byte{11, 0, 40}},
		{[]int{0, 1}, [3]byte{10, 31, 40}},
		{[]int{0, 2}, [3]byte{10, 0, 40}},
		{[]int{0, 3}, [3]byte{10, 31, 40}},
		{[]int{2, 1, 3}, [3]byte{12, 31, 43}},
		{[]int{1, 0, 1}, [3]byte{11, 0, 41}},
		{[]int{1, 1, 2}, [3]byte{11, 31, 42}},
		{[]int{5, 5, 5}, [3]byte{12, 31, 41}},
		{[]int{0, 0, 4}, [3]byte{10, 0, 40}},
		{[]int{-1, -1, -1}, [3]byte{10, 0, 40}},
		{[]int{-2, 1, -3}, [3]byte{10, 31, 40}},
		{[]int{math.MinInt, math.MinInt, math.MinInt + 1}, [3]byte{10, 0, 40}},
		{[]int{math.MaxInt, math.MaxInt, math.MaxInt}, [3]byte{11, 31, 43}},
		{[]int{2, 1, 3, 1, 1, 1, 1}, [3]byte{12, 31, 43}},
	} {
		want := sectors(0, x.want[0], 0, x.want[1], x.want[2], 50)
		for _, fuse := range []int{-1, 0, 7} {
			d := crashed(t)
			d.Fuse(fuse)
			given := slices.Clone(x.keep)
			d.Crash(x.keep...)
			expect(t, d, "crashed", state{last: want, fast: want})
			if !slices.Equal(given, x.keep) {
				t.Errorf("what was handed in is %v", x.keep)
			}
			for range 20 {
				write(t, d, 0, 1) // there is no fuse any more
				sync(t, d)
			}
		}
	}
}

// TestWriteThatFoundNoPowerMayBeKept: its version is the last of its sector's.
func TestWriteThatFoundNoPowerMayBeKept(t *testing.T) {
	for k, want := range []byte{10, 11, 12, 13, 10} {
		d := crashed(t)
		d.Fuse(0)
		if err := d.Write(1, full(13)); err != api.ErrOff {
			t.Fatal(err)
		}
		d.Crash(k)
		expect(t, d, "crashed", state{last: sectors(0, want, 0, 0, 40, 50), fast: sectors(0, want, 0, 0, 40, 50)})
	}
}

// TestCrashAgain: what a crash kept is the fast version of the next one.
func TestCrashAgain(t *testing.T) {
	d := crashed(t)
	d.Crash(2, 1, 3)
	d.Crash(1, 1, 1)
	want := sectors(0, 12, 0, 31, 43, 50)
	expect(t, d, "a crash with nothing loose", state{last: want, fast: want})
	write(t, d, 3, 32)
	expect(t, d, "written", state{last: sectors(0, 12, 0, 32, 43, 50), fast: want, loose: [][2]int{{3, 1}}})
	d.Crash(2)
	expect(t, d, "crashed again", state{last: want, fast: want})
}

func TestImageAndLoad(t *testing.T) {
	d := crashed(t)
	image := d.Image()
	if !slices.EqualFunc(image, sectors(0, 10, 0, 0, 40, 50), bytes.Equal) {
		t.Error("the image has other than the fast versions")
	}
	e := disk.New(6)
	write(t, e, 2, 77)
	e.Fuse(0)
	if err := e.Load(image...); err != nil {
		t.Fatal(err)
	}
	expect(t, e, "loaded", state{last: image, fast: image})
	write(t, e, 0, 1) // there is no fuse any more
	sync(t, e)
	expect(t, d, "the one whose image it is", state{last: sectors(0, 12, 0, 31, 43, 50), fast: image, loose: [][2]int{{1, 2}, {3, 1}, {4, 3}}})
	if err := d.Load(d.Image()...); err != nil {
		t.Fatal(err)
	}
	expect(t, d, "its own image loaded", state{last: image, fast: image})
	e.Fuse(0)
	if err := e.Sync(); err != api.ErrOff {
		t.Error(err)
	}
	if err := e.Load(sectors(1, 2, 3, 4, 5, 6)...); err != nil {
		t.Fatal(err)
	}
	expect(t, e, "loaded without power", state{last: sectors(1, 2, 3, 4, 5, 6), fast: sectors(1, 2, 3, 4, 5, 6)})
}

// wrongLoads tries what a disk of six sectors can't load: numbers ahead of lengths.
func wrongLoads(t *testing.T, d *disk.Disk) {
	t.Helper()
	for n := range 14 {
		if n == d.Size() {
			continue
		}
		for _, l := range [][][]byte{make([][]byte, n), slices.Repeat(sectors(1), n)} {
			if err := d.Load(l...); err != api.ErrRange {
				t.Errorf("Load of %d sectors: %v", n, err)
			}
		}
	}
	for at := range d.Size() {
		for _, n := range []int{0, 1, 255, 257, 512} {
			l := slices.Repeat(sectors(1), d.Size())
			l[at] = make([]byte, n)
			if err := d.Load(l...); err != api.ErrShort {
				t.Errorf("Load with %d bytes at %d: %v", n, at, err)
			}
		}
	}
	if err := d.Load(); err != api.ErrRange {
		t.Errorf("Load of nothing: %v", err)
	}
	if err := d.Load(make([][]byte, d.Size())...); err != api.ErrShort {
		t.Errorf("Load of nil sectors: %v", err)
	}
}

func TestWrongLoadsChangeNothing(t *testing.T) {
	d := crashed(t)
	before := look(t, d)
	d.Fuse(2)
	wrongLoads(t, d)
	expect(t, d, "behind wrong Loads", before)
	write(t, d, 1, 12)
	wrongLoads(t, d)
	write(t, d, 1, 12)
	wrongLoads(t, d)
	if err := d.Sync(); err != api.ErrOff {
		t.Errorf("the fuse did not stay: %v", err)
	}
	before = look(t, d)
	wrongLoads(t, d)
	expect(t, d, "behind wrong Loads without power", before)
}

func TestDisksAreApart(t *testing.T) {
	one, two := disk.New(2), disk.New(2)
	write(t, one, 0, 1)
	one.Fuse(0)
	if err := one.Sync(); err != api.ErrOff {
		t.Fatal(err)
	}
	expect(t, two, "the other one", state{last: sectors(0, 0), fast: sectors(0, 0)})
	write(t, two, 1, 2)
	expect(t, one, "the first one", state{off: true, fast: sectors(0, 0), loose: [][2]int{{0, 1}}})
}

// scribble writes over all of a list, and into the room behind it.
func scribble(l []byte) {
	l = l[:cap(l)]
	for i := range l {
		l[i] ^= 0xff
	}
	_ = append(l, 1, 2, 3)
}

func TestAnswersAreNewMemory(t *testing.T) {
	d := crashed(t)
	before := look(t, d)
	all := slices.Concat(d.Image(), d.Image())
	for range 2 {
		for i := range d.Size() {
			b, _ := d.Read(i)
			all = append(all, b)
		}
	}
	for i := range all {
		var others [][]byte
		for _, l := range all {
			others = append(others, bytes.Clone(l))
		}
		scribble(all[i])
		for j := range all {
			if j != i && !bytes.Equal(all[j], others[j]) {
				t.Errorf("answer %d shows what was written into answer %d", j, i)
			}
		}
	}
	expect(t, d, "behind what was written into answers", before)
	one, two := d.Image(), d.Image()
	for i := range one {
		one[i] = nil
	}
	_ = append(one, full(1))
	if !slices.EqualFunc(two, before.fast, bytes.Equal) {
		t.Error("an image shows what was written into another one")
	}
	loose, other := d.Loose(), d.Loose()
	for i := range loose {
		loose[i] = [2]int{-1, -1}
	}
	_ = append(loose, [2]int{7, 7})
	if !slices.Equal(other, before.loose) {
		t.Error("Loose's answer shows what was written into another one")
	}
	expect(t, d, "at the end", before)
	d.Crash(2, 1, 3)
	kept := sectors(0, 12, 0, 31, 43, 50)
	expect(t, d, "crashed", state{last: kept, fast: kept})
}

func TestArgumentsAreLeftAlone(t *testing.T) {
	d := disk.New(2)
	whole := append(full(1), full(99)...)
	before := bytes.Clone(whole)
	b := whole[:api.Sector]
	if err := d.Write(0, b); err != nil {
		t.Fatal(err)
	}
	scribble(b)
	expect(t, d, "written", state{last: sectors(1, 0), fast: sectors(0, 0), loose: [][2]int{{0, 1}}})
	copy(whole, before)
	sync(t, d)
	scribble(b)
	expect(t, d, "synced", state{last: sectors(1, 0), fast: sectors(1, 0)})
	copy(whole, before)
	l := [][]byte{b, b, full(7)}
	if err := d.Load(l[:2]...); err != nil {
		t.Fatal(err)
	}
	if !bytes.Equal(whole, before) || !bytes.Equal(l[2], full(7)) {
		t.Error("what was handed in was changed")
	}
	scribble(b)
	l[0] = full(8)
	expect(t, d, "loaded", state{last: sectors(1, 1), fast: sectors(1, 1)})
	write(t, d, 0, 2)
	d.Crash([]int{1, 1}[:0]...)
	expect(t, d, "what lies behind the length of keep", state{last: sectors(1, 1), fast: sectors(1, 1)})
}

// book holds the same as a disk does, told by what was written since each sector was fast; of each version the number of full alone.
type book struct {
	fast  []byte
	loose map[int][]byte
	off   bool
	fuse  int // 0: none; else one more than what goes through
}

// goes tells whether one more Write or Sync goes through.
func (k *book) goes() bool {
	switch k.fuse {
	case 0:
		return true
	case 1:
		k.off = true
		return false
	}
	k.fuse--
	return true
}

func (k *book) settle(pick func(order int, versions []byte) byte) {
	order := 0
	for i := range k.fast {
		if l := k.loose[i]; len(l) > 0 {
			k.fast[i] = pick(order, append([]byte{k.fast[i]}, l...))
			order++
		}
	}
	k.loose = map[int][]byte{}
}

func (k *book) write(i int, x byte) error {
	if k.off {
		return api.ErrOff
	}
	if i < 0 || i >= len(k.fast) {
		return api.ErrRange
	}
	k.loose[i] = append(k.loose[i], x)
	if !k.goes() {
		return api.ErrOff
	}
	return nil
}

func (k *book) sync() error {
	if k.off || !k.goes() {
		return api.ErrOff
	}
	k.settle(func(_ int, v []byte) byte { return v[len(v)-1] })
	return nil
}

func (k *book) crash(keep []int) {
	k.settle(func(order int, v []byte) byte {
		if order < len(keep) && keep[order] > 0 {
			return v[keep[order]%len(v)]
		}
		return v[0]
	})
	k.off, k.fuse = false, 0
}

func (k *book) state() state {
	s := state{off: k.off, fast: sectors(k.fast...)}
	for i, x := range k.fast {
		if l := k.loose[i]; len(l) > 0 {
			s.loose = append(s.loose, [2]int{i, len(l)})
			x = l[len(l)-1]
		}
		if !k.off {
			s.last = append(s.last, full(x))
		}
	}
	return s
}

// TestLongRuns goes through many calls in an order that differs from run to run, and is the same each time that it is tested.
func TestLongRuns(t *testing.T) {
	for seed := range 60 {
		r := rand.New(rand.NewSource(int64(seed)))
		n := 1 + r.Intn(7)
		d, k := disk.New(n), &book{fast: make([]byte, n), loose: map[int][]byte{}}
		for range 300 {
			run(t, r, d, k)
			if got := look(t, d); !got.equal(k.state()) {
				t.Fatalf("seed %d: off %v, loose %v; want off %v, loose %v", seed, got.off, got.loose, k.off, k.loose)
			}
		}
	}
}

func run(t *testing.T, r *rand.Rand, d *disk.Disk, k *book) {
	t.Helper()
	n := len(k.fast)
	switch p := r.Intn(100); {
	case p < 60:
		i, x := r.Intn(n+2)-1, byte(r.Intn(256))
		if got, want := d.Write(i, full(x)), k.write(i, x); got != want {
			t.Fatalf("Write(%d): %v, want %v", i, got, want)
		}
	case p < 72:
		if got, want := d.Sync(), k.sync(); got != want {
			t.Fatalf("Sync: %v, want %v", got, want)
		}
	case p < 82:
		f := r.Intn(12) - 2
		d.Fuse(f)
		k.fuse = max(f+1, 0)
	case p < 96:
		keep := make([]int, r.Intn(n+2))
		for i := range keep {
			keep[i] = r.Intn(20) - 4
		}
		d.Crash(keep...)
		k.crash(keep)
	default:
		for i := range k.fast {
			k.fast[i] = byte(r.Intn(256))
		}
		k.loose, k.off, k.fuse = map[int][]byte{}, false, 0
		if err := d.Load(sectors(k.fast...)...); err != nil {
			t.Fatal(err)
		}
	}
}
