package page_test

import (
	"bytes"
	"encoding/binary"
	"math"
	"math/rand"
	"slices"
	"testing"

	"phoenix/api"
	"phoenix/page"
)

// What the document says of the sizes, written out.
const (
	greatest = 1073741824
	lastKey  = 1048575
	perPage  = 20
)

// of is the page of these keys, each with a value that tells it.
func of(lsn int, keys ...int) api.Page {
	p := api.Page{LSN: lsn}
	for _, k := range keys {
		p.L = append(p.L, api.Entry{Key: k, Value: valueOf(k)})
	}
	return p
}

func valueOf(key int) int64 { return int64(key)*1000003 - 7 }

// even is the page of the first n even keys.
func even(lsn, n int) api.Page {
	var l []int
	for i := range n {
		l = append(l, 2*i)
	}
	return of(lsn, l...)
}

// plain are pages that may be.
func plain() []api.Page {
	full := even(0x01020304, perPage)
	for i := range full.L {
		full.L[i] = api.Entry{Key: 0x010203 + 300*i, Value: math.MaxInt64 - int64(i)*0x0101010101010101}
	}
	return []api.Page{
		{},
		{L: []api.Entry{}},
		of(1),
		of(greatest),
		of(1, 0),
		of(5, 3, 4, 5),
		of(300, 255, 256, 65535, 65536),
		of(greatest, lastKey),
		of(greatest, 0, lastKey),
		{LSN: 2, L: []api.Entry{{Key: 0, Value: 0}, {Key: 1, Value: math.MinInt64}, {Key: 2, Value: math.MaxInt64}, {Key: 3, Value: -1}}},
		even(7, perPage-1),
		even(8, perPage),
		full,
	}
}

// wrong are pages that may not be: each thing that the document refuses, at its edge and beyond.
func wrong() []api.Page {
	return []api.Page{
		of(-1),
		of(greatest + 1),
		of(math.MinInt),
		of(math.MaxInt),
		of(-1, 1),
		of(greatest+1, 1),
		of(1<<32 + 1),
		of(1<<32+1, 1),
		even(1, perPage+1),
		even(1, 300),
		even(0, perPage+1),
		of(1, 2, 2),
		of(1, 3, 2),
		of(1, 0, 0),
		of(1, 0, 5, 5),
		of(1, 0, 5, 4),
		of(1, 1, 2, 3, 2),
		of(1, 5, 1, 2, 3),
		of(1, lastKey, lastKey),
		of(1, lastKey, 0),
		of(1, -1),
		of(1, -1, 0),
		of(1, 0, -1),
		of(1, math.MinInt),
		of(1, math.MinInt, math.MinInt+1),
		of(1, lastKey+1),
		of(1, 0, lastKey+1),
		of(1, lastKey, lastKey+1),
		of(1, math.MaxInt),
		of(1, math.MaxInt, math.MinInt),
		of(1, 5, 1<<32+6),
		of(0, 0),
		of(0, 1),
		even(0, perPage),
		{LSN: 0, L: []api.Entry{{}}},
	}
}

// may tells by the document whether p is a page, by what it refuses.
func may(p api.Page) bool {
	if p.LSN < 0 || p.LSN > greatest || len(p.L) > perPage || p.LSN == 0 && len(p.L) > 0 {
		return false
	}
	for i, e := range p.L {
		if e.Key < 0 || e.Key > lastKey || i > 0 && p.L[i-1].Key >= e.Key {
			return false
		}
	}
	return true
}

// written is p's sector as the document lays it, by another way than the program's; p may be one that may not be, of 20 keys at most.
func written(p api.Page) []byte {
	b := binary.LittleEndian.AppendUint32(nil, uint32(p.LSN))
	b = binary.LittleEndian.AppendUint16(b, uint16(len(p.L)))
	b = append(b, make([]byte, 10)...)
	for _, e := range p.L {
		b = binary.LittleEndian.AppendUint32(b, uint32(e.Key))
		b = binary.LittleEndian.AppendUint64(b, uint64(e.Value))
	}
	return append(b, make([]byte, 256-len(b))...)
}

// fits tells whether p's numbers have room in a sector.
func fits(p api.Page) bool {
	for _, e := range p.L {
		if e.Key < 0 || e.Key > math.MaxUint32 {
			return false
		}
	}
	return len(p.L) <= perPage && p.LSN >= 0 && p.LSN <= math.MaxUint32
}

func same(a, b api.Page) bool { return a.LSN == b.LSN && slices.Equal(a.L, b.L) }

func clone(p api.Page) api.Page { return api.Page{LSN: p.LSN, L: slices.Clone(p.L)} }

func none(p api.Page) bool { return p.LSN == 0 && len(p.L) == 0 }

// reads holds that b is the page p's.
func reads(t *testing.T, b []byte, p api.Page) {
	t.Helper()
	if got, err := page.Read(b); err != nil || !same(got, p) {
		t.Errorf("Read(%v): %+v, %v; want %+v", b, got, err, p)
	}
}

// unread holds that Read answers err, and nothing beside.
func unread(t *testing.T, b []byte, err error) {
	t.Helper()
	if p, got := page.Read(b); got != err || !none(p) {
		t.Errorf("Read(%v): %+v, %v; want %v", b, p, got, err)
	}
}

// holds holds a page that may be against Check, Bytes and Read.
func holds(t *testing.T, p api.Page) {
	t.Helper()
	if err := page.Check(p); err != nil {
		t.Errorf("Check(%+v): %v", p, err)
	}
	want := written(p)
	if b, err := page.Bytes(p); err != nil || !bytes.Equal(b, want) {
		t.Errorf("Bytes(%+v): %v, %v; want %v", p, b, err, want)
	}
	reads(t, want, p)
}

// refused holds that there is no such page; its bytes, where it fits into them, are none's.
func refused(t *testing.T, p api.Page) {
	t.Helper()
	if err := page.Check(p); err != api.ErrRange {
		t.Errorf("Check(%+v): %v; want ErrRange", p, err)
	}
	if b, err := page.Bytes(p); err != api.ErrRange || len(b) != 0 {
		t.Errorf("Bytes(%+v): %v, %v; want ErrRange", p, b, err)
	}
	if fits(p) {
		unread(t, written(p), api.ErrPage)
	}
}

// judged holds p against the document's word on it.
func judged(t *testing.T, p api.Page) bool {
	t.Helper()
	if may(p) {
		holds(t, p)
		return true
	}
	refused(t, p)
	return false
}

func TestLayout(t *testing.T) {
	p := api.Page{LSN: 0x14131211, L: []api.Entry{{Key: 0x010203, Value: 0x1122334455667788}, {Key: 0x0a0b0c, Value: -2}, {Key: 0x0fffff, Value: 9}}}
	want := make([]byte, 256)
	copy(want, []byte{
		0x11, 0x12, 0x13, 0x14, 3, 0, 0, 0, 0, 0, 0, 0, 0, 0, 0, 0,
		3, 2, 1, 0, 0x88, 0x77, 0x66, 0x55, 0x44, 0x33, 0x22, 0x11,
		0x0c, 0x0b, 0x0a, 0, 0xfe, 0xff, 0xff, 0xff, 0xff, 0xff, 0xff, 0xff,
		0xff, 0xff, 0x0f, 0, 9,
	})
	if b, err := page.Bytes(p); err != nil || !bytes.Equal(b, want) {
		t.Errorf("%v, %v; want %v", b, err, want)
	}
	reads(t, want, p)
}

func TestPlain(t *testing.T) {
	for _, p := range plain() {
		if !may(p) {
			t.Fatalf("%+v is no page", p)
		}
		holds(t, p)
	}
}

func TestWrong(t *testing.T) {
	for _, p := range wrong() {
		if may(p) {
			t.Fatalf("%+v is a page", p)
		}
		refused(t, p)
	}
}

func TestZeros(t *testing.T) {
	p, err := page.Read(make([]byte, 256))
	if err != nil || !none(p) {
		t.Errorf("%+v, %v; want an empty page", p, err)
	}
	for _, p := range []api.Page{{}, {L: []api.Entry{}}} {
		if b, err := page.Bytes(p); err != nil || !bytes.Equal(b, make([]byte, 256)) {
			t.Errorf("Bytes(%+v): %v, %v; want zeros", p, b, err)
		}
	}
}

// The number of the last record at its bounds and just beyond, of an empty page and of one with keys.
func TestLSN(t *testing.T) {
	for _, keys := range [][]int{nil, {0}, {4, 9, lastKey}} {
		for _, lsn := range []int{1, 2, 255, 256, 65535, 65536, greatest - 1, greatest} {
			holds(t, of(lsn, keys...))
		}
		for _, lsn := range []int{-1, -greatest, greatest + 1, 2*greatest - 1, 2 * greatest, math.MaxUint32, math.MaxUint32 + 1, 1<<32 + 1, 1 - 1<<32, math.MinInt, math.MaxInt} {
			refused(t, of(lsn, keys...))
		}
	}
	holds(t, of(0))
	refused(t, of(0, 0))
	refused(t, of(0, 4, 9, lastKey))
}

func TestHowMany(t *testing.T) {
	for n := range 70 {
		if ok := judged(t, even(3, n)); ok != (n <= 20) {
			t.Errorf("%d keys: %v", n, ok)
		}
	}
	for _, n := range []int{256, 256 + 20, 65536, 65537} { // what two bytes, or one, would show as fewer
		refused(t, even(3, n))
	}
}

// A key at each place of pages of each size, at its least, its greatest, and just beyond.
func TestKeyBounds(t *testing.T) {
	for n := 1; n <= perPage; n++ {
		for at := range n {
			var l []int
			for i := range n {
				l = append(l, 1000*(i+1))
			}
			for _, k := range []int{math.MinInt, -1 << 32, -1000, -1, 0, 1, 1000*at - 1, 1000 * at, 1000*at + 1, 1000 * (at + 2), 1000*(at+2) - 1, lastKey - 1, lastKey, lastKey + 1, 1 << 30, math.MaxInt32, math.MaxUint32, 1<<32 + 1000*(at+1), math.MaxInt} {
				l[at] = k
				judged(t, of(6, l...))
			}
		}
	}
}

// All pages of up to four keys out of a few around the bounds.
func TestEachWithEach(t *testing.T) {
	keys := []int{-1, 0, 1, 2, lastKey - 1, lastKey, lastKey + 1}
	found := map[bool]int{}
	var walk func(l []int)
	walk = func(l []int) {
		for _, lsn := range []int{-1, 0, 1, greatest, greatest + 1} {
			found[judged(t, of(lsn, l...))]++
		}
		if len(l) < 4 {
			for _, k := range keys {
				walk(append(slices.Clone(l), k))
			}
		}
	}
	walk(nil)
	if found[true] != 1+2*(1+5+10+10+5) { // of five keys those that rise; an empty page also at 0
		t.Errorf("%d pages may be", found[true])
	}
}

// Any value may be a key's.
func TestValues(t *testing.T) {
	for _, v := range []int64{0, 1, -1, 255, 256, -256, math.MaxInt32, math.MinInt32, 1 << 40, math.MinInt64, math.MinInt64 + 1, math.MaxInt64 - 1, math.MaxInt64, 0x0102030405060708} {
		for n := 1; n <= perPage; n++ {
			for at := range n {
				p := even(3, n)
				p.L[at].Value = v
				holds(t, p)
			}
		}
	}
}

func TestLengths(t *testing.T) {
	unread(t, nil, api.ErrShort)
	one := written(of(5, 3, 4))
	for _, long := range [][]byte{append(bytes.Clone(one), one...), make([]byte, 512), bytes.Repeat([]byte{255}, 512)} {
		for n := range len(long) + 1 {
			if n != 256 {
				unread(t, long[:n], api.ErrShort)
			}
		}
	}
	reads(t, append(bytes.Clone(one), bytes.Repeat([]byte{255}, 256)...)[:256], of(5, 3, 4)) // what lies behind the length is not read
	reads(t, append(make([]byte, 256), one...)[:256], api.Page{})
	unread(t, bytes.Repeat([]byte{255}, 256), api.ErrPage)
}

// judgedBytes holds Read of a sector against what the document says of these bytes.
func judgedBytes(t *testing.T, b []byte) bool {
	t.Helper()
	p := api.Page{LSN: int(binary.LittleEndian.Uint32(b))}
	n := int(binary.LittleEndian.Uint16(b[4:]))
	for i := range min(n, perPage) {
		e := b[16+12*i:]
		p.L = append(p.L, api.Entry{Key: int(binary.LittleEndian.Uint32(e)), Value: int64(binary.LittleEndian.Uint64(e[4:]))})
	}
	if n <= perPage && may(p) && bytes.Equal(b, written(p)) {
		reads(t, b, p)
		return true
	}
	unread(t, b, api.ErrPage)
	return false
}

// inValue tells whether byte at belongs to a value of a page of n keys.
func inValue(at, n int) bool { return at >= 16 && at < 16+12*n && (at-16)%12 >= 4 }

// Each byte turned to all that it may be: the zeros may be nothing else, the values anything.
func TestEachByteTurned(t *testing.T) {
	for _, p := range plain() {
		good := written(p)
		for at := range good {
			for x := range 256 {
				b := bytes.Clone(good)
				b[at] = byte(x)
				ok := judgedBytes(t, b)
				zero := at >= 5 && at < 16 || at >= 16+12*len(p.L)
				if (zero && ok != (x == 0)) || (inValue(at, len(p.L)) && !ok) {
					t.Errorf("%+v, byte %d is %d: %v by the document", p, at, x, ok)
				}
			}
		}
	}
}

// Every number in the count: one less leaves a key where zeros should be, one more takes a key 0 behind others.
func TestCounts(t *testing.T) {
	for _, p := range []api.Page{of(4), of(4, 0), of(4, 1, 2, 3), even(4, perPage)} {
		for n := range 65536 {
			b := written(p)
			binary.LittleEndian.PutUint16(b[4:], uint16(n))
			ok := judgedBytes(t, b)
			if want := n == len(p.L) || len(p.L) == 0 && n == 1; ok != want {
				t.Errorf("%+v with the count %d: %v by the document", p, n, ok)
			}
		}
	}
	b := make([]byte, 256)
	b[4] = 1 // a key of number 0, value 0, in a page that no record has changed
	unread(t, b, api.ErrPage)
}

// Pages with a few bits turned.
func TestManySectors(t *testing.T) {
	rnd := rand.New(rand.NewSource(7))
	found := map[bool]int{}
	for range 50000 {
		p := of(1+rnd.Intn(greatest), keysOf(rnd)...)
		b := written(p)
		for range rnd.Intn(3) {
			b[rnd.Intn(256)] ^= 1 << rnd.Intn(8)
		}
		found[judgedBytes(t, b)]++
	}
	if found[true] < 10000 || found[false] < 10000 {
		t.Errorf("too few of one sort: %v", found)
	}
}

// keysOf are up to 20 keys, rising.
func keysOf(rnd *rand.Rand) []int {
	var l []int
	for range rnd.Intn(perPage + 1) {
		l = append(l, rnd.Intn(lastKey+1))
	}
	slices.Sort(l)
	return slices.Compact(l)
}

// get holds what Get answers: v, or nothing.
func get(t *testing.T, p api.Page, key int, v int64, is bool) {
	t.Helper()
	if got, ok := page.Get(p, key); got != v || ok != is {
		t.Errorf("Get(%+v, %d): %d, %v; want %d, %v", p, key, got, ok, v, is)
	}
}

// put holds that Put answers want, and leaves p.
func put(t *testing.T, p api.Page, key int, v int64, want api.Page) {
	t.Helper()
	before := clone(p)
	if got, is := page.Put(p, key, v); !is || !same(got, want) {
		t.Errorf("Put(%+v, %d, %d): %+v, %v; want %+v", p, key, v, got, is, want)
	}
	if !same(p, before) {
		t.Errorf("Put changed %+v to %+v", before, p)
	}
}

// full holds that Put answers false, and nothing.
func full(t *testing.T, p api.Page, key int) {
	t.Helper()
	before := clone(p)
	if got, is := page.Put(p, key, 5); is || !none(got) {
		t.Errorf("Put(%+v, %d): %+v, %v; want nothing", p, key, got, is)
	}
	if !same(p, before) {
		t.Errorf("Put changed %+v to %+v", before, p)
	}
}

// remove holds what Remove answers, and that it leaves p.
func remove(t *testing.T, p api.Page, key int, want api.Page, is bool) {
	t.Helper()
	before := clone(p)
	if got, ok := page.Remove(p, key); ok != is || !same(got, want) {
		t.Errorf("Remove(%+v, %d): %+v, %v; want %+v, %v", p, key, got, ok, want, is)
	}
	if !same(p, before) {
		t.Errorf("Remove changed %+v to %+v", before, p)
	}
}

func TestGet(t *testing.T) {
	for _, p := range plain() {
		for _, e := range p.L {
			get(t, p, e.Key, e.Value, true)
		}
		for _, k := range []int{math.MinInt, -1, 7, 9, 1000, lastKey - 1, lastKey + 1, math.MaxInt} {
			get(t, p, k, 0, false)
		}
	}
	get(t, of(1, 0), lastKey, 0, false)
	get(t, of(1, lastKey), 0, 0, false)
	get(t, api.Page{LSN: 1, L: []api.Entry{{Key: 4}}}, 4, 0, true) // a value of 0 is one
}

// A key put into pages of each size: at each place where it is not there, and over each that is.
func TestPut(t *testing.T) {
	for n := range perPage + 1 {
		for _, lsn := range []int{1, 9, greatest} {
			p := of(lsn)
			for i := range n {
				p.L = append(p.L, api.Entry{Key: 10 * (i + 1), Value: int64(i)})
			}
			for i, e := range p.L {
				want := clone(p)
				want.L[i].Value = 77
				put(t, p, e.Key, 77, want)
			}
			for i := range n + 1 {
				for _, key := range []int{10*i + 1, 10*i + 9} {
					if n == perPage {
						full(t, p, key)
						continue
					}
					want := clone(p)
					want.L = slices.Concat(p.L[:i:i], []api.Entry{{Key: key, Value: 77}}, p.L[i:])
					put(t, p, key, 77, want)
					holds(t, want)
				}
			}
		}
	}
}

func TestPutEdges(t *testing.T) {
	put(t, api.Page{}, 3, 5, api.Page{L: []api.Entry{{Key: 3, Value: 5}}}) // LSN stays, though it is 0
	put(t, of(4), 0, 0, api.Page{LSN: 4, L: []api.Entry{{}}})
	put(t, of(4), lastKey, math.MinInt64, api.Page{LSN: 4, L: []api.Entry{{Key: lastKey, Value: math.MinInt64}}})
	put(t, of(4, lastKey), 0, math.MaxInt64, api.Page{LSN: 4, L: []api.Entry{{Key: 0, Value: math.MaxInt64}, {Key: lastKey, Value: valueOf(lastKey)}}})
	put(t, of(4, 0), lastKey, -1, api.Page{LSN: 4, L: []api.Entry{{Key: 0, Value: valueOf(0)}, {Key: lastKey, Value: -1}}})
	put(t, of(4, 7), 7, valueOf(7), of(4, 7)) // the same value again
	put(t, even(4, perPage), 38, valueOf(38), even(4, perPage))
	put(t, even(4, perPage-1), 38, valueOf(38), even(4, perPage))
	for _, key := range []int{math.MinInt, -1, 1, 39, 40, lastKey, lastKey + 1, math.MaxInt} {
		full(t, even(4, perPage), key)
		full(t, even(0, perPage), key)
	}
}

func TestRemove(t *testing.T) {
	for n := range perPage + 1 {
		p := even(3, n)
		for i, e := range p.L {
			want := clone(p)
			want.L = slices.Concat(p.L[:i:i], p.L[i+1:])
			remove(t, p, e.Key, want, true)
			holds(t, want)
		}
		for _, key := range []int{math.MinInt, -2, -1, 1, 2*n - 1, 2 * n, lastKey, lastKey + 1, math.MaxInt} {
			remove(t, p, key, p, false)
		}
	}
	remove(t, of(8, 5), 5, of(8), true) // the only one: LSN stays
	remove(t, of(8, 0, lastKey), 0, of(8, lastKey), true)
	remove(t, of(8, 0, lastKey), lastKey, of(8, 0), true)
	remove(t, of(8), 0, of(8), false)
	remove(t, api.Page{}, 0, api.Page{}, false)
	remove(t, of(0, 4, 6), 4, of(0, 6), true)
}

// Long runs of calls, held against a plain map.
func TestRuns(t *testing.T) {
	rnd := rand.New(rand.NewSource(11))
	for range 300 {
		p, book := of(1+rnd.Intn(greatest)), map[int]int64{}
		lsn, most := p.LSN, 1+rnd.Intn(60)
		for range 200 {
			key, v := rnd.Intn(most), int64(rnd.Uint64())
			had, was := book[key]
			get(t, p, key, had, was)
			q, is := page.Put(p, key, v)
			if rnd.Intn(2) == 0 {
				q, is = page.Remove(p, key)
				delete(book, key)
				if is != was {
					t.Fatalf("Remove of %d: %v; it was there: %v", key, is, was)
				}
			} else if is {
				book[key] = v
			} else if was || len(book) < perPage {
				t.Fatalf("no Put of %d with %d keys, there: %v", key, len(book), was)
			} else {
				q = p
			}
			if q.LSN != lsn || len(q.L) != len(book) || !may(q) {
				t.Fatalf("%+v; want %v", q, book)
			}
			for _, e := range q.L {
				if v, is := book[e.Key]; !is || v != e.Value {
					t.Fatalf("%+v; want %v", q, book)
				}
			}
			p = q
		}
	}
}

// Pages that may not be: each call ends, leaves them as they are, and keeps to its sentence as far as that goes.
func TestCallsOnWrong(t *testing.T) {
	for _, p := range wrong() {
		before := clone(p)
		keys := []int{math.MinInt, -1, 0, 1, 2, 3, 4, 5, 6, lastKey, lastKey + 1, math.MaxInt}
		for _, e := range p.L {
			keys = append(keys, e.Key)
		}
		for _, key := range keys {
			there := slices.ContainsFunc(p.L, func(e api.Entry) bool { return e.Key == key })
			get(t, p, key, map[bool]int64{true: valueIn(p, key)}[there], there)
			q, is := page.Put(p, key, 99)
			if want := there || len(p.L) < perPage; is != want || !is && !none(q) {
				t.Errorf("Put(%+v, %d): %+v, %v", p, key, q, is)
			}
			if is {
				get(t, q, key, 99, true)
				if q.LSN != p.LSN || there && len(q.L) != len(p.L) || !there && len(q.L) != len(p.L)+1 {
					t.Errorf("Put(%+v, %d): %+v", p, key, q)
				}
			}
			r, is := page.Remove(p, key)
			get(t, r, key, 0, false)
			if is != there || r.LSN != p.LSN || !there && !same(r, p) || there && len(r.L) >= len(p.L) {
				t.Errorf("Remove(%+v, %d): %+v, %v", p, key, r, is)
			}
			if !same(p, before) {
				t.Fatalf("%+v became %+v", before, p)
			}
		}
	}
}

// valueIn is the value of the first entry of that key, or 0.
func valueIn(p api.Page, key int) int64 {
	for _, e := range p.L {
		if e.Key == key {
			return e.Value
		}
	}
	return 0
}

// A key beyond the bounds is put like another one; that no sector takes it Check tells.
func TestPutKeysThatMayNotBe(t *testing.T) {
	for _, key := range []int{math.MinInt, -1} {
		put(t, of(2, 0, 5), key, 9, api.Page{LSN: 2, L: append([]api.Entry{{Key: key, Value: 9}}, of(2, 0, 5).L...)})
	}
	for _, key := range []int{lastKey + 1, math.MaxInt} {
		put(t, of(2, 0, 5), key, 9, api.Page{LSN: 2, L: append(of(2, 0, 5).L, api.Entry{Key: key, Value: 9})})
	}
}

// spoilt is p in memory with room behind it, and what that memory is.
func spoilt(p api.Page) (api.Page, []api.Entry) {
	room := append(slices.Clone(p.L), api.Entry{Key: -5, Value: 5}, api.Entry{Key: -6, Value: 6}, api.Entry{Key: -7, Value: 7})
	return api.Page{LSN: p.LSN, L: room[:len(p.L)]}, room
}

// What is handed in is as it was, also behind its length, and what is written into an answer shows nowhere else.
func TestMemory(t *testing.T) {
	for _, x := range append(plain(), wrong()...) {
		p, room := spoilt(x)
		kept := slices.Clone(room)
		page.Check(p)
		page.Bytes(p)
		page.Get(p, -5)
		get(t, p, -7, 0, false)
		for _, key := range []int{-1, 0, 1, 2, 4, 5, 1000, lastKey, lastKey + 1} {
			put1, is1 := page.Put(p, key, 1)
			put2, _ := page.Put(p, key, 1)
			rem1, is2 := page.Remove(p, key)
			rem2, _ := page.Remove(p, key)
			put3, rem3 := clone(put2), clone(rem2)
			scribble(put1.L)
			scribble(rem1.L)
			if !slices.Equal(room, kept) || !same(put2, put3) || !same(rem2, rem3) {
				t.Fatalf("key %d, %v, %v: %v became %v; answers %+v and %+v", key, is1, is2, kept, room, put2, rem2)
			}
			room[0].Value++
			if !same(put2, put3) || !same(rem2, rem3) {
				t.Fatalf("key %d: what is handed in shows in an answer", key)
			}
			room[0].Value--
		}
	}
}

// scribble writes over all that l has, and over its spare room.
func scribble(l []api.Entry) {
	l = l[:cap(l)]
	for i := range l {
		l[i] = api.Entry{Key: -999, Value: -999}
	}
}

func TestBytesMemory(t *testing.T) {
	for _, p := range plain() {
		first, err := page.Bytes(p)
		second, err2 := page.Bytes(p)
		if err != nil || err2 != nil {
			t.Fatal(err, err2)
		}
		room := first[:cap(first)]
		for i := range room {
			room[i] = 0xee
		}
		if !bytes.Equal(second, written(p)) {
			t.Errorf("%+v: what is written into one answer shows in another one", p)
		}
		holds(t, p)
	}
}

func TestReadMemory(t *testing.T) {
	for _, p := range plain() {
		for _, good := range []bool{true, false} {
			room := append(written(p), 1, 2, 3)
			if !good {
				room[9] = 1
			}
			kept := bytes.Clone(room)
			first, err := page.Read(room[:256])
			second, _ := page.Read(room[:256])
			scribble(first.L)
			if (err == nil) != good || !bytes.Equal(room, kept) || good && !same(second, p) {
				t.Errorf("Read changed what it was given, or another answer: %v, %v, %+v", err, room, second)
			}
			if _, err := page.Read(room); err != api.ErrShort || !bytes.Equal(room, kept) {
				t.Errorf("Read changed what it was given: %v, %v", err, room)
			}
		}
	}
}
