package rec_test

import (
	"bytes"
	"encoding/binary"
	"math"
	"math/rand"
	"testing"

	"phoenix/api"
	"phoenix/rec"
)

// bounds are what the document lets one kind of record be, with its numbers written out.
type bounds struct {
	kind                       int
	txn, page, prev, next, key [2]int
	had, has                   string // "no": never set; "may": as it likes; "must": always
	old                        [2]int64
}

const (
	least = math.MinInt64
	most  = math.MaxInt64
)

// book is the document's, kind by kind.
func book() []bounds {
	return []bounds{
		{kind: 1, txn: [2]int{1, 60000}, had: "no", has: "no"},
		{kind: 2, txn: [2]int{1, 60000}, page: [2]int{1, 32}, prev: [2]int{0, 1073741824}, key: [2]int{0, 1048575}, had: "may", has: "may", old: [2]int64{least, most}},
		{kind: 3, txn: [2]int{1, 60000}, page: [2]int{1, 32}, prev: [2]int{0, 1073741824}, next: [2]int{0, 1073741824}, key: [2]int{0, 1048575}, had: "must", has: "may", old: [2]int64{1, 1073741824}},
		{kind: 4, txn: [2]int{1, 60000}, prev: [2]int{0, 1073741824}, had: "no", has: "no"},
		{kind: 5, txn: [2]int{1, 60000}, prev: [2]int{0, 1073741824}, had: "no", has: "no"},
		{kind: 6, txn: [2]int{1, 60000}, prev: [2]int{0, 1073741824}, had: "no", has: "no"},
		{kind: 7, had: "no", has: "no"},
		{kind: 8, txn: [2]int{1, 60000}, prev: [2]int{0, 1073741824}, next: [2]int{0, 1073741824}, key: [2]int{0, 2}, had: "no", has: "no"},
		{kind: 9, page: [2]int{1, 32}, prev: [2]int{1, 1073741824}, had: "no", has: "no"},
		{kind: 10, next: [2]int{0, 60000}, had: "no", has: "no"},
	}
}

// allowed is the document's word on a mark and the number beside it.
func allowed(word string, set bool, n int64, span [2]int64) bool {
	if !set {
		return word != "must" && n == 0
	}
	return word != "no" && span[0] <= n && n <= span[1]
}

// good tells by the book whether r is a record.
func good(r api.Rec) bool {
	in := func(n int, span [2]int) bool { return span[0] <= n && n <= span[1] }
	for _, b := range book() {
		if b.kind == r.Kind {
			return in(r.Txn, b.txn) && in(r.Page, b.page) && in(r.Prev, b.prev) && in(r.Next, b.next) && in(r.Key, b.key) &&
				allowed(b.had, r.Had, r.Old, b.old) && allowed(b.has, r.Has, r.New, [2]int64{least, most}) &&
				(r.Kind != 2 || r.Had || r.Has)
		}
	}
	return false
}

// written is a record's bytes as the document lays them, by another way than the program's.
func written(r api.Rec) []byte {
	b := []byte{byte(r.Kind), 0}
	if r.Had {
		b[1]++
	}
	if r.Has {
		b[1] += 2
	}
	b = binary.LittleEndian.AppendUint16(b, uint16(r.Txn))
	b = binary.LittleEndian.AppendUint16(b, uint16(r.Page))
	b = append(b, 0, 0)
	for _, n := range []int{r.Prev, r.Next, r.Key, 0} {
		b = binary.LittleEndian.AppendUint32(b, uint32(n))
	}
	b = binary.LittleEndian.AppendUint64(b, uint64(r.Old))
	return binary.LittleEndian.AppendUint64(b, uint64(r.New))
}

// plain are records of each kind, with parts in the midst of their bounds.
func plain() []api.Rec {
	return []api.Rec{
		{Kind: 1, Txn: 7},
		{Kind: 2, Txn: 300, Page: 5, Prev: 77, Key: 1000, Had: true, Has: true, Old: 12, New: -13},
		{Kind: 2, Txn: 300, Page: 5, Prev: 77, Key: 1000, Has: true, New: 5},
		{Kind: 2, Txn: 300, Page: 5, Prev: 77, Key: 1000, Had: true, Old: 5},
		{Kind: 3, Txn: 300, Page: 5, Prev: 77, Next: 66, Key: 1000, Had: true, Has: true, Old: 70, New: 8},
		{Kind: 3, Txn: 300, Page: 5, Prev: 77, Next: 66, Key: 1000, Had: true, Old: 70},
		{Kind: 4, Txn: 9, Prev: 1234567},
		{Kind: 5, Txn: 10, Prev: 1234568},
		{Kind: 6, Txn: 11, Prev: 1234569},
		{Kind: 7},
		{Kind: 8, Txn: 12, Prev: 500, Next: 400, Key: 1},
		{Kind: 9, Page: 31, Prev: 600},
		{Kind: 10, Next: 44},
	}
}

// holds holds r against all calls: what Check, Bytes and Read say of it.
func holds(t *testing.T, r api.Rec, ok bool) {
	t.Helper()
	err := rec.Check(r)
	b, berr := rec.Bytes(r)
	if !ok {
		if err != api.ErrRange || berr != api.ErrRange || len(b) != 0 {
			t.Errorf("%+v: Check %v, Bytes %v, %v; want ErrRange of both", r, err, b, berr)
		}
		return
	}
	if err != nil || berr != nil || !bytes.Equal(b, written(r)) {
		t.Errorf("%+v: Check %v, Bytes %v, %v; want %v", r, err, b, berr, written(r))
		return
	}
	if got, err := rec.Read(b); err != nil || got != r {
		t.Errorf("Read of the bytes of %+v: %+v, %v", r, got, err)
	}
}

// unread holds that b, of a record's length, is none.
func unread(t *testing.T, b []byte) {
	t.Helper()
	if r, err := rec.Read(b); err != api.ErrRec || r != (api.Rec{}) {
		t.Errorf("Read(%v): %+v, %v; want ErrRec", b, r, err)
	}
}

func TestPlainRecords(t *testing.T) {
	for _, r := range plain() {
		holds(t, r, true)
	}
}

func TestNames(t *testing.T) {
	names := []int{api.Begin, api.Set, api.Clr, api.Commit, api.Abort, api.End, api.CkBegin, api.CkTxn, api.CkPage, api.CkEnd}
	for i, kind := range names {
		if kind != i+1 {
			t.Errorf("kind %d is %d: the book is of another one", i+1, kind)
		}
	}
}

func TestLayout(t *testing.T) {
	r := api.Rec{Kind: 3, Txn: 0x1122, Page: 0x1f, Prev: 0x31323334, Next: 0x21222324, Key: 0x51525, Had: true, Has: true, Old: 0x26272829, New: 0x0102030405060708}
	want := []byte{3, 3, 0x22, 0x11, 0x1f, 0, 0, 0, 0x34, 0x33, 0x32, 0x31, 0x24, 0x23, 0x22, 0x21, 0x25, 0x15, 5, 0, 0, 0, 0, 0, 0x29, 0x28, 0x27, 0x26, 0, 0, 0, 0, 8, 7, 6, 5, 4, 3, 2, 1}
	if b, err := rec.Bytes(r); err != nil || !bytes.Equal(b, want) {
		t.Errorf("%v, %v; want %v", b, err, want)
	}
	if got, err := rec.Read(want); err != nil || got != r {
		t.Errorf("%+v, %v; want %+v", got, err, r)
	}
	marks := []struct {
		r    api.Rec
		mark byte
	}{
		{api.Rec{Kind: 1, Txn: 1}, 0},
		{api.Rec{Kind: 2, Txn: 1, Page: 1, Had: true}, 1},
		{api.Rec{Kind: 2, Txn: 1, Page: 1, Has: true}, 2},
		{api.Rec{Kind: 2, Txn: 1, Page: 1, Had: true, Has: true}, 3},
	}
	for _, x := range marks {
		if b, err := rec.Bytes(x.r); err != nil || len(b) != 40 || b[1] != x.mark {
			t.Errorf("Bytes(%+v): %v, %v; want the mark %d", x.r, b, err, x.mark)
		}
	}
}

func TestTwosComplement(t *testing.T) {
	r := api.Rec{Kind: 2, Txn: 1, Page: 1, Had: true, Has: true, Old: -2, New: math.MinInt64}
	b, err := rec.Bytes(r)
	if want := []byte{254, 255, 255, 255, 255, 255, 255, 255, 0, 0, 0, 0, 0, 0, 0, 128}; err != nil || !bytes.Equal(b[24:], want) {
		t.Errorf("%v, %v", b, err)
	}
}

// set lays n into one of the five bounded parts.
func set(r *api.Rec, part, n int) {
	*[]*int{&r.Txn, &r.Page, &r.Prev, &r.Next, &r.Key}[part] = n
}

func TestBoundsOfEachPart(t *testing.T) {
	for _, r := range plain() {
		b := book()[r.Kind-1]
		for part, span := range [][2]int{b.txn, b.page, b.prev, b.next, b.key} {
			for _, n := range span {
				x := r
				set(&x, part, n)
				holds(t, x, true)
			}
			for _, n := range []int{span[0] - 1, span[1] + 1, span[0] - 1<<8, span[1] + 1<<16, span[1] + 1<<32, math.MinInt, math.MaxInt} {
				x := r
				set(&x, part, n)
				holds(t, x, false)
			}
		}
	}
}

func TestAllAtTheirLeastAndMost(t *testing.T) {
	for _, b := range book() {
		for i, n := range []int64{least, most} {
			r := api.Rec{Kind: b.kind, Txn: b.txn[i], Page: b.page[i], Prev: b.prev[i], Next: b.next[i], Key: b.key[i]}
			if b.had != "no" {
				r.Had, r.Old = true, b.old[i]
			}
			if b.has != "no" {
				r.Has, r.New = true, n
			}
			holds(t, r, true)
		}
	}
}

func TestOldAndNew(t *testing.T) {
	numbers := []int64{least, least + 1, -1 << 32, -1, 0, 1, 2, 1 << 30, 1<<30 + 1, 1 << 32, 1<<32 + 1, most}
	for _, r := range plain() {
		for mark := range 4 {
			for _, o := range numbers {
				for _, n := range numbers {
					r.Had, r.Has, r.Old, r.New = mark&1 > 0, mark&2 > 0, o, n
					holds(t, r, good(r))
				}
			}
		}
	}
}

func TestOldAndNewPlainly(t *testing.T) {
	at := api.Rec{Txn: 1, Page: 1, Prev: 1, Key: 1}
	cases := []struct {
		kind     int
		had, has bool
		old, new int64
		ok       bool
	}{
		{kind: 2, ok: false}, // neither Had nor Has
		{kind: 2, had: true, old: least, ok: true},
		{kind: 2, had: true, old: most, ok: true},
		{kind: 2, had: true, ok: true},
		{kind: 2, has: true, new: least, ok: true},
		{kind: 2, has: true, new: most, ok: true},
		{kind: 2, has: true, ok: true},
		{kind: 2, has: true, old: 1, ok: false},
		{kind: 2, had: true, new: 1, ok: false},
		{kind: 2, had: true, new: -1, ok: false},
		{kind: 3, had: true, old: 1, ok: true},
		{kind: 3, had: true, old: 1 << 30, ok: true},
		{kind: 3, had: true, old: 0, ok: false},
		{kind: 3, had: true, old: -1, ok: false},
		{kind: 3, had: true, old: 1<<30 + 1, ok: false},
		{kind: 3, had: true, old: 1<<32 + 1, ok: false},
		{kind: 3, old: 1, ok: false},
		{kind: 3, has: true, ok: false},
		{kind: 3, has: true, old: 1, ok: false},
		{kind: 3, had: true, old: 1, has: true, new: least, ok: true},
		{kind: 3, had: true, old: 1, has: true, new: most, ok: true},
		{kind: 3, had: true, old: 1, has: true, ok: true},
		{kind: 3, had: true, old: 1, new: 1, ok: false},
	}
	for _, x := range cases {
		r := at
		r.Kind, r.Had, r.Has, r.Old, r.New = x.kind, x.had, x.has, x.old, x.new
		holds(t, r, x.ok)
	}
}

func TestKindsThatAreNone(t *testing.T) {
	holds(t, api.Rec{}, false)
	for _, r := range plain() {
		for _, kind := range []int{0, -1, 11, 12, 255, 256, 257, r.Kind + 256, r.Kind - 256, r.Kind + 1<<32, math.MinInt, math.MaxInt} {
			r.Kind = kind
			holds(t, r, false)
		}
	}
}

// One kind's record with another kind: the book says whether it may be.
func TestEachKindAsEveryOther(t *testing.T) {
	for _, r := range plain() {
		for kind := -1; kind <= 12; kind++ {
			r.Kind = kind
			holds(t, r, good(r))
		}
	}
}

func TestLengths(t *testing.T) {
	b := written(plain()[1])
	long := append(bytes.Clone(b), b...)
	if r, err := rec.Read(nil); err != api.ErrShort || r != (api.Rec{}) {
		t.Errorf("Read(nil): %+v, %v", r, err)
	}
	for n := range long {
		r, err := rec.Read(long[:n]) // what lies behind the length is not read
		if n == 40 {
			if err != nil || r != plain()[1] {
				t.Errorf("Read of %d bytes: %+v, %v", n, r, err)
			}
		} else if err != api.ErrShort || r != (api.Rec{}) {
			t.Errorf("Read of %d bytes: %+v, %v; want ErrShort", n, r, err)
		}
	}
	if _, err := rec.Read(make([]byte, 1000)); err != api.ErrShort {
		t.Errorf("another length comes ahead of no record: %v", err)
	}
}

func TestBytesThatAreNoRecords(t *testing.T) {
	unread(t, make([]byte, 40))
	unread(t, bytes.Repeat([]byte{255}, 40))
	for _, r := range plain() {
		b := written(r)
		for _, at := range []int{6, 7, 20, 21, 22, 23} {
			for _, x := range []byte{1, 128, 255} {
				c := bytes.Clone(b)
				c[at] = x
				unread(t, c)
			}
		}
		for bit := 2; bit < 8; bit++ {
			c := bytes.Clone(b)
			c[1] |= 1 << bit
			unread(t, c)
		}
	}
}

// back is what the bytes say, without asking whether it may be.
func back(b []byte) api.Rec {
	n := binary.LittleEndian
	return api.Rec{Kind: int(b[0]), Had: b[1]%2 == 1, Has: b[1]/2%2 == 1, Txn: int(n.Uint16(b[2:])), Page: int(n.Uint16(b[4:])),
		Prev: int(n.Uint32(b[8:])), Next: int(n.Uint32(b[12:])), Key: int(n.Uint32(b[16:])), Old: int64(n.Uint64(b[24:])), New: int64(n.Uint64(b[32:]))}
}

func TestEachByteOfEachRecord(t *testing.T) {
	for _, r := range plain() {
		for at := range 40 {
			for x := range 256 {
				b := written(r)
				b[at] = byte(x)
				want := back(b)
				if !good(want) || !bytes.Equal(written(want), b) {
					unread(t, b)
				} else if got, err := rec.Read(b); err != nil || got != want {
					t.Errorf("Read(%v): %+v, %v; want %+v", b, got, err, want)
				}
			}
		}
	}
}

// chosen is a record whose parts are now and then at an edge, or beyond it.
func chosen(rnd *rand.Rand) api.Rec {
	r := api.Rec{Kind: rnd.Intn(13) - 1, Had: rnd.Intn(2) == 0, Has: rnd.Intn(2) == 0}
	edges := []int{0, 0, 0, 0, 1, 1, 1, 2, 3, 32, 33, 60000, 60001, 1048575, 1048576, 1 << 30, 1<<30 + 1, -1}
	for part := range 5 {
		set(&r, part, edges[rnd.Intn(len(edges))])
	}
	values := []int64{0, 0, 0, 1, 1, 1 << 30, 1<<30 + 1, -1, least, most}
	r.Old, r.New = values[rnd.Intn(len(values))], values[rnd.Intn(len(values))]
	return r
}

func TestManyRecords(t *testing.T) {
	rnd := rand.New(rand.NewSource(3))
	found := map[int]int{}
	for range 1000000 {
		r := chosen(rnd)
		ok := good(r)
		if ok {
			found[r.Kind]++
		}
		holds(t, r, ok)
	}
	for _, b := range book() {
		if found[b.kind] == 0 {
			t.Errorf("no record of kind %d was met", b.kind)
		}
	}
}

func TestMemory(t *testing.T) {
	for _, r := range plain() {
		first, err := rec.Bytes(r)
		second, err2 := rec.Bytes(r)
		if err != nil || err2 != nil {
			t.Fatal(err, err2)
		}
		for i := range first[:cap(first)] {
			first[:cap(first)][i] = 0xee
		}
		if !bytes.Equal(second, written(r)) {
			t.Errorf("%+v: what is written into one answer shows in another one", r)
		}
		room := append(bytes.Clone(second), 1, 2, 3)
		kept := bytes.Clone(room)
		got, err := rec.Read(room[:40])
		if err != nil || !bytes.Equal(room, kept) {
			t.Errorf("Read changed what it was given: %v, %v", room, err)
		}
		clear(room)
		if got != r {
			t.Errorf("Read kept what it was given: %+v", got)
		}
	}
}

func TestSame(t *testing.T) {
	l := append(plain(), api.Rec{}, api.Rec{Kind: -1, Txn: math.MaxInt, Page: math.MinInt, Old: least, New: most})
	for i, a := range l {
		for k, b := range l {
			if got := rec.Same(a, b); got != (i == k) {
				t.Errorf("Same(%+v, %+v): %v", a, b, got)
			}
		}
	}
	changes := []func(r *api.Rec){
		func(r *api.Rec) { r.Kind ^= 1 },
		func(r *api.Rec) { r.Txn ^= 1 << 40 },
		func(r *api.Rec) { r.Page ^= 1 << 40 },
		func(r *api.Rec) { r.Prev ^= 1 << 40 },
		func(r *api.Rec) { r.Next ^= 1 << 40 },
		func(r *api.Rec) { r.Key ^= 1 << 40 },
		func(r *api.Rec) { r.Had = !r.Had },
		func(r *api.Rec) { r.Has = !r.Has },
		func(r *api.Rec) { r.Old ^= 1 << 60 },
		func(r *api.Rec) { r.New ^= 1 << 60 },
	}
	for i, change := range changes {
		for _, r := range l {
			x := r
			change(&x)
			if rec.Same(r, x) || rec.Same(x, r) {
				t.Errorf("Same(%+v, %+v), change %d", r, x, i)
			}
		}
	}
}
