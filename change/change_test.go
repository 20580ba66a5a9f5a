package change_test

import (
	"math"
	"math/rand"
	"slices"
	"testing"

	"phoenix/api"
	"phoenix/change"
	"phoenix/page"
	"phoenix/rec"
)

// What the document says of the sizes and the kinds, written out.
const (
	greatest = 1073741824
	lastKey  = 1048575
	perPage  = 20
	maxPages = 32
	maxTxn   = 60000

	kSet   = 2
	kClr   = 3
	kCkEnd = 10
)

// of is the page of these keys, each with a value that tells it.
func of(lsn int, keys ...int) api.Page {
	p := api.Page{LSN: lsn}
	for _, k := range keys {
		p.L = append(p.L, api.Entry{Key: k, Value: valueOf(k)})
	}
	return p
}

func valueOf(key int) int64 { return int64(key)*1000003 - 7 }

// tens is the page of the keys 10, 20, .., n of them.
func tens(lsn, n int) api.Page {
	var l []int
	for i := range n {
		l = append(l, 10*(i+1))
	}
	return of(lsn, l...)
}

// puts is a record of that kind behind which key has v.
func puts(kind, key int, v int64) api.Rec {
	return api.Rec{Kind: kind, Txn: 3, Page: 2, Prev: 1, Key: key, Had: true, Old: 1, Has: true, New: v}
}

// takes is a record of that kind behind which key is not there.
func takes(kind, key int) api.Rec {
	return api.Rec{Kind: kind, Txn: 3, Page: 2, Prev: 1, Key: key, Had: true, Old: 1}
}

func same(a, b api.Page) bool { return a.LSN == b.LSN && slices.Equal(a.L, b.L) }

func clone(p api.Page) api.Page { return api.Page{LSN: p.LSN, L: slices.Clone(p.L)} }

func none(p api.Page) bool { return p.LSN == 0 && len(p.L) == 0 }

// redo holds what Redo answers, and that it leaves p.
func redo(t *testing.T, p api.Page, lsn int, r api.Rec, want api.Page, is bool) {
	t.Helper()
	before := clone(p)
	got, ok, err := change.Redo(p, lsn, r)
	if ok != is || err != nil || !same(got, want) {
		t.Errorf("Redo(%+v, %d, %+v): %+v, %v, %v; want %+v, %v", p, lsn, r, got, ok, err, want, is)
	}
	if !same(p, before) {
		t.Errorf("Redo changed %+v to %+v", before, p)
	}
}

// full holds that Redo answers ErrPage, and nothing beside.
func full(t *testing.T, p api.Page, lsn int, r api.Rec) {
	t.Helper()
	before := clone(p)
	if got, is, err := change.Redo(p, lsn, r); err != api.ErrPage || is || !none(got) {
		t.Errorf("Redo(%+v, %d, %+v): %+v, %v, %v; want ErrPage", p, lsn, r, got, is, err)
	}
	if !same(p, before) {
		t.Errorf("Redo changed %+v to %+v", before, p)
	}
}

// undo holds that Undo answers want.
func undo(t *testing.T, r api.Rec, lsn, last, next int, want api.Rec) {
	t.Helper()
	if got, is := change.Undo(r, lsn, last, next); !is || got != want {
		t.Errorf("Undo(%+v, %d, %d, %d): %+v, %v; want %+v", r, lsn, last, next, got, is, want)
	}
}

// stays holds that Undo answers false, and nothing beside.
func stays(t *testing.T, r api.Rec, lsn, last, next int) {
	t.Helper()
	if got, is := change.Undo(r, lsn, last, next); is || got != (api.Rec{}) {
		t.Errorf("Undo(%+v, %d, %d, %d): %+v, %v; want nothing", r, lsn, last, next, got, is)
	}
}

// others are kinds that change no page, and kinds that are none.
func others() []int {
	l := []int{math.MinInt, -1<<32 + kSet, -kClr, -kSet, -1, 0, 1<<8 + kSet, 1<<16 + kClr, 1<<32 + kSet, 1<<32 + kClr, math.MaxInt}
	for k := range 300 {
		if k != kSet && k != kClr {
			l = append(l, k)
		}
	}
	return l
}

// plain are records of each kind that may be.
func plain() []api.Rec {
	return []api.Rec{
		{Kind: 1, Txn: 1},
		{Kind: 2, Txn: 3, Page: 2, Prev: 1, Key: 10, Had: true, Old: 4, Has: true, New: 5},
		{Kind: 2, Txn: 3, Page: 2, Prev: 1, Key: 10, Has: true, New: 5},
		{Kind: 2, Txn: 3, Page: 2, Prev: 1, Key: 10, Had: true, Old: 4},
		{Kind: 3, Txn: 3, Page: 2, Prev: 1, Next: 1, Key: 10, Had: true, Old: 4, Has: true, New: 5},
		{Kind: 3, Txn: 3, Page: 2, Prev: 1, Next: 1, Key: 10, Had: true, Old: 4},
		{Kind: 4, Txn: 3, Prev: 1},
		{Kind: 5, Txn: 3, Prev: 1},
		{Kind: 6, Txn: 3, Prev: 1},
		{Kind: 7},
		{Kind: 8, Txn: 3, Prev: 5, Next: 4, Key: 2},
		{Kind: 9, Page: 2, Prev: 5},
		{Kind: 10, Next: 3},
	}
}

// A record of each kind, on a page that has its key: a Set and a Clr change it, others leave it.
func TestRedoKinds(t *testing.T) {
	p := of(5, 4, 10, 17)
	kinds := map[int]bool{}
	for _, r := range plain() {
		if err := rec.Check(r); err != nil {
			t.Fatalf("%+v: %v", r, err)
		}
		kinds[r.Kind] = true
		switch {
		case r.Kind != kSet && r.Kind != kClr:
			redo(t, p, 6, r, p, false)
		case r.Has:
			want := of(6, 4, 10, 17)
			want.L[1].Value = 5
			redo(t, p, 6, r, want, true)
		default:
			redo(t, p, 6, r, of(6, 4, 17), true)
		}
	}
	if len(kinds) != kCkEnd {
		t.Errorf("%d kinds", len(kinds))
	}
}

// Other kinds change nothing, whatever else they say, of any page, and meet no lack of room.
func TestRedoOtherKinds(t *testing.T) {
	for _, kind := range others() {
		for _, p := range []api.Page{{}, of(5), of(5, 10), of(5, 4, 17), tens(5, perPage), tens(5, perPage+1)} {
			for _, lsn := range []int{4, 5, 6, greatest, math.MaxInt} {
				redo(t, p, lsn, puts(kind, 10, 77), p, false)
				redo(t, p, lsn, puts(kind, 11, 77), p, false)
				redo(t, p, lsn, takes(kind, 10), p, false)
			}
		}
	}
}

// A page's number just below the record's, at it, above it.
func TestRedoNumbers(t *testing.T) {
	numbers := []int{math.MinInt, math.MinInt + 1, -greatest, -1, 0, 1, 2, 5, 254, 255, 256, 65535, 65536, greatest - 1, greatest, greatest + 1, math.MaxInt32, math.MaxUint32, 1<<32 + 1, math.MaxInt - 1, math.MaxInt}
	for _, kind := range []int{kSet, kClr} {
		for _, at := range numbers {
			for _, lsn := range numbers {
				p := of(at, 10, 20)
				if at >= lsn {
					redo(t, p, lsn, puts(kind, 10, 77), p, false)
					redo(t, p, lsn, puts(kind, 15, 77), p, false)
					redo(t, p, lsn, takes(kind, 10), p, false)
					continue
				}
				redo(t, p, lsn, puts(kind, 10, 77), api.Page{LSN: lsn, L: []api.Entry{{Key: 10, Value: 77}, {Key: 20, Value: valueOf(20)}}}, true)
				redo(t, p, lsn, puts(kind, 15, valueOf(15)), of(lsn, 10, 15, 20), true)
				redo(t, p, lsn, takes(kind, 10), of(lsn, 20), true)
				redo(t, p, lsn, takes(kind, 15), of(lsn, 10, 20), true)
			}
		}
	}
}

// A key that gets a value, in pages of each size: each that is there, and one at each place where it is not.
func TestRedoHas(t *testing.T) {
	for _, kind := range []int{kSet, kClr} {
		for n := range perPage + 1 {
			p := tens(7, n)
			for i, e := range p.L {
				for _, v := range []int64{0, 1, -1, e.Value, math.MinInt64, math.MaxInt64} {
					want := tens(8, n)
					want.L[i].Value = v
					redo(t, p, 8, puts(kind, e.Key, v), want, true)
				}
			}
			for i := range n + 1 {
				for _, key := range []int{10*i + 1, 10*i + 9} {
					r := puts(kind, key, 77)
					if n == perPage {
						full(t, p, 8, r)
						full(t, p, greatest, r)
						redo(t, p, 7, r, p, false) // the page has it already: there's no need of room
						redo(t, p, 6, r, p, false)
						continue
					}
					want := tens(8, n)
					want.L = slices.Insert(want.L, i, api.Entry{Key: key, Value: 77})
					redo(t, p, 8, r, want, true)
					if err := page.Check(want); err != nil {
						t.Errorf("%+v: %v", want, err)
					}
				}
			}
		}
	}
}

// A key that is taken out of pages of each size: each that is there, and ones that are not, which is a change all the same.
func TestRedoNotHas(t *testing.T) {
	for _, kind := range []int{kSet, kClr} {
		for n := range perPage + 1 {
			p := tens(7, n)
			for i, e := range p.L {
				want := tens(8, n)
				want.L = slices.Delete(want.L, i, i+1)
				redo(t, p, 8, takes(kind, e.Key), want, true)
			}
			for i := range n + 1 {
				redo(t, p, 8, takes(kind, 10*i+1), tens(8, n), true)
				redo(t, p, 8, takes(kind, 10*i+9), tens(8, n), true)
			}
		}
	}
}

func TestRedoEdges(t *testing.T) {
	for _, kind := range []int{kSet, kClr} {
		redo(t, api.Page{}, 1, puts(kind, 0, 0), api.Page{LSN: 1, L: []api.Entry{{}}}, true)
		redo(t, api.Page{}, 1, takes(kind, 0), api.Page{LSN: 1}, true)
		redo(t, api.Page{}, 0, puts(kind, 0, 0), api.Page{}, false)
		redo(t, api.Page{L: []api.Entry{}}, greatest, puts(kind, lastKey, math.MinInt64), api.Page{LSN: greatest, L: []api.Entry{{Key: lastKey, Value: math.MinInt64}}}, true)
		redo(t, of(3, 0, lastKey), 9, takes(kind, 0), of(9, lastKey), true)
		redo(t, of(3, 0, lastKey), 9, takes(kind, lastKey), of(9, 0), true)
		redo(t, of(3, 4, 5, 6), 9, takes(kind, 4), of(9, 5, 6), true)
		redo(t, of(3, 4, 5, 6), 9, takes(kind, 6), of(9, 4, 5), true)
		redo(t, of(3, 5), 9, takes(kind, 5), of(9), true) // the only one
		redo(t, of(3, 5), 9, puts(kind, 5, valueOf(5)), of(9, 5), true)
		redo(t, tens(3, perPage-1), 9, puts(kind, 200, valueOf(200)), tens(9, perPage), true) // the last that has room
		redo(t, tens(3, perPage), 9, puts(kind, 200, valueOf(200)), tens(9, perPage), true)
		redo(t, tens(3, perPage), 9, takes(kind, 201), tens(9, perPage), true)
		full(t, tens(3, perPage), 9, puts(kind, 201, 0))
		full(t, tens(3, perPage), 4, puts(kind, 9, 0))
		full(t, tens(0, perPage), 1, puts(kind, 0, 0))
	}
}

// What the key had, and whose the record is, is not asked: the page is as the record says then.
func TestRedoOtherParts(t *testing.T) {
	for _, kind := range []int{kSet, kClr} {
		for _, had := range []bool{false, true} {
			for _, x := range []int{math.MinInt, -1, 0, 1, 2, 5, 6, greatest + 1, math.MaxInt} {
				r := api.Rec{Kind: kind, Txn: x, Page: x, Prev: x, Next: x, Key: 10, Had: had, Old: int64(x), Has: true, New: 77}
				redo(t, of(5, 10, 20), 6, r, api.Page{LSN: 6, L: []api.Entry{{Key: 10, Value: 77}, {Key: 20, Value: valueOf(20)}}}, true)
				redo(t, of(5, 20), 6, r, api.Page{LSN: 6, L: []api.Entry{{Key: 10, Value: 77}, {Key: 20, Value: valueOf(20)}}}, true)
				full(t, of(5, seq(100, perPage)...), 6, r)
				r.Has = false // New says nothing then
				redo(t, of(5, 10, 20), 6, r, of(6, 20), true)
				redo(t, of(5, 20), 6, r, of(6, 20), true)
			}
		}
	}
}

// seq are n numbers from first on.
func seq(first, n int) []int {
	var l []int
	for i := range n {
		l = append(l, first+i)
	}
	return l
}

// Pages and keys that may not be: Redo ends, leaves them, and keeps to its sentence as far as that goes.
func TestRedoWrong(t *testing.T) {
	pages := []api.Page{
		of(-1, 1), of(math.MinInt), of(0, 0), of(0, 4, 9), of(4, 2, 2), of(4, 3, 2), of(4, 5, 1, 2, 3), of(4, 7, 7, 7),
		of(4, -1), of(4, math.MinInt, 3), of(4, 3, math.MaxInt), of(4, lastKey+1), of(4, math.MaxInt, math.MinInt),
		of(4, seq(0, perPage+1)...), of(4, seq(-5, 300)...),
	}
	keys := []int{math.MinInt, -greatest, -1, 0, 1, 2, 3, 5, 7, lastKey, lastKey + 1, 1 << 32, math.MaxInt}
	for _, p := range pages {
		for _, key := range keys {
			for _, lsn := range []int{math.MinInt, -1, 0, 4, 5, greatest + 1, math.MaxInt} {
				for _, kind := range []int{kSet, kClr} {
					if p.LSN >= lsn {
						redo(t, p, lsn, puts(kind, key, 99), p, false)
						redo(t, p, lsn, takes(kind, key), p, false)
						continue
					}
					wrongPut(t, p, lsn, puts(kind, key, 99))
					var l []api.Entry
					for _, e := range p.L {
						if e.Key != key {
							l = append(l, e)
						}
					}
					redo(t, p, lsn, takes(kind, key), api.Page{LSN: lsn, L: l}, true)
				}
			}
		}
	}
}

// wrongPut holds that the key has then its value and the others have theirs, or that there is no room.
func wrongPut(t *testing.T, p api.Page, lsn int, r api.Rec) {
	t.Helper()
	_, there := page.Get(p, r.Key)
	if !there && len(p.L) >= perPage {
		full(t, p, lsn, r)
		return
	}
	before := clone(p)
	q, is, err := change.Redo(p, lsn, r)
	v, has := page.Get(q, r.Key)
	if !is || err != nil || q.LSN != lsn || !has || v != r.New || !same(p, before) {
		t.Errorf("Redo(%+v, %d, %+v): %+v, %v, %v", before, lsn, r, q, is, err)
	}
	if there != (len(q.L) == len(p.L)) || !there && len(q.L) != len(p.L)+1 {
		t.Errorf("Redo(%+v, %d, %+v): %+v", p, lsn, r, q)
	}
	for _, e := range p.L {
		if e.Key != r.Key && !slices.Contains(q.L, e) {
			t.Errorf("Redo(%+v, %d, %+v): %+v has lost %+v", p, lsn, r, q, e)
		}
	}
}

// A Set with Had and without it, with Has and without it.
func TestUndo(t *testing.T) {
	undo(t, api.Rec{Kind: kSet, Txn: 3, Page: 2, Prev: 4, Key: 7, Had: true, Old: 70, Has: true, New: 71}, 9, 11, 5,
		api.Rec{Kind: kClr, Txn: 3, Page: 2, Prev: 11, Next: 5, Key: 7, Had: true, Old: 9, Has: true, New: 70})
	undo(t, api.Rec{Kind: kSet, Txn: 3, Page: 2, Prev: 4, Key: 7, Had: true, Old: 70}, 9, 11, 5,
		api.Rec{Kind: kClr, Txn: 3, Page: 2, Prev: 11, Next: 5, Key: 7, Had: true, Old: 9, Has: true, New: 70})
	undo(t, api.Rec{Kind: kSet, Txn: 3, Page: 2, Prev: 4, Key: 7, Has: true, New: 71}, 9, 11, 5,
		api.Rec{Kind: kClr, Txn: 3, Page: 2, Prev: 11, Next: 5, Key: 7, Had: true, Old: 9})
	undo(t, api.Rec{Kind: kSet, Txn: 3, Page: 2, Key: 7, Had: true, Has: true, New: 71}, 9, 11, 0,
		api.Rec{Kind: kClr, Txn: 3, Page: 2, Prev: 11, Key: 7, Had: true, Old: 9, Has: true}) // it had 0, which is a value
}

// Only a Set is undone: neither other kinds nor kinds that are none, whatever else they say.
func TestUndoOtherKinds(t *testing.T) {
	for _, r := range plain() {
		if r.Kind != kSet {
			stays(t, r, 9, 11, 5)
		}
	}
	for _, kind := range append(others(), kClr) {
		r := puts(kSet, 7, 71)
		if _, is := change.Undo(r, 9, 11, 5); !is {
			t.Fatalf("%+v is not undone", r)
		}
		r.Kind = kind
		stays(t, r, 9, 11, 5)
		stays(t, api.Rec{Kind: kind}, 0, 0, 0)
		stays(t, api.Rec{Kind: kind, Txn: -1, Page: -1, Prev: -1, Next: -1, Key: -1, Old: -1, New: -1}, math.MinInt, math.MaxInt, -1)
	}
}

// Each number at its bounds and beyond, alone: it goes where the document says, and nowhere else.
func TestUndoNumbers(t *testing.T) {
	base := api.Rec{Kind: kSet, Txn: 3, Page: 2, Prev: 4, Key: 7, Had: true, Old: 70, Has: true, New: 71}
	want := api.Rec{Kind: kClr, Txn: 3, Page: 2, Prev: 11, Next: 5, Key: 7, Had: true, Old: 9, Has: true, New: 70}
	for _, x := range []int{math.MinInt, math.MinInt + 1, math.MinInt32 - 1, -greatest, -1, 0, 1, 2, 19, 32, 33, maxTxn, maxTxn + 1, lastKey, lastKey + 1, greatest, greatest + 1, math.MaxInt32, math.MaxUint32, 1<<32 + 1, math.MaxInt - 1, math.MaxInt} {
		r, w := base, want
		w.Old = int64(x)
		undo(t, base, x, 11, 5, w)
		w = want
		w.Prev = x
		undo(t, base, 9, x, 5, w)
		w = want
		w.Next = x
		undo(t, base, 9, 11, x, w)
		r.Txn, w = x, want
		w.Txn = x
		undo(t, r, 9, 11, 5, w)
		r, w = base, want
		r.Page, w.Page = x, x
		undo(t, r, 9, 11, 5, w)
		r, w = base, want
		r.Key, w.Key = x, x
		undo(t, r, 9, 11, 5, w)
		r, w = base, want
		r.Old, w.New = int64(x), int64(x)
		undo(t, r, 9, 11, 5, w)
		r = base // what goes nowhere
		r.Prev, r.Next, r.New = x, x, int64(x)
		undo(t, r, 9, 11, 5, want)
	}
}

// Sets that may not be: Had and Old go as they are.
func TestUndoWrong(t *testing.T) {
	undo(t, api.Rec{Kind: kSet}, 0, 0, 0, api.Rec{Kind: kClr, Had: true})
	undo(t, api.Rec{Kind: kSet, Old: 5, New: 6}, 1, 2, 3, api.Rec{Kind: kClr, Prev: 2, Next: 3, Had: true, Old: 1, New: 5})
	undo(t, api.Rec{Kind: kSet, Txn: -1, Page: 99, Next: 8, Key: -4, Has: true, Old: -5}, -1, -2, -3,
		api.Rec{Kind: kClr, Txn: -1, Page: 99, Prev: -2, Next: -3, Key: -4, Had: true, Old: -1, New: -5})
}

// someSet is a Set that may be, of few keys; what it had is what p has.
func someSet(rnd *rand.Rand, p api.Page, keys int) api.Rec {
	r := api.Rec{Kind: kSet, Txn: 1 + rnd.Intn(maxTxn), Page: 1 + rnd.Intn(maxPages), Prev: rnd.Intn(greatest), Key: rnd.Intn(keys)}
	r.Old, r.Had = page.Get(p, r.Key)
	if r.Has = !r.Had || rnd.Intn(2) == 0; r.Has {
		r.New = int64(rnd.Uint64())
	}
	return r
}

// A Set and the Clr that undoes it: the keys are as they were, the Clr is one that may be, undoes nothing more, and neither is done twice.
func TestThereAndBack(t *testing.T) {
	rnd := rand.New(rand.NewSource(5))
	found := map[error]int{}
	for range 400 {
		p, keys := api.Page{}, 1+rnd.Intn(60)
		for lsn := 1; lsn < 200; lsn += 2 {
			r := someSet(rnd, p, keys)
			q, is, err := change.Redo(p, lsn, r)
			found[err]++
			if err != nil {
				if err != api.ErrPage || is || r.Had || len(p.L) < perPage || !none(q) {
					t.Fatalf("Redo(%+v, %d, %+v): %+v, %v, %v", p, lsn, r, q, is, err)
				}
				continue
			}
			if v, has := page.Get(q, r.Key); !is || q.LSN != lsn || v != r.New || has != r.Has || page.Check(q) != nil {
				t.Fatalf("Redo(%+v, %d, %+v): %+v, %v", p, lsn, r, q, is)
			}
			redo(t, q, lsn, r, q, false)
			c, is := change.Undo(r, lsn, lsn, r.Prev)
			if !is || rec.Check(c) != nil {
				t.Fatalf("Undo(%+v, %d): %+v, %v", r, lsn, c, is)
			}
			back := api.Page{LSN: lsn + 1, L: p.L}
			redo(t, q, lsn+1, c, back, true)
			redo(t, back, lsn+1, c, back, false)
			redo(t, back, lsn, r, back, false)
			stays(t, c, lsn+1, lsn+1, r.Prev)
			if rnd.Intn(4) > 0 {
				p = q
			} else {
				p = back
			}
		}
	}
	if found[nil] < 10000 || found[api.ErrPage] < 1000 {
		t.Errorf("too few of one sort: %v", found)
	}
}

// scribble writes over all of a list's memory, spare room too.
func scribble(l []api.Entry) {
	l = l[:cap(l)]
	for i := range l {
		l[i] = api.Entry{Key: -77, Value: -77}
	}
}

// roomy is p with marked room behind its keys, and all of that memory.
func roomy(p api.Page, room int) (api.Page, []api.Entry) {
	all := slices.Clone(p.L)
	for range room {
		all = append(all, api.Entry{Key: 5, Value: -55})
	}
	return api.Page{LSN: p.LSN, L: all[:len(p.L)]}, all
}

// What is answered shares no memory with what is handed in nor with another answer; what lies behind a list's length is neither read nor written.
func TestMemory(t *testing.T) {
	recs := []api.Rec{puts(kSet, 10, 77), puts(kSet, 15, 77), puts(kSet, 0, 77), puts(kSet, 999, 77), takes(kSet, 10), takes(kSet, 5), takes(kSet, 15), takes(kClr, 50), puts(kClr, 20, 1), puts(1, 10, 77), takes(7, 10)}
	for n := range perPage + 1 {
		for _, r := range recs {
			for _, lsn := range []int{3, 4, 5} {
				p, all := roomy(tens(4, n), 30)
				before := slices.Clone(all)
				a, is, err := change.Redo(p, lsn, r)
				want := clone(a)
				b, _, _ := change.Redo(p, lsn, r)
				scribble(b.L)
				if !same(a, want) {
					t.Errorf("Redo of %d keys, %+v: an answer shows what was written into another", n, r)
				}
				scribble(a.L)
				if !slices.Equal(all, before) {
					t.Errorf("Redo of %d keys, %+v (%v, %v): what was handed in shows what was written into the answer", n, r, is, err)
				}
				c, _, _ := change.Redo(p, lsn, r)
				if !same(c, want) {
					t.Errorf("Redo of %d keys, %+v: %+v; want %+v", n, r, c, want)
				}
				scribble(all)
				if !same(c, want) {
					t.Errorf("Redo of %d keys, %+v: the answer shows what was written into what was handed in", n, r)
				}
			}
		}
	}
}
