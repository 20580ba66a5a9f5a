package lock_test

import (
	"math"
	"math/rand"
	"slices"
	"testing"

	"phoenix/api"
	"phoenix/lock"
)

// What the document says of the modes, written out.
const (
	none      = 0
	shared    = 1
	exclusive = 2
)

// numbers are the least and the greatest, and those around the bounds that the document names.
func numbers() []int {
	l := []int{math.MinInt, math.MinInt + 1, math.MaxInt - 1, math.MaxInt}
	for _, n := range []int{0, 8, 1 << 20, 1 << 32, 1 << 62} {
		l = append(l, n-1, n, n+1, -n-1, -n, 1-n)
	}
	slices.Sort(l)
	return slices.Compact(l)
}

// wrongModes are numbers that are no modes.
func wrongModes() []int {
	l := slices.DeleteFunc(numbers(), func(n int) bool { return n == shared || n == exclusive })
	return append(l, -2, 3, 4, 1<<32+2, 1<<62+2, math.MinInt+2)
}

// hold is a key that a session holds.
type hold struct{ s, key, mode int }

// book is the document's sentences, gone through one by one: the holds as they came.
type book struct{ l []hold }

func (b *book) mode(s, key int) int {
	for _, x := range b.l {
		if x.s == s && x.key == key {
			return x.mode
		}
	}
	return none
}

func (b *book) who(s, key, mode int) []int {
	var l []int
	if mode != shared && mode != exclusive {
		return l
	}
	for _, x := range b.l {
		if x.s != s && x.key == key && (x.mode == exclusive || mode == exclusive) {
			l = append(l, x.s)
		}
	}
	slices.Sort(l)
	return l
}

func (b *book) take(s, key, mode int) bool {
	if mode != shared && mode != exclusive || len(b.who(s, key, mode)) > 0 {
		return false
	}
	for i, x := range b.l {
		if x.s == s && x.key == key {
			b.l[i].mode = max(x.mode, mode)
			return true
		}
	}
	b.l = append(b.l, hold{s, key, mode})
	return true
}

func (b *book) free(s int) {
	b.l = slices.DeleteFunc(b.l, func(x hold) bool { return x.s == s })
}

func (b *book) keys(s int) []int {
	var l []int
	for _, x := range b.l {
		if x.s == s {
			l = append(l, x.key)
		}
	}
	slices.Sort(l)
	return l
}

func (b *book) held() []int {
	var l []int
	for _, x := range b.l {
		if x.mode == exclusive {
			l = append(l, x.key)
		}
	}
	slices.Sort(l)
	return l
}

// tableOf is a table where these are taken in their order, each of which may be.
func tableOf(t *testing.T, l ...hold) *lock.Table {
	t.Helper()
	k := &lock.Table{}
	for _, x := range l {
		holdTake(t, k, x.s, x.key, x.mode, true)
	}
	return k
}

func holdTake(t *testing.T, k *lock.Table, s, key, mode int, want bool) {
	t.Helper()
	if is := k.Take(s, key, mode); is != want {
		t.Errorf("Take(%d, %d, %d): %v; want %v", s, key, mode, is, want)
	}
}

func holdWho(t *testing.T, k *lock.Table, s, key, mode int, want ...int) {
	t.Helper()
	if got := k.Who(s, key, mode); !slices.Equal(got, want) {
		t.Errorf("Who(%d, %d, %d): %v; want %v", s, key, mode, got, want)
	}
}

func holdMode(t *testing.T, k *lock.Table, s, key, want int) {
	t.Helper()
	if got := k.Mode(s, key); got != want {
		t.Errorf("Mode(%d, %d): %d; want %d", s, key, got, want)
	}
}

func holdKeys(t *testing.T, k *lock.Table, s int, want ...int) {
	t.Helper()
	if got := k.Keys(s); !slices.Equal(got, want) {
		t.Errorf("Keys(%d): %v; want %v", s, got, want)
	}
}

func holdHeld(t *testing.T, k *lock.Table, want ...int) {
	t.Helper()
	if got := k.Held(); !slices.Equal(got, want) {
		t.Errorf("Held: %v; want %v", got, want)
	}
}

// holdBook holds all that the table tells of these sessions and keys against the book.
func holdBook(t *testing.T, k *lock.Table, b *book, sessions, keys []int) {
	t.Helper()
	holdHeld(t, k, b.held()...)
	for _, s := range sessions {
		holdKeys(t, k, s, b.keys(s)...)
		for _, key := range keys {
			holdMode(t, k, s, key, b.mode(s, key))
			for _, mode := range []int{shared, exclusive, none, 3, -1} {
				holdWho(t, k, s, key, mode, b.who(s, key, mode)...)
			}
		}
	}
}

// holdAll holds that these holds, and no others, are in the table.
func holdAll(t *testing.T, k *lock.Table, l ...hold) {
	t.Helper()
	sessions, keys := numbers(), []int{4, 5, 6, 7}
	for _, x := range l {
		sessions, keys = append(sessions, x.s), append(keys, x.key)
	}
	holdBook(t, k, &book{l}, sessions, keys)
}

// The modes are the numbers that package api has for them.
func TestModes(t *testing.T) {
	k := tableOf(t, hold{1, 5, api.Shared}, hold{1, 6, api.Exclusive})
	holdMode(t, k, 1, 5, shared)
	holdMode(t, k, 1, 6, exclusive)
}

// Asking a table of nothing, freeing and being refused there, which makes no hold of it.
func TestZeroValue(t *testing.T) {
	for _, s := range numbers() {
		var k lock.Table
		for _, key := range numbers() {
			holdMode(t, &k, s, key, none)
			for _, mode := range []int{shared, exclusive, none, 3, -1} {
				holdWho(t, &k, s, key, mode)
			}
			holdTake(t, &k, s, key, none, false)
		}
		for range 2 {
			holdKeys(t, &k, s)
			holdHeld(t, &k)
			k.Free(s)
			holdMode(t, &k, s, 5, none)
		}
	}
}

// The first key of a zero value, in each mode.
func TestZeroValueTake(t *testing.T) {
	holdAll(t, tableOf(t, hold{0, 5, shared}), hold{0, 5, shared})
	holdAll(t, tableOf(t, hold{0, 5, exclusive}), hold{0, 5, exclusive})
	var k lock.Table
	k.Free(0)
	holdTake(t, &k, 0, 0, exclusive, true)
	holdAll(t, &k, hold{0, 0, exclusive})
}

// A zero value that lies in another object is one too.
func TestZeroValueInside(t *testing.T) {
	var both struct {
		lock.Table
		other lock.Table
	}
	holdTake(t, &both.Table, 1, 5, exclusive, true)
	holdAll(t, &both.other)
	holdTake(t, &both.other, 2, 5, shared, true)
	holdAll(t, &both.Table, hold{1, 5, exclusive})
	holdAll(t, &both.other, hold{2, 5, shared})
}

// A table after each call, worked out by hand.
func TestKnown(t *testing.T) {
	var k lock.Table
	for i, x := range []struct {
		s, key, mode int
		who          []int
		is           bool
		now          int
		keys, held   []int
	}{
		{2, 30, shared, nil, true, shared, []int{30}, nil},
		{0, 30, shared, nil, true, shared, []int{30}, nil},
		{1, 30, exclusive, []int{0, 2}, false, none, nil, nil},
		{0, 30, exclusive, []int{2}, false, shared, []int{30}, nil},
		{0, 20, exclusive, nil, true, exclusive, []int{20, 30}, []int{20}},
		{2, 20, shared, []int{0}, false, none, []int{30}, []int{20}},
		{2, 20, exclusive, []int{0}, false, none, []int{30}, []int{20}},
		{0, 20, shared, nil, true, exclusive, []int{20, 30}, []int{20}},
		{0, 20, exclusive, nil, true, exclusive, []int{20, 30}, []int{20}},
		{2, 10, shared, nil, true, shared, []int{10, 30}, []int{20}},
		{2, 10, exclusive, nil, true, exclusive, []int{10, 30}, []int{10, 20}},
		{2, 10, shared, nil, true, exclusive, []int{10, 30}, []int{10, 20}},
		{1, 40, exclusive, nil, true, exclusive, []int{40}, []int{10, 20, 40}},
		{1, 30, shared, nil, true, shared, []int{30, 40}, []int{10, 20, 40}},
		{0, 30, exclusive, []int{1, 2}, false, shared, []int{20, 30}, []int{10, 20, 40}},
		{3, 20, 9, nil, false, none, nil, []int{10, 20, 40}},
	} {
		holdWho(t, &k, x.s, x.key, x.mode, x.who...)
		holdTake(t, &k, x.s, x.key, x.mode, x.is)
		holdMode(t, &k, x.s, x.key, x.now)
		holdKeys(t, &k, x.s, x.keys...)
		holdHeld(t, &k, x.held...)
		if t.Failed() {
			t.Fatalf("call %d", i)
		}
	}
	k.Free(2)
	holdAll(t, &k, hold{0, 20, exclusive}, hold{0, 30, shared}, hold{1, 30, shared}, hold{1, 40, exclusive})
	k.Free(0)
	holdAll(t, &k, hold{1, 30, shared}, hold{1, 40, exclusive})
	holdTake(t, &k, 1, 30, exclusive, true)
	holdTake(t, &k, 2, 10, shared, true)
	holdAll(t, &k, hold{1, 30, exclusive}, hold{1, 40, exclusive}, hold{2, 10, shared})
}

// Many hold a key Shared; each of them, and others too, is told of all the others, rising, if it wants it Exclusive.
func TestSharedByMany(t *testing.T) {
	sessions := []int{7, 3, 0, 5, 1, 6, 2, 4}
	var k lock.Table
	var want []hold
	for _, s := range sessions {
		holdWho(t, &k, s, 5, shared)
		holdTake(t, &k, s, 5, shared, true)
		want = append(want, hold{s, 5, shared})
		holdAll(t, &k, want...)
	}
	holdWho(t, &k, 8, 5, exclusive, 0, 1, 2, 3, 4, 5, 6, 7)
	holdWho(t, &k, 0, 5, exclusive, 1, 2, 3, 4, 5, 6, 7)
	holdWho(t, &k, 3, 5, exclusive, 0, 1, 2, 4, 5, 6, 7)
	holdWho(t, &k, 8, 6, exclusive)
	for s := range 9 {
		holdTake(t, &k, s, 5, exclusive, false)
	}
	holdAll(t, &k, want...)
}

// One holds a key Exclusive: nobody else comes to it in whatever mode; it stands in nobody's way elsewhere.
func TestExclusiveByOne(t *testing.T) {
	for _, one := range []int{0, 4, 7, -3} {
		k := tableOf(t, hold{one, 5, exclusive})
		for _, s := range numbers() {
			if s == one {
				continue
			}
			for _, mode := range []int{shared, exclusive} {
				holdWho(t, k, s, 5, mode, one)
				holdTake(t, k, s, 5, mode, false)
				holdWho(t, k, s, 4, mode)
				holdWho(t, k, s, 6, mode)
			}
		}
		holdWho(t, k, one, 5, shared)
		holdWho(t, k, one, 5, exclusive)
		holdAll(t, k, hold{one, 5, exclusive})
	}
}

// A key that is taken again in the same mode is held once, as before.
func TestTakenAgain(t *testing.T) {
	for _, mode := range []int{shared, exclusive} {
		k := tableOf(t, hold{1, 5, mode})
		for range 3 {
			holdTake(t, k, 1, 5, mode, true)
			holdAll(t, k, hold{1, 5, mode})
		}
		k.Free(1)
		holdAll(t, k)
	}
}

// Who holds it Shared alone may have it Exclusive; among others, only when they are gone.
func TestSharedThenExclusive(t *testing.T) {
	k := tableOf(t, hold{1, 5, shared})
	holdTake(t, k, 1, 5, exclusive, true)
	holdAll(t, k, hold{1, 5, exclusive})

	k = tableOf(t, hold{1, 5, shared}, hold{2, 5, shared}, hold{3, 5, shared}, hold{3, 6, shared})
	holdTake(t, k, 2, 5, exclusive, false)
	k.Free(1)
	holdWho(t, k, 2, 5, exclusive, 3)
	holdTake(t, k, 2, 5, exclusive, false)
	holdAll(t, k, hold{2, 5, shared}, hold{3, 5, shared}, hold{3, 6, shared})
	k.Free(3)
	holdWho(t, k, 2, 5, exclusive)
	holdTake(t, k, 2, 5, exclusive, true)
	holdAll(t, k, hold{2, 5, exclusive})
	holdTake(t, k, 1, 5, shared, false)
	holdTake(t, k, 3, 5, exclusive, false)
	holdAll(t, k, hold{2, 5, exclusive})
}

// Who holds it Exclusive and takes it Shared holds it Exclusive still, and others are kept off.
func TestExclusiveThenShared(t *testing.T) {
	k := tableOf(t, hold{1, 5, exclusive}, hold{1, 5, shared}, hold{1, 6, shared})
	want := []hold{{1, 5, exclusive}, {1, 6, shared}}
	holdAll(t, k, want...)
	holdTake(t, k, 2, 5, shared, false)
	holdTake(t, k, 2, 5, exclusive, false)
	holdTake(t, k, 1, 5, exclusive, true)
	holdAll(t, k, want...)
}

// One that is refused holds what it held, and so does everybody else.
func TestRefused(t *testing.T) {
	all := []hold{{1, 5, shared}, {1, 6, exclusive}, {2, 5, shared}, {2, 4, exclusive}, {2, 9, shared}, {3, 7, exclusive}}
	k := tableOf(t, all...)
	for _, x := range []hold{{1, 5, exclusive}, {2, 5, exclusive}, {3, 5, exclusive}, {4, 5, exclusive}, {1, 4, shared}, {1, 4, exclusive}, {2, 6, shared}, {2, 6, exclusive}, {3, 6, shared}, {4, 7, shared}, {4, 7, exclusive}, {1, 9, exclusive}} {
		for range 2 {
			holdTake(t, k, x.s, x.key, x.mode, false)
			holdAll(t, k, all...)
		}
	}
	// Nor has it what it was refused once nobody is in the way any more.
	for _, s := range []int{1, 2, 3} {
		k.Free(s)
	}
	holdAll(t, k)
}

// One that was freed holds nothing, is in nobody's way, and takes anew; the others stay.
func TestFree(t *testing.T) {
	k := tableOf(t, hold{1, 5, shared}, hold{1, 6, exclusive}, hold{1, 4, exclusive}, hold{2, 5, shared}, hold{2, 7, exclusive})
	k.Free(1)
	rest := []hold{{2, 5, shared}, {2, 7, exclusive}}
	holdAll(t, k, rest...)
	k.Free(1)
	holdAll(t, k, rest...)
	holdTake(t, k, 1, 6, shared, true)
	holdAll(t, k, append(rest, hold{1, 6, shared})...)
	holdTake(t, k, 2, 6, shared, true)
	holdTake(t, k, 2, 4, exclusive, true)
	k.Free(2)
	holdAll(t, k, hold{1, 6, shared})
	holdTake(t, k, 1, 5, exclusive, true)
	holdTake(t, k, 1, 7, exclusive, true)
	holdAll(t, k, hold{1, 6, shared}, hold{1, 5, exclusive}, hold{1, 7, exclusive})
	k.Free(1)
	holdAll(t, k)
}

// Free of one that holds nothing: nothing comes of it, also where it was refused before.
func TestFreeOfNothing(t *testing.T) {
	all := []hold{{100, 5, shared}, {100, 6, exclusive}, {101, 5, shared}}
	k := tableOf(t, all...)
	for _, s := range numbers() {
		k.Free(s)
		holdTake(t, k, s, 6, shared, false)
		k.Free(s)
	}
	holdAll(t, k, all...)
}

// Held has the keys that are held Exclusive, whoever does, and not those that are held Shared.
func TestHeld(t *testing.T) {
	var k lock.Table
	for i, key := range []int{9, -4, 6, 0, 8, -7, 3} {
		holdTake(t, &k, i%3, key, exclusive, true)
		holdTake(t, &k, i%3, key+100, shared, true)
	}
	holdHeld(t, &k, -7, -4, 0, 3, 6, 8, 9)
	holdTake(t, &k, 0, 109, exclusive, true)
	holdTake(t, &k, 0, 9, shared, true)
	holdTake(t, &k, 1, 9, exclusive, false)
	holdHeld(t, &k, -7, -4, 0, 3, 6, 8, 9, 109)
	k.Free(0)
	holdHeld(t, &k, -7, -4, 6, 8)
}

// A mode that is none: refused, also where nobody is in the way, and nobody is told to be.
func TestWrongModes(t *testing.T) {
	all := []hold{{1, 5, exclusive}, {1, 6, shared}, {2, 6, shared}}
	k := tableOf(t, all...)
	for _, mode := range wrongModes() {
		for _, s := range []int{0, 1, 2, -1, math.MinInt, math.MaxInt} {
			for _, key := range []int{4, 5, 6, 0, math.MinInt, math.MaxInt} {
				holdWho(t, k, s, key, mode)
				holdTake(t, k, s, key, mode, false)
			}
		}
	}
	holdAll(t, k, all...)
	for _, mode := range wrongModes() {
		var fresh lock.Table
		holdTake(t, &fresh, 1, 5, mode, false)
		holdAll(t, &fresh)
	}
}

// Each number as a session and as a key: a number is what it is.
func TestNumbers(t *testing.T) {
	for _, s := range numbers() {
		for _, key := range numbers() {
			for _, mode := range []int{shared, exclusive} {
				k := tableOf(t, hold{s, key, mode})
				holdBook(t, k, &book{[]hold{{s, key, mode}}}, []int{s, 100}, []int{key, 100})
				k.Free(s)
				holdBook(t, k, &book{}, []int{s, 100}, []int{key, 100})
			}
		}
	}
}

// All numbers at once: each as a key of its own, and all as sessions of one key.
func TestNumbersAtOnce(t *testing.T) {
	l := numbers()
	var k lock.Table
	var b book
	for i := range l {
		s := l[len(l)-1-i]
		holdTake(t, &k, s, l[i], exclusive, b.take(s, l[i], exclusive))
		holdTake(t, &k, s, 100, shared, b.take(s, 100, shared))
	}
	holdBook(t, &k, &b, l, append(l, 100))
	holdHeld(t, &k, l...)
	holdWho(t, &k, 100, 100, exclusive, l...)
	holdWho(t, &k, l[0], 100, exclusive, l[1:]...)
	holdWho(t, &k, l[len(l)-1], 100, exclusive, l[:len(l)-1]...)
	for _, s := range l {
		k.Free(s)
		b.free(s)
		holdBook(t, &k, &b, l, append(l, 100))
	}
}

// In whatever order keys are taken, and by whomever, the lists rise.
func TestAnyOrder(t *testing.T) {
	r := rand.New(rand.NewSource(12))
	for range 300 {
		var k lock.Table
		for _, i := range r.Perm(12) {
			holdTake(t, &k, i%4, 10*i, exclusive, true)
			holdTake(t, &k, i, 5, shared, true)
		}
		holdHeld(t, &k, 0, 10, 20, 30, 40, 50, 60, 70, 80, 90, 100, 110)
		holdKeys(t, &k, 1, 5, 10, 50, 90)
		holdKeys(t, &k, 11, 5)
		holdWho(t, &k, 6, 5, exclusive, 0, 1, 2, 3, 4, 5, 7, 8, 9, 10, 11)
	}
}

// One session with many keys.
func TestManyKeys(t *testing.T) {
	var k lock.Table
	var all, odd []int
	for i := range 5000 {
		key := i * 1237 % 5000
		holdTake(t, &k, 3, key, shared+key%2, true)
		all = append(all, i)
		if i%2 == 1 {
			odd = append(odd, i)
		}
	}
	holdKeys(t, &k, 3, all...)
	holdHeld(t, &k, odd...)
	k.Free(3)
	holdKeys(t, &k, 3)
	holdHeld(t, &k)
}

// Long runs of calls, of few sessions and keys and of any, against the book.
func TestRuns(t *testing.T) {
	for seed := range int64(60) {
		r := rand.New(rand.NewSource(seed))
		sessions, keys := []int{0, 1, 2, 3, 4}, []int{0, 1, 2, 3, 4, 5}
		if seed%3 == 0 {
			sessions, keys = []int{math.MinInt, -1, 0, 7, math.MaxInt}, []int{math.MaxInt, 1 << 20, 0, -1, math.MinInt}
		}
		var k lock.Table
		var b book
		for range 300 {
			s, key := sessions[r.Intn(len(sessions))], keys[r.Intn(len(keys))]
			if r.Intn(100) < 12 {
				k.Free(s)
				b.free(s)
			} else {
				mode := []int{shared, shared, shared, exclusive, exclusive, none, 3}[r.Intn(7)]
				holdTake(t, &k, s, key, mode, b.take(s, key, mode))
			}
			holdBook(t, &k, &b, sessions, keys)
		}
		if t.Failed() {
			t.Fatalf("seed %d", seed)
		}
	}
}

// Asking changes nothing.
func TestAsking(t *testing.T) {
	all := []hold{{1, 5, shared}, {2, 5, shared}, {2, 6, exclusive}}
	k := tableOf(t, all...)
	for range 3 {
		holdAll(t, k, all...)
	}
	// Who was only asked of holds nothing that would be in the way.
	holdWho(t, k, 3, 4, exclusive)
	holdTake(t, k, 4, 4, exclusive, true)
	holdAll(t, k, append(all, hold{4, 4, exclusive})...)
}

// Two tables know nothing of each other.
func TestTwoTables(t *testing.T) {
	a, b := tableOf(t, hold{1, 5, exclusive}), tableOf(t, hold{2, 5, exclusive}, hold{1, 6, shared})
	b.Free(1)
	holdTake(t, b, 3, 6, exclusive, true)
	holdAll(t, a, hold{1, 5, exclusive})
	holdAll(t, b, hold{2, 5, exclusive}, hold{3, 6, exclusive})
}

// spoil writes into a list, into its spare room too, and behind it.
func spoil(l []int) {
	for i := range l[:cap(l)] {
		l[:cap(l)][i] = -77
	}
	_ = append(l, -88, -88)
}

// Each list is new memory: what is written into one, or behind it, neither another list nor the table shows.
func TestMemory(t *testing.T) {
	for n := range 20 {
		var k lock.Table
		var want []int
		for i := range n {
			holdTake(t, &k, 100, i, exclusive, true)
			holdTake(t, &k, i, 100, shared, true)
			want = append(want, i)
		}
		for name, ask := range map[string]func() []int{
			"Who":  func() []int { return k.Who(100, 100, exclusive) },
			"Keys": func() []int { return k.Keys(100) },
			"Held": k.Held,
		} {
			a, b := ask(), ask()
			spoil(a)
			if !slices.Equal(b, want) {
				t.Errorf("%s, %d: another list is %v", name, n, b)
			}
			grown := append(b, -1)
			_ = append(ask(), -2)
			if !slices.Equal(grown, append(slices.Clone(want), -1)) {
				t.Errorf("%s, %d: a list that was appended to is %v", name, n, grown)
			}
			spoil(ask())
			if got := ask(); !slices.Equal(got, want) {
				t.Errorf("%s, %d: asked again: %v", name, n, got)
			}
		}
	}
}

// A list that was handed out stays as it is, whatever comes of the table.
func TestListStays(t *testing.T) {
	k := tableOf(t, hold{2, 5, shared}, hold{1, 5, shared}, hold{1, 7, exclusive}, hold{1, 6, exclusive})
	who, keys, held := k.Who(0, 5, exclusive), k.Keys(1), k.Held()
	holdTake(t, k, 0, 5, shared, true)
	holdTake(t, k, 1, 4, exclusive, true)
	k.Free(1)
	holdTake(t, k, 3, 2, exclusive, true)
	if !slices.Equal(who, []int{1, 2}) || !slices.Equal(keys, []int{5, 6, 7}) || !slices.Equal(held, []int{6, 7}) {
		t.Errorf("lists from before: %v, %v, %v", who, keys, held)
	}
}
