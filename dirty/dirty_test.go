package dirty_test

import (
	"cmp"
	"math"
	"math/rand"
	"slices"
	"testing"

	"phoenix/api"
	"phoenix/dirty"
)

// numbers are the least and the greatest, and those around the bounds that the document names.
func numbers() []int {
	l := []int{math.MinInt, math.MinInt + 1, math.MaxInt - 1, math.MaxInt}
	for _, n := range []int{0, 32, 1 << 20, 1 << 30, 1 << 31, 1 << 32, 1 << 62} {
		l = append(l, n-1, n, n+1, -n-1, -n, 1-n)
	}
	slices.Sort(l)
	return slices.Compact(l)
}

// list is the pages and their records, given one after the other.
func list(numbers ...int) []api.Dirty {
	var l []api.Dirty
	for i := 0; i < len(numbers); i += 2 {
		l = append(l, api.Dirty{Page: numbers[i], From: numbers[i+1]})
	}
	return l
}

// tableOf is a table to which these are added in their order.
func tableOf(l []api.Dirty) *dirty.Table {
	d := &dirty.Table{}
	for _, x := range l {
		d.Add(x.Page, x.From)
	}
	return d
}

// book is the document's sentences, gone through one by one: the pages as they came.
type book struct{ l []api.Dirty }

func (b *book) place(page int) int {
	return slices.IndexFunc(b.l, func(x api.Dirty) bool { return x.Page == page })
}

func (b *book) add(page, from int) {
	if b.place(page) < 0 {
		b.l = append(b.l, api.Dirty{Page: page, From: from})
	}
}

func (b *book) drop(page int) bool {
	i := b.place(page)
	if i < 0 {
		return false
	}
	b.l = append(b.l[:i], b.l[i+1:]...)
	return true
}

func (b *book) all() []api.Dirty {
	l := slices.Clone(b.l)
	slices.SortFunc(l, func(x, y api.Dirty) int { return cmp.Compare(x.Page, y.Page) })
	return l
}

func (b *book) least() int {
	if len(b.l) == 0 {
		return 0
	}
	l := slices.Clone(b.l)
	slices.SortFunc(l, func(x, y api.Dirty) int { return cmp.Compare(x.From, y.From) })
	return l[0].From
}

func holdFrom(t *testing.T, d *dirty.Table, page, want int, wantIs bool) {
	t.Helper()
	if from, is := d.From(page); from != want || is != wantIs {
		t.Errorf("From(%d): %d, %v; want %d, %v", page, from, is, want, wantIs)
	}
}

func holdDrop(t *testing.T, d *dirty.Table, page int, want bool) {
	t.Helper()
	if is := d.Drop(page); is != want {
		t.Errorf("Drop(%d): %v; want %v", page, is, want)
	}
}

// holdTable holds All and Least, and From of each page that is there.
func holdTable(t *testing.T, d *dirty.Table, least int, want []api.Dirty) {
	t.Helper()
	if got := d.All(); !slices.Equal(got, want) {
		t.Errorf("All: %v; want %v", got, want)
	}
	if got := d.Least(); got != least {
		t.Errorf("Least: %d; want %d", got, least)
	}
	for _, x := range want {
		holdFrom(t, d, x.Page, x.From, true)
	}
}

// holdBook holds the table against the book, and From of pages that are there and of others.
func holdBook(t *testing.T, d *dirty.Table, b *book, pages []int) {
	t.Helper()
	holdTable(t, d, b.least(), b.all())
	for _, page := range pages {
		if b.place(page) < 0 {
			holdFrom(t, d, page, 0, false)
		}
	}
}

// Asking a table of nothing, which makes no page of it.
func TestZeroValue(t *testing.T) {
	for _, page := range numbers() {
		var d dirty.Table
		holdTable(t, &d, 0, nil)
		holdFrom(t, &d, page, 0, false)
		holdDrop(t, &d, page, false)
		holdDrop(t, &d, page, false)
		holdTable(t, &d, 0, nil)
		holdFrom(t, &d, page, 0, false)
	}
}

// A zero value that lies in another object is one too.
func TestZeroValueInside(t *testing.T) {
	var both struct {
		dirty.Table
		other dirty.Table
	}
	both.Add(3, 30)
	holdTable(t, &both.Table, 30, list(3, 30))
	holdTable(t, &both.other, 0, nil)
	both.other.Add(4, 40)
	holdTable(t, &both.Table, 30, list(3, 30))
	holdTable(t, &both.other, 40, list(4, 40))
}

// A table after each call, worked out by hand.
func TestKnown(t *testing.T) {
	var d dirty.Table
	d.Add(5, 50)
	holdTable(t, &d, 50, list(5, 50))
	d.Add(2, 70)
	holdTable(t, &d, 50, list(2, 70, 5, 50))
	d.Add(9, 60)
	holdTable(t, &d, 50, list(2, 70, 5, 50, 9, 60))
	d.Add(3, 40)
	holdTable(t, &d, 40, list(2, 70, 3, 40, 5, 50, 9, 60))
	holdDrop(t, &d, 3, true)
	holdTable(t, &d, 50, list(2, 70, 5, 50, 9, 60))
	holdDrop(t, &d, 5, true)
	holdTable(t, &d, 60, list(2, 70, 9, 60))
	d.Add(5, 80)
	holdTable(t, &d, 60, list(2, 70, 5, 80, 9, 60))
	holdDrop(t, &d, 9, true)
	holdTable(t, &d, 70, list(2, 70, 5, 80))
	holdDrop(t, &d, 2, true)
	holdTable(t, &d, 80, list(5, 80))
	holdDrop(t, &d, 5, true)
	holdTable(t, &d, 0, nil)
	d.Add(1, 90)
	holdTable(t, &d, 90, list(1, 90))
}

// In whatever order pages are added, and dropped, All rises by pages.
func TestAnyOrder(t *testing.T) {
	want := list(1, 40, 2, 30, 3, 60, 4, 10, 5, 50, 6, 20)
	r := rand.New(rand.NewSource(10))
	for range 720 {
		mixed := slices.Clone(want)
		r.Shuffle(len(mixed), func(i, j int) { mixed[i], mixed[j] = mixed[j], mixed[i] })
		d := tableOf(mixed)
		holdTable(t, d, 10, want)
		gone := 1 + r.Intn(6)
		holdDrop(t, d, gone, true)
		rest := slices.DeleteFunc(slices.Clone(want), func(x api.Dirty) bool { return x.Page == gone })
		least := 10
		if gone == 4 {
			least = 20
		}
		holdTable(t, d, least, rest)
	}
}

// All of the pages that a store may have.
func TestEveryPage(t *testing.T) {
	var d dirty.Table
	var want []api.Dirty
	for page := 1; page <= 32; page++ {
		want = append(want, api.Dirty{Page: page, From: page * 7 % 33})
		d.Add(33-page, (33-page)*7%33)
	}
	holdTable(t, &d, 1, want)
	for i, x := range want {
		holdDrop(t, &d, x.Page, true)
		holdFrom(t, &d, x.Page, 0, false)
		b := book{want[i+1:]}
		holdTable(t, &d, b.least(), want[i+1:])
	}
}

// A page that is there stays as it is, whatever it is added with.
func TestAddedAgain(t *testing.T) {
	for _, first := range numbers() {
		for _, again := range numbers() {
			d := tableOf(list(4, first))
			d.Add(4, again)
			holdTable(t, d, first, list(4, first))
			d.Add(4, first)
			holdTable(t, d, first, list(4, first))
			// Once is enough to drop it.
			holdDrop(t, d, 4, true)
			holdDrop(t, d, 4, false)
			holdTable(t, d, 0, nil)
		}
	}
}

// A page that is added again changes neither the least nor the others.
func TestAddedAgainAmongOthers(t *testing.T) {
	d := tableOf(list(2, 70, 5, 50, 9, 60))
	for _, page := range []int{2, 5, 9} {
		for _, from := range numbers() {
			d.Add(page, from)
			holdTable(t, d, 50, list(2, 70, 5, 50, 9, 60))
		}
	}
}

// A page that was dropped and added anew has the new number, be it less, the same or greater.
func TestAddedAnew(t *testing.T) {
	for _, first := range numbers() {
		for _, anew := range numbers() {
			d := tableOf(list(4, first))
			holdDrop(t, d, 4, true)
			holdFrom(t, d, 4, 0, false)
			d.Add(4, anew)
			holdTable(t, d, anew, list(4, anew))
			d.Add(4, first)
			holdTable(t, d, anew, list(4, anew))
		}
	}
}

// A page that is not there: nothing is answered of it, and nothing comes of asking or of dropping it.
func TestNotThere(t *testing.T) {
	for _, page := range numbers() {
		d := tableOf(list(1000, 70, 1001, 50, -1000, 60))
		for range 2 {
			holdFrom(t, d, page, 0, false)
			holdDrop(t, d, page, false)
			holdTable(t, d, 50, list(-1000, 60, 1000, 70, 1001, 50))
		}
		// Not even one that was there.
		d.Add(page, 10)
		holdDrop(t, d, page, true)
		for range 2 {
			holdFrom(t, d, page, 0, false)
			holdDrop(t, d, page, false)
			holdTable(t, d, 50, list(-1000, 60, 1000, 70, 1001, 50))
		}
	}
}

// The least one goes, one of two that have the same number, and the last one.
func TestLeastGoes(t *testing.T) {
	for _, last := range []int{7, 8} {
		d := tableOf(list(8, 20, 3, 30, 7, 20, 6, 40))
		holdTable(t, d, 20, list(3, 30, 6, 40, 7, 20, 8, 20))
		holdDrop(t, d, 15-last, true)
		holdTable(t, d, 20, list(3, 30, 6, 40, last, 20))
		holdDrop(t, d, last, true)
		holdTable(t, d, 30, list(3, 30, 6, 40))
		holdDrop(t, d, 3, true)
		holdTable(t, d, 40, list(6, 40))
		holdDrop(t, d, 6, true)
		holdTable(t, d, 0, nil)
	}
}

// One that is not the least goes: the least stays.
func TestOtherGoes(t *testing.T) {
	d := tableOf(list(1, 90, 2, 10, 3, 80, 4, 10))
	for _, page := range []int{1, 3, 4} {
		holdDrop(t, d, page, true)
		if got := d.Least(); got != 10 {
			t.Errorf("Least without page %d: %d", page, got)
		}
	}
}

// Each number as a page and as a record: a number is what it is.
func TestNumbers(t *testing.T) {
	for _, page := range numbers() {
		for _, from := range numbers() {
			d := tableOf(list(page, from))
			holdTable(t, d, from, list(page, from))
			holdDrop(t, d, page, true)
			holdTable(t, d, 0, nil)
			holdFrom(t, d, page, 0, false)
		}
	}
}

// Each number as a record beside each other one: the lesser is the least.
func TestLeastOfTwo(t *testing.T) {
	for _, a := range numbers() {
		for _, b := range numbers() {
			holdTable(t, tableOf(list(1, a, 2, b)), min(a, b), list(1, a, 2, b))
			holdTable(t, tableOf(list(2, a, 1, b)), min(a, b), list(1, b, 2, a))
		}
	}
}

// All numbers as pages at once, forth and back.
func TestNumbersAtOnce(t *testing.T) {
	l := numbers()
	var want []api.Dirty
	for i, page := range l {
		want = append(want, api.Dirty{Page: page, From: l[len(l)-1-i]})
	}
	holdTable(t, tableOf(want), math.MinInt, want)
	back := slices.Clone(want)
	slices.Reverse(back)
	d := tableOf(back)
	holdTable(t, d, math.MinInt, want)
	b := book{slices.Clone(want)}
	for _, page := range back {
		holdDrop(t, d, page.Page, b.drop(page.Page))
		holdBook(t, d, &b, l)
	}
}

// Long runs of calls, of few pages and of any, against the book.
func TestRuns(t *testing.T) {
	wide := numbers()
	for seed := range int64(60) {
		r := rand.New(rand.NewSource(seed))
		pages := []int{1, 2, 3, 4, 5, 6, 7, 8}
		if seed%3 == 0 {
			pages = wide
		}
		var d dirty.Table
		var b book
		for range 300 {
			page := pages[r.Intn(len(pages))]
			if r.Intn(100) < 55 {
				from := r.Intn(12)
				if seed%2 == 0 {
					from = wide[r.Intn(len(wide))]
				}
				d.Add(page, from)
				b.add(page, from)
			} else {
				holdDrop(t, &d, page, b.drop(page))
			}
			holdBook(t, &d, &b, pages)
		}
		if t.Failed() {
			t.Fatalf("seed %d", seed)
		}
	}
}

// Two tables know nothing of each other.
func TestTwoTables(t *testing.T) {
	a, b := tableOf(list(1, 10, 2, 20)), tableOf(list(2, 5))
	holdDrop(t, b, 1, false)
	holdDrop(t, b, 2, true)
	b.Add(3, 1)
	holdTable(t, a, 10, list(1, 10, 2, 20))
	holdTable(t, b, 1, list(3, 1))
}

// Each list is new memory: what is written into one, or behind it, neither another list nor the table shows.
func TestMemory(t *testing.T) {
	for n := range 34 {
		var want []api.Dirty
		for page := 1; page <= n; page++ {
			want = append(want, api.Dirty{Page: page, From: page + 100})
		}
		least := 0
		if n > 0 {
			least = 101
		}
		d := tableOf(want)
		a, b := d.All(), d.All()
		for i := range a[:cap(a)] {
			a[:cap(a)][i] = api.Dirty{Page: -7, From: -8}
		}
		_ = append(a, list(-9, -9)...)
		if !slices.Equal(b, want) {
			t.Errorf("%d pages: another list is %v", n, b)
		}
		holdTable(t, d, least, want)
		grown := append(b, list(-1, -1)...)
		_ = append(d.All(), list(-2, -2)...)
		if !slices.Equal(grown, append(slices.Clone(want), list(-1, -1)...)) {
			t.Errorf("%d pages: a list that was appended to is %v", n, grown)
		}
	}
}

// A list that was handed out stays as it is, whatever comes of the table.
func TestListStays(t *testing.T) {
	d := tableOf(list(2, 70, 5, 50, 9, 60))
	before := d.All()
	d.Add(1, 10)
	d.Add(7, 90)
	holdDrop(t, d, 2, true)
	holdDrop(t, d, 5, true)
	d.Add(2, 95)
	if want := list(2, 70, 5, 50, 9, 60); !slices.Equal(before, want) {
		t.Errorf("a list from before: %v; want %v", before, want)
	}
	holdTable(t, d, 10, list(1, 10, 2, 95, 7, 90, 9, 60))
}
