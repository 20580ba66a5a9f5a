package place_test

import (
	"math"
	"math/big"
	"math/rand"
	"slices"
	"testing"

	"phoenix/place"
)

// What the document says of the limits, written out.
const (
	maxKey    = 1048576
	maxPages  = 32
	maxBlocks = 64
	fold      = 1 << 32
)

// numbers are the least and the greatest, and those around the bounds that the document names.
func numbers() []int {
	l := []int{math.MinInt, math.MinInt + 1, math.MaxInt - 1, math.MaxInt}
	for _, n := range []int{0, 1 << 8, 1 << 16, maxKey, 1 << 31, fold, 2 * fold, 3 * fold, 5 * fold, 1 << 48, 1 << 62} {
		l = append(l, n-2, n-1, n, n+1, n+2, -n-1, -n, 1-n)
	}
	return append(l, -3, 3, 5, 7, 31, 33, 12345, -12345)
}

// pageOf is the document's sentence, in numbers without bounds.
func pageOf(key, pages int) int {
	n := big.NewInt(int64(key))
	whole := big.NewInt(fold)
	n.Mod(n, whole)
	n.Mul(n, big.NewInt(2654435761))
	n.Mod(n, whole)
	n.Div(n, big.NewInt(65536))
	n.Mod(n, big.NewInt(int64(max(pages, 1))))
	return 1 + int(n.Int64())
}

// keysOf is all keys of each page, of that many pages; number 0 stands empty.
func keysOf(pages int) [][]int {
	l := make([][]int, pages+1)
	for key := range maxKey {
		// Keys are below 2^20: their product stays within 64 bits.
		p := 1 + key*2654435761%fold/65536%pages
		l[p] = append(l[p], key)
	}
	return l
}

func holdPage(t *testing.T, key, pages, want int) {
	t.Helper()
	if got := place.Page(key, pages); got != want {
		t.Errorf("Page(%d, %d): %d; want %d", key, pages, got, want)
	}
}

func holdKeys(t *testing.T, page, pages, n int, want []int) {
	t.Helper()
	if got := place.Keys(page, pages, n); !slices.Equal(got, want) {
		t.Errorf("Keys(%d, %d, %d): %d keys %v ..; want %d keys %v ..", page, pages, n, len(got), got[:min(len(got), 9)], len(want), want[:min(len(want), 9)])
	}
}

// Pages worked out by hand, of keys that may be and of others.
func TestPageKnown(t *testing.T) {
	keys := []int{0, 1, 2, 3, 10, 12345, maxKey - 1, fold/2 - 1, fold / 2, fold - 1, fold, fold + 1, -1, -2, -fold / 2, -fold, math.MinInt, math.MaxInt}
	for _, x := range []struct {
		pages int
		want  []int
	}{
		{1, []int{1, 1, 1, 1, 1, 1, 1, 1, 1, 1, 1, 1, 1, 1, 1, 1, 1, 1}},
		{2, []int{1, 2, 1, 1, 1, 2, 1, 1, 1, 1, 1, 2, 1, 2, 1, 1, 1, 1}},
		{5, []int{1, 4, 1, 5, 4, 5, 4, 1, 4, 3, 1, 4, 3, 1, 4, 1, 1, 3}},
		{7, []int{1, 2, 1, 3, 3, 2, 7, 2, 2, 1, 1, 2, 1, 2, 2, 1, 1, 1}},
		{16, []int{1, 8, 15, 7, 11, 12, 9, 9, 1, 9, 1, 8, 9, 2, 1, 1, 1, 9}},
		{32, []int{1, 24, 15, 7, 11, 12, 25, 9, 1, 9, 1, 24, 9, 18, 1, 1, 1, 9}},
		{65536, []int{1, 40504, 15471, 55975, 11819, 41260, 64729, 57801, 32769, 25033, 1, 40504, 25033, 50066, 32769, 1, 1, 25033}},
	} {
		for i, key := range keys {
			holdPage(t, key, x.pages, x.want[i])
		}
	}
}

// Each number as a key, of each number of pages, and many keys of each number that may be.
func TestPageSentence(t *testing.T) {
	for _, key := range numbers() {
		for _, pages := range numbers() {
			holdPage(t, key, pages, pageOf(key, pages))
		}
		for pages := 1; pages <= maxPages; pages++ {
			holdPage(t, key, pages, pageOf(key, pages))
		}
	}
	r := rand.New(rand.NewSource(9))
	for range 5000 {
		key := int(r.Uint64() >> r.Intn(64))
		pages := 1 + r.Intn(maxPages)
		holdPage(t, key, pages, pageOf(key, pages))
		holdPage(t, -key, pages, pageOf(-key, pages))
	}
}

// A key is where that key is that differs by 2^32 and its multiples, also below 0.
func TestPageModulo(t *testing.T) {
	for _, key := range []int{0, 1, 2, 3, 77, 40503, maxKey - 1, maxKey, fold/2 - 1, fold / 2, fold - 2, fold - 1} {
		for _, pages := range []int{1, 2, 5, 31, maxPages, 1 << 16} {
			want := pageOf(key, pages)
			for _, times := range []int{1, 2, 3, 1000, 1<<31 - 1} {
				holdPage(t, key+times*fold, pages, want)
				holdPage(t, key-times*fold, pages, want)
			}
			holdPage(t, key+math.MinInt, pages, want)
		}
	}
}

// Pages below 1 are one page: every key is on it, and it has every key.
func TestPagesBelowOne(t *testing.T) {
	first := []int{0, 1, 2, 3, 4, 5, 6}
	for _, pages := range []int{1, 0, -1, -2, -5, -maxPages, -fold, 1 - fold, math.MinInt, math.MinInt + 1} {
		for _, key := range numbers() {
			holdPage(t, key, pages, 1)
		}
		holdKeys(t, 1, pages, 7, first)
		for _, none := range []int{math.MinInt, pages, -1, 0, 2, 5, math.MaxInt} {
			if none != 1 {
				holdKeys(t, none, pages, 7, nil)
			}
		}
	}
}

// Of more pages than the 2^16 that keys go to, the upper ones have no keys.
func TestPagesMany(t *testing.T) {
	all := keysOf(1 << 16)
	for _, pages := range []int{1 << 16, 1<<16 + 1, maxKey, fold, fold + 1, math.MaxInt - 1, math.MaxInt} {
		for _, key := range numbers() {
			holdPage(t, key, pages, pageOf(key, 1<<16))
		}
		for _, page := range []int{1, 2, 40504, 64729, 1<<16 - 1, 1 << 16} {
			holdKeys(t, page, pages, math.MaxInt, all[page])
		}
		for _, page := range []int{math.MinInt, 0, 1<<16 + 1, 1<<16 + 2, fold + 1, math.MaxInt} {
			holdKeys(t, page, pages, math.MaxInt, nil)
		}
	}
}

// Log and Sectors of all sizes that may be, and of none.
func TestLogAndSectors(t *testing.T) {
	for pages := range maxPages + 1 {
		if got := place.Log(pages); got != pages+1 {
			t.Errorf("Log(%d): %d", pages, got)
		}
		for blocks := range maxBlocks + 1 {
			if got := place.Sectors(pages, blocks); got != 1+pages+blocks {
				t.Errorf("Sectors(%d, %d): %d", pages, blocks, got)
			}
		}
	}
}

// Numbers without bounds, wherever the sum is one that an int has; elsewhere the call ends.
func TestLogAndSectorsExtremes(t *testing.T) {
	for _, pages := range numbers() {
		want := new(big.Int).Add(big.NewInt(int64(pages)), big.NewInt(1))
		if got := place.Log(pages); want.IsInt64() && int64(got) != want.Int64() {
			t.Errorf("Log(%d): %d", pages, got)
		}
		for _, blocks := range numbers() {
			sum := new(big.Int).Add(want, big.NewInt(int64(blocks)))
			if got := place.Sectors(pages, blocks); sum.IsInt64() && int64(got) != sum.Int64() {
				t.Errorf("Sectors(%d, %d): %d", pages, blocks, got)
			}
		}
	}
}

// Lists worked out by hand.
func TestKeysKnown(t *testing.T) {
	for _, x := range []struct {
		page, pages int
		want        []int
	}{
		{1, 1, []int{0, 1, 2, 3, 4, 5, 6, 7, 8, 9, 10, 11}},
		{1, 5, []int{0, 2, 7, 14, 19, 21, 23, 28, 35, 40, 42, 44}},
		{3, 5, []int{6, 11, 13, 20, 27, 32, 34, 41, 48, 53, 62, 69}},
		{5, 5, []int{3, 5, 12, 17, 24, 26, 33, 38, 45, 47, 54, 59}},
		{1, 32, []int{0, 15, 30, 45, 60, 75, 90, 105, 259, 274, 289, 304}},
		{3, 32, []int{11, 26, 41, 56, 71, 86, 240, 255, 270, 285, 300, 315}},
		{32, 32, []int{139, 154, 169, 184, 199, 214, 229, 244, 383, 398, 413, 428}},
	} {
		for n := range len(x.want) + 1 {
			holdKeys(t, x.page, x.pages, n, x.want[:n])
		}
	}
}

// All keys below MaxKey: each is in the list of its page, in its order, and in no other.
func TestKeysAll(t *testing.T) {
	for _, pages := range []int{1, 2, 3, 5, 13, maxPages} {
		for page, want := range keysOf(pages) {
			if page == 0 {
				want = nil
			}
			for _, n := range []int{len(want), len(want) + 1, maxKey, maxKey + 1, fold + 1, math.MaxInt} {
				holdKeys(t, page, pages, n, want)
			}
			if page > 0 {
				holdKeys(t, page, pages, len(want)-1, want[:len(want)-1])
			}
		}
	}
}

// How many are asked for: none, one, some, and counts below 0, which are none.
func TestKeysCount(t *testing.T) {
	for _, pages := range []int{1, 2, 5, 31, maxPages} {
		for page, all := range keysOf(pages) {
			for _, n := range []int{math.MinInt, math.MinInt + 1, -fold, 5 - fold, -maxKey, -20, -2, -1, 0} {
				if l := place.Keys(page, pages, n); len(l) != 0 {
					t.Errorf("Keys(%d, %d, %d): %v", page, pages, n, l)
				}
			}
			if page == 0 {
				continue
			}
			for _, n := range []int{1, 2, 3, 19, 20, 21, 100, 5000} {
				holdKeys(t, page, pages, n, all[:n])
			}
		}
	}
}

// A page that is none has no keys, however many are asked for; nor has one that is a page's number and 2^32.
func TestKeysOfNone(t *testing.T) {
	for _, pages := range []int{1, 2, 5, maxPages} {
		for _, page := range []int{math.MinInt, math.MinInt + 1, -fold, 1 - fold, -pages, -1, 0, pages + 1, pages + 2, 1 << 16, fold, fold + 1, math.MaxInt - 1, math.MaxInt} {
			for _, n := range []int{math.MinInt, -1, 0, 1, 20, math.MaxInt} {
				holdKeys(t, page, pages, n, nil)
			}
		}
	}
}

// Each list is new memory: what is written into one, or behind it, no other one shows.
func TestKeysMemory(t *testing.T) {
	for _, n := range []int{0, 1, 2, 3, 5, 9, 100, 1000} {
		want := keysOf(5)[2][:n]
		a, b := place.Keys(2, 5, n), place.Keys(2, 5, n)
		for i := range a[:cap(a)] {
			a[:cap(a)][i] = -7
		}
		_ = append(a, -8, -9)
		if !slices.Equal(b, want) {
			t.Errorf("n %d: another list is %v", n, b)
		}
		holdKeys(t, 2, 5, n, want)
		grown := append(b, -1)
		_ = append(place.Keys(2, 5, n), -2)
		if !slices.Equal(grown, append(slices.Clone(want), -1)) {
			t.Errorf("n %d: a list that was appended to is %v", n, grown)
		}
	}
}
