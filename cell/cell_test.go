package cell_test

import (
	"bytes"
	"math"
	"slices"
	"testing"

	"phoenix/cell"
)

// numbers has bytes that differ from each other, so that a byte at a wrong place shows.
func numbers() []uint64 {
	return []uint64{0, 1, 0xff, 0x100, 0xabcd, 0x0102030405060708, 0xf1e2d3c4b5a69788, 1 << 63, math.MaxUint64}
}

func sizes() []int {
	return []int{math.MinInt, math.MinInt + 1, -9, -1, 0, 1, 2, 3, 4, 5, 6, 7, 8, 9, 16, 255, 1 << 40, math.MaxInt}
}

// places lie around a list of at most 12 bytes, and at both ends of int, where a sum would wrap round.
func places() []int {
	l := []int{-1 << 40, 1 << 31, 1 << 40}
	for i := range 10 {
		l = append(l, math.MinInt+i, math.MaxInt-i)
	}
	for at := -10; at <= 14; at++ {
		l = append(l, at)
	}
	return l
}

// bytesOf is n in as many bytes as the chapter gives it, the least first, told by division.
func bytesOf(n uint64, size int) []byte {
	if size < 1 {
		size = 1
	}
	if size > 8 {
		size = 8
	}
	var l []byte
	for len(l) < size {
		l = append(l, byte(n%256))
		n /= 256
	}
	return l
}

// putWanted and getWanted go over the bytes of b, and look what of the number lies on each.
func putWanted(b []byte, at, size int, n uint64) []byte {
	want := bytes.Clone(b)
	for i, x := range bytesOf(n, size) {
		for j := range want {
			if j-i == at {
				want[j] = x
			}
		}
	}
	return want
}

func getWanted(b []byte, at, size int) uint64 {
	var n, weight uint64 = 0, 1
	for i := range bytesOf(0, size) {
		for j, x := range b {
			if j-i == at {
				n += uint64(x) * weight
			}
		}
		weight *= 256
	}
	return n
}

func lists() [][]byte {
	return [][]byte{nil, {}, {0x5a}, {1, 2, 3, 4}, {0xf1, 0xf2, 0xf3, 0xf4, 0xf5, 0xf6, 0xf7, 0xf8}, {9, 8, 7, 6, 5, 4, 3, 2, 1, 0x80, 0xff, 0x7f}}
}

func TestPutPlain(t *testing.T) {
	b := []byte{1, 2, 3, 4, 5, 6, 7, 8, 9, 10}
	for _, x := range []struct {
		at, size int
		n        uint64
		want     []byte
	}{
		{0, 1, 0x1ff, []byte{0xff, 2, 3, 4, 5, 6, 7, 8, 9, 10}},
		{2, 2, 0xabcd, []byte{1, 2, 0xcd, 0xab, 5, 6, 7, 8, 9, 10}},
		{1, 8, 0x1122334455667788, []byte{1, 0x88, 0x77, 0x66, 0x55, 0x44, 0x33, 0x22, 0x11, 10}},
		{2, 3, 0, []byte{1, 2, 0, 0, 0, 6, 7, 8, 9, 10}},
		{2, 3, 0xaabbccdd, []byte{1, 2, 0xdd, 0xcc, 0xbb, 6, 7, 8, 9, 10}},
		{9, 4, 0xaabbccdd, []byte{1, 2, 3, 4, 5, 6, 7, 8, 9, 0xdd}},
		{-2, 4, 0xaabbccdd, []byte{0xbb, 0xaa, 3, 4, 5, 6, 7, 8, 9, 10}},
		{3, 0, 0xaabb, []byte{1, 2, 3, 0xbb, 5, 6, 7, 8, 9, 10}},
		{3, -7, 0xaabb, []byte{1, 2, 3, 0xbb, 5, 6, 7, 8, 9, 10}},
		{0, 9, 0x1122334455667788, []byte{0x88, 0x77, 0x66, 0x55, 0x44, 0x33, 0x22, 0x11, 9, 10}},
		{10, 8, 0xaabb, b},
		{-8, 8, math.MaxUint64, b},
	} {
		if got := cell.Put(b, x.at, x.size, x.n); !bytes.Equal(got, x.want) {
			t.Errorf("Put(b, %d, %d, %#x) = %v, want %v", x.at, x.size, x.n, got, x.want)
		}
	}
}

func TestGetPlain(t *testing.T) {
	b := []byte{1, 2, 3, 4, 5, 6, 7, 8, 9, 0xfe}
	for _, x := range []struct {
		at, size int
		want     uint64
	}{
		{0, 1, 1}, {9, 1, 0xfe}, {2, 2, 0x0403}, {0, 8, 0x0807060504030201}, {2, 8, 0xfe09080706050403},
		{8, 4, 0xfe09}, {-1, 2, 0x0100}, {-7, 8, 0x01 << 56}, {3, 0, 4}, {3, -1, 4}, {1, 9, 0x0908070605040302},
		{10, 8, 0}, {-8, 8, 0}, {math.MaxInt, 8, 0}, {math.MinInt, 8, 0},
	} {
		if got := cell.Get(b, x.at, x.size); got != x.want {
			t.Errorf("Get(b, %d, %d) = %#x, want %#x", x.at, x.size, got, x.want)
		}
	}
	if cell.Get(nil, 0, 8) != 0 || cell.Get([]byte{}, 0, 1) != 0 {
		t.Error("Get of nothing is 0")
	}
}

func TestPutAndGetEverywhere(t *testing.T) {
	for _, b := range lists() {
		for _, at := range places() {
			for _, size := range sizes() {
				if got, want := cell.Get(b, at, size), getWanted(b, at, size); got != want {
					t.Errorf("Get(%v, %d, %d) = %#x, want %#x", b, at, size, got, want)
				}
				for _, n := range numbers() {
					if got, want := cell.Put(b, at, size, n), putWanted(b, at, size, n); !bytes.Equal(got, want) {
						t.Errorf("Put(%v, %d, %d, %#x) = %v, want %v", b, at, size, n, got, want)
					}
				}
			}
		}
	}
}

func TestGetIsPutBack(t *testing.T) {
	b := bytes.Repeat([]byte{0xee}, 20)
	for size := 1; size <= 8; size++ {
		for at := 0; at+size <= len(b); at++ {
			for _, n := range numbers() {
				kept := n << (64 - 8*size) >> (64 - 8*size)
				if got := cell.Get(cell.Put(b, at, size, n), at, size); got != kept {
					t.Errorf("at %d, %d bytes: %#x came back as %#x", at, size, n, got)
				}
			}
		}
	}
}

func TestZero(t *testing.T) {
	for _, n := range []int{0, 1, 2, 7, 8, 9, 256, 1000} {
		b := make([]byte, n)
		if !cell.Zero(b) {
			t.Errorf("%d zeros", n)
		}
		for i := range b {
			for _, x := range []byte{1, 0x80, 0xff} {
				b[i] = x
				if cell.Zero(b) {
					t.Errorf("%d bytes, %d at %d", n, x, i)
				}
			}
			b[i] = 0
		}
	}
	if !cell.Zero(nil) {
		t.Error("nil is the empty list")
	}
	if !cell.Zero([]byte{0, 0, 1}[:2]) {
		t.Error("what lies behind the length was read")
	}
}

func TestJoin(t *testing.T) {
	for _, x := range []struct {
		l    [][]byte
		want []byte
	}{
		{nil, nil},
		{[][]byte{}, nil},
		{[][]byte{nil}, nil},
		{[][]byte{nil, {}, nil}, nil},
		{[][]byte{{1, 2}}, []byte{1, 2}},
		{[][]byte{{1, 2}, {3}}, []byte{1, 2, 3}},
		{[][]byte{{3}, {1, 2}}, []byte{3, 1, 2}},
		{[][]byte{nil, {0}, {}, {0, 5}, nil}, []byte{0, 0, 5}},
	} {
		if got := cell.Join(x.l...); !bytes.Equal(got, x.want) {
			t.Errorf("Join(%v) = %v, want %v", x.l, got, x.want)
		}
	}
	if len(cell.Join()) != 0 {
		t.Error("nothing joined is nothing")
	}
	b := []byte{7, 8}
	if got := cell.Join(b, b, b[:1]); !bytes.Equal(got, []byte{7, 8, 7, 8, 7}) {
		t.Errorf("one list more than once: %v", got)
	}
	many := make([][]byte, 3000)
	var want []byte
	for i := range many {
		many[i] = bytes.Repeat([]byte{byte(i)}, i%5)
		want = append(want, many[i]...)
	}
	if !bytes.Equal(cell.Join(many...), want) {
		t.Error("many lists")
	}
}

func TestFill(t *testing.T) {
	for _, b := range lists() {
		for _, size := range []int{math.MinInt, -1, 0, 1, 2, 3, 4, 5, 8, 9, 12, 13, 256, 5000} {
			want := bytes.Clone(b)
			for len(want) < size {
				want = append(want, 0)
			}
			if got := cell.Fill(b, size); !bytes.Equal(got, want) {
				t.Errorf("Fill(%v, %d) = %v, want %v", b, size, got, want)
			}
		}
	}
}

// TestFillBeyond: beyond the document's bound nothing is promised of the answer, but that there is one.
func TestFillBeyond(t *testing.T) {
	for _, b := range lists() {
		for _, size := range []int{1 << 31, 1 << 40, 1 << 47, 1 << 62, math.MaxInt} {
			if got := cell.Fill(b, size); !bytes.HasPrefix(got, b) {
				t.Errorf("Fill(%v, %d) begins otherwise", b, size)
			}
		}
	}
}

// answers are those of all calls that hand out a list, of one b.
func answers(b []byte) [][]byte {
	return [][]byte{
		cell.Put(b, 0, 2, 0xabcd), cell.Put(b, len(b), 8, 1), cell.Put(b, -8, 8, 1), cell.Put(b, math.MaxInt, 0, 1),
		cell.Join(b), cell.Join(nil, b), cell.Join(b, nil), cell.Join(b, b), cell.Join(),
		cell.Fill(b, -1), cell.Fill(b, 0), cell.Fill(b, len(b)), cell.Fill(b, len(b)+3), cell.Fill(b, math.MaxInt),
	}
}

// scribble writes over all of a list, and into the room behind it.
func scribble(l []byte) {
	l = l[:cap(l)]
	for i := range l {
		l[i] ^= 0xff
	}
	_ = append(l, 1, 2, 3)
}

func TestAnswersAreNewMemory(t *testing.T) {
	for _, n := range []int{0, 1, 4, 8, 256} {
		whole := bytes.Repeat([]byte{0x33}, n+16)
		before := bytes.Clone(whole)
		given := whole[:n]
		all := answers(given)
		for i := range all {
			var others [][]byte
			for _, l := range all {
				others = append(others, bytes.Clone(l))
			}
			scribble(all[i])
			for j := range all {
				if j != i && !bytes.Equal(all[j], others[j]) {
					t.Errorf("%d bytes: answer %d shows what was written into answer %d", n, j, i)
				}
			}
			if !bytes.Equal(whole, before) {
				t.Fatalf("%d bytes: what was handed in shows what was written into answer %d", n, i)
			}
		}
	}
}

func TestArgumentsAreLeftAlone(t *testing.T) {
	whole := []byte{1, 2, 3, 4, 0xe1, 0xe2, 0xe3, 0xe4, 0xe5, 0xe6, 0xe7, 0xe8}
	before := bytes.Clone(whole)
	b := whole[:4]
	answers(b)
	cell.Put(b, 2, 8, math.MaxUint64)
	cell.Put(b, 4, 8, math.MaxUint64)
	cell.Fill(b, 8)
	cell.Join(b, []byte{9, 9})
	cell.Zero(b)
	if !bytes.Equal(whole, before) {
		t.Errorf("what was handed in is %v", whole)
	}
	if cell.Get(b, 4, 8) != 0 || cell.Get(b, 3, 8) != 4 {
		t.Error("Get read behind the length")
	}
	if !bytes.Equal(cell.Fill(b, 8), []byte{1, 2, 3, 4, 0, 0, 0, 0}) {
		t.Error("Fill read behind the length")
	}
	if got := cell.Put(b, 3, 4, 0x01020304); !bytes.Equal(got, []byte{1, 2, 3, 4}) {
		t.Errorf("Put went behind the length: %v", got)
	}
}

func TestJoinLeavesItsListAlone(t *testing.T) {
	one, two := []byte{1, 2}, []byte{3}
	l := [][]byte{one, two, nil}
	got := cell.Join(l...)
	scribble(got)
	want := [][]byte{{1, 2}, {3}, nil}
	if !slices.EqualFunc(l, want, bytes.Equal) {
		t.Errorf("the list handed in is %v", l)
	}
	got = cell.Join(l...)
	one[0], l[1] = 77, []byte{88}
	if !bytes.Equal(got, []byte{1, 2, 3}) {
		t.Errorf("an answer shows what was written into what had been handed in: %v", got)
	}
}
