// Package cell: numbers in bytes: see ../shared/doc/01-cell.md.
package cell

// most is the document's bound on what one call answers. Fill needs it: a size beyond it may ask for more memory than there is, which no call could survive.
const most = 1<<31 - 1

// Put is b with n in size bytes from at on, the least first. Bytes that b does not have are left out.
func Put(b []byte, at, size int, n uint64) []byte {
	out := grown(b, len(b))
	for i := range width(size) {
		if has(b, at, i) {
			out[at+i] = byte(n)
		}
		n >>= 8
	}
	return out
}

// Get is the number in size bytes from at on, the least first. A byte that b does not have counts as 0.
func Get(b []byte, at, size int) uint64 {
	var n uint64
	for i := width(size) - 1; i >= 0; i-- {
		n <<= 8
		if has(b, at, i) {
			n |= uint64(b[at+i])
		}
	}
	return n
}

// Zero tells whether all bytes are 0.
func Zero(b []byte) bool {
	for _, x := range b {
		if x != 0 {
			return false
		}
	}
	return true
}

// Join is the lists, one behind the other.
func Join(l ...[]byte) []byte {
	var out []byte
	for _, b := range l {
		out = append(out, b...)
	}
	return out
}

// Fill is b, and zeros up to size. A longer b is answered as it is, and so is any b where size is beyond what a call may answer.
func Fill(b []byte, size int) []byte {
	if size > most {
		size = 0
	}
	return grown(b, max(size, len(b)))
}

// width is the nearest to size that a number can have.
func width(size int) int {
	return min(max(size, 1), 8)
}

// has tells whether b has the byte i behind at. The sum at + i is not taken here, since it may wrap round.
func has(b []byte, at, i int) bool {
	return at >= -i && at < len(b)-i
}

// grown is b in new memory, with zeros up to size, which is at least b's length.
func grown(b []byte, size int) []byte {
	out := make([]byte, size)
	copy(out, b)
	return out
}
