package journal

import (
	"bytes"
	"slices"

	"ropewalk/api"
	"ropewalk/crc"
	"ropewalk/num"
)

const sumSize = 4 // bytes of a sum

// A roll is what a half says: a first frame, of its turn and base, then one a record, then noughts.
type roll struct {
	turn    int // of two halves the one with the greater turn counts; 0 says that there is no roll
	base    []byte
	records [][]byte
	end     int // how many bytes all frames have
}

// first is the first frame.
func (r roll) first() []byte { return frame(slices.Concat(num.Put(r.turn), r.base)) }

// read takes a half's bytes, frame by frame.
func read(b []byte) (r roll) {
	p, n := unframe(b)
	turn, used, e := num.Get(p)
	if e != api.OK {
		goto end
	}
	r.turn, r.base, r.end = turn, bytes.Clone(p[used:]), n
	for {
		p, n = unframe(b[r.end:])
		if n == 0 {
			goto end
		}
		r.records = append(r.records, bytes.Clone(p))
		r.end += n
	}
end:
	return r
}

// frame is bytes with how many there are, and 1, ahead of them, and the sum of all that behind: so no frame begins with a nought.
func frame(b []byte) []byte {
	f := append(num.Put(len(b)+1), b...)
	s := crc.Sum(f)
	return append(f, byte(s>>24), byte(s>>16), byte(s>>8), byte(s))
}

// framed is how long a frame of n bytes is.
func framed(n int) int { return num.Size(n+1) + n + sumSize }

// unframe takes the frame that b begins with: its bytes, and how long it is; 0, if there is none.
func unframe(b []byte) (p []byte, n int) {
	count, head, e := num.Get(b)
	n = framed(count - 1)
	if e != api.OK || count == 0 || n > len(b) {
		return nil, 0
	}
	f, s := b[:n-sumSize], b[n-sumSize:n]
	if !crc.Same(uint32(s[0])<<24|uint32(s[1])<<16|uint32(s[2])<<8|uint32(s[3]), f) {
		return nil, 0
	}
	return f[head:], n
}

// longest is the most bytes whose frame finds room; -1, if it is too little for any.
func longest(room int) int {
	n := room - framed(0)
	if n < 0 {
		return -1
	}
	for framed(n) > room { // by the few bytes that a greater count takes
		n--
	}
	return n
}
