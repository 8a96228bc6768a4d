package crc_test

import (
	"bytes"
	"hash/crc32"
	"math"
	"math/bits"
	"slices"
	"strings"
	"testing"

	"ropewalk/crc"
)

// spelt is Sum by its words: the digits of all bytes, each byte's least first, the first 32 of them turned over, divided by the polynomial; what is left is turned over and about.
func spelt(b []byte) uint32 {
	var digits []uint64
	for _, c := range b {
		for k := range 8 {
			digits = append(digits, uint64(c>>k&1))
		}
	}
	digits = append(digits, make([]uint64, 32)...)
	for i := range 32 {
		digits[i] ^= 1
	}
	const polynomial = 1<<32 | 0x04C11DB7
	var left uint64
	for _, d := range digits {
		left = left<<1 | d
		if left>>32 != 0 {
			left ^= polynomial
		}
	}
	return ^bits.Reverse32(uint32(left))
}

// mixed is n bytes without a plain order, others for another seed.
func mixed(n int, seed uint32) []byte {
	b := make([]byte, n)
	for i := range b {
		seed = seed*1664525 + 1013904223
		b[i] = byte(seed >> 24)
	}
	return b
}

// some is texts: of no bytes, of one kind of byte, mixed ones, those of all bytes.
func some() [][]byte {
	l := [][]byte{nil, {}, []byte("123456789"), []byte(strings.Repeat("ropewalk ", 9))}
	for i := range 256 {
		l = append(l, []byte{byte(i)}, []byte{0, byte(i)}, []byte{byte(i), 0}, []byte{255, byte(i)})
	}
	for n := 1; n < 80; n++ {
		l = append(l, make([]byte, n), bytes.Repeat([]byte{255}, n), mixed(n, uint32(n)))
	}
	return append(l, mixed(1000, 1), mixed(4097, 2))
}

// sums is sums that More may go on from: every number is the sum of some bytes.
func sums() []uint32 {
	l := []uint32{0, 1, 0x80000000, 0x7FFFFFFF, math.MaxUint32 - 1, math.MaxUint32, 0x04C11DB7, 0xEDB88320, 0xCBF43926, 0xDEBB20E3, 0x2144DF1C}
	for k := range 32 {
		l = append(l, 1<<k, ^uint32(1<<k))
	}
	return l
}

func TestSumExamples(t *testing.T) {
	for _, c := range []struct {
		text string
		sum  uint32
	}{
		{"", 0},
		{"\x00", 0xD202EF8D},
		{"\x00\x00\x00\x00", 0x2144DF1C},
		{"\xff\xff\xff\xff", 0xFFFFFFFF},
		{"a", 0xE8B7BE43},
		{"abc", 0x352441C2},
		{"123456789", 0xCBF43926},
		{"The quick brown fox jumps over the lazy dog", 0x414FA339},
	} {
		if sum := crc.Sum([]byte(c.text)); sum != c.sum {
			t.Errorf("P2.1: Sum(%q) is %#x, not %#x", c.text, sum, c.sum)
		}
	}
}

func TestSum(t *testing.T) {
	for _, b := range some() {
		if sum, want := crc.Sum(b), spelt(b); sum != want {
			t.Errorf("P2.1: Sum(%v) is %#x, not %#x", b, sum, want)
		}
	}
	for _, n := range []int{60000, 1 << 16, 1 << 20} {
		b := mixed(n, uint32(n))
		if sum, want := crc.Sum(b), crc32.ChecksumIEEE(b); sum != want {
			t.Errorf("P2.1: Sum of %d bytes is %#x, not %#x", n, sum, want)
		}
	}
}

func TestSumOfNone(t *testing.T) {
	for _, l := range [][][]byte{nil, {}, {nil}, {{}}, {nil, {}, nil}} {
		if sum := crc.Sum(l...); sum != 0 {
			t.Errorf("P2.1: Sum(%v) is %#x, not 0", l, sum)
		}
	}
}

func TestMore(t *testing.T) {
	for _, b := range some() {
		for _, first := range [][]byte{nil, {0}, {255}, []byte("123456789"), mixed(70, 5)} {
			want := spelt(slices.Concat(first, b))
			if sum := crc.More(spelt(first), b); sum != want {
				t.Errorf("P2.1: More(%#x, %v) is %#x, not %#x", spelt(first), b, sum, want)
			}
		}
	}
}

func TestMoreOfAnySum(t *testing.T) {
	for _, sum := range sums() {
		for _, b := range [][]byte{nil, {}} {
			if more := crc.More(sum, b); more != sum {
				t.Errorf("P2.1: More(%#x, %v) is %#x", sum, b, more)
			}
		}
		for _, b := range [][]byte{{0}, {1}, {255}, make([]byte, 4), []byte("123456789"), mixed(33, sum)} {
			if more, want := crc.More(sum, b), crc32.Update(sum, crc32.IEEETable, b); more != want {
				t.Errorf("P2.1: More(%#x, %v) is %#x, not %#x", sum, b, more, want)
			}
		}
	}
}

func TestSame(t *testing.T) {
	for _, b := range some() {
		sum := spelt(b)
		if !crc.Same(sum, b) {
			t.Errorf("P2.1: Same(%#x, %v) is false", sum, b)
		}
		wrong := []uint32{sum + 1, sum - 1, ^sum, sum ^ 0xFFFF0000, sum ^ 0xFFFF}
		for k := range 32 {
			wrong = append(wrong, sum^1<<k)
		}
		for _, w := range wrong {
			if crc.Same(w, b) {
				t.Errorf("P2.1: Same(%#x, %v) is true", w, b)
			}
		}
	}
}

// TestSameOfOtherBytes turns over all runs of up to nine digits, and all pairs of digits: none of these may pass the sum, nor may noughts put in or left out.
func TestSameOfOtherBytes(t *testing.T) {
	for _, b := range [][]byte{make([]byte, 6), []byte("123456789"), mixed(12, 9)} {
		sum, n := spelt(b), 8*len(b)
		for i := range n {
			run, pair := slices.Clone(b), slices.Clone(b)
			pair[i/8] ^= 1 << (i % 8)
			for k := i; k < n; k++ {
				run[k/8] ^= 1 << (k % 8)
				if k-i < 9 && crc.Same(sum, run) {
					t.Errorf("P2.1: Same(%#x, %v) is true", sum, run)
				}
				other := slices.Clone(pair)
				other[k/8] ^= 1 << (k % 8)
				if k > i && crc.Same(sum, other) {
					t.Errorf("P2.1: Same(%#x, %v) is true", sum, other)
				}
			}
		}
		for _, other := range [][]byte{nil, b[1:], b[:len(b)-1], append([]byte{0}, b...), append(slices.Clone(b), 0)} {
			if crc.Same(sum, other) {
				t.Errorf("P2.1: Same(%#x, %v) is true", sum, other)
			}
		}
	}
}

func TestCuts(t *testing.T) {
	for _, b := range [][]byte{[]byte("123456789"), make([]byte, 9), mixed(40, 3)} {
		want := spelt(b)
		for i := range len(b) + 1 {
			for k := i; k <= len(b); k++ {
				if sum := crc.Sum(b[:i], b[i:k], nil, b[k:]); sum != want {
					t.Errorf("P2.2: Sum cut at %d and %d is %#x, not %#x", i, k, sum, want)
				}
				if sum := crc.More(crc.More(crc.Sum(b[:i]), b[i:k]), b[k:]); sum != want {
					t.Errorf("P2.2: More cut at %d and %d is %#x, not %#x", i, k, sum, want)
				}
			}
		}
	}
}

func TestCutsOfOneByte(t *testing.T) {
	b := mixed(3000, 4)
	var l [][]byte
	for i := range b {
		l = append(l, b[i:i+1], nil)
	}
	if sum, want := crc.Sum(l...), spelt(b); sum != want {
		t.Errorf("P2.2: Sum of single bytes is %#x, not %#x", sum, want)
	}
}

// TestOrder holds that they are one behind the other, not only that all of them count.
func TestOrder(t *testing.T) {
	a, b := []byte("rope"), []byte("walk")
	if sum, want := crc.Sum(b, a), spelt([]byte("walkrope")); sum != want {
		t.Errorf("P2.2: Sum(b, a) is %#x, not %#x", sum, want)
	}
	if crc.Sum(a, b) == crc.Sum(b, a) {
		t.Error("P2.2: Sum does not hang on the order")
	}
}

func TestChangesNothing(t *testing.T) {
	room := []byte("123456789, and spare room")
	whole, list := slices.Clone(room), [][]byte{room[:4], room[4:9], nil}
	for range 2 { // the second time round as the first one: nothing is kept
		if sum := crc.Sum(list[:2]...); sum != 0xCBF43926 {
			t.Errorf("P2.1: Sum is %#x", sum)
		}
		if sum := crc.More(0, room[:9]); sum != 0xCBF43926 {
			t.Errorf("P2.1: More is %#x", sum)
		}
		if !crc.Same(0xCBF43926, room[:9]) {
			t.Error("P2.1: Same is false")
		}
	}
	if !bytes.Equal(room, whole) || len(list[0]) != 4 || len(list[1]) != 5 || list[2] != nil {
		t.Errorf("P2.1: what was handed in is changed: %q", room)
	}
}
