package num_test

import (
	"bytes"
	"math"
	"strconv"
	"strings"
	"testing"

	"ropewalk/api"
	"ropewalk/num"
)

const most = 1 << 40

// spelt is Put by its words: binary digits in groups of seven, 128 added to each byte but the last one.
func spelt(n int) []byte {
	digits := strconv.FormatInt(int64(n), 2)
	digits = strings.Repeat("0", (7-len(digits)%7)%7) + digits
	var b []byte
	for i := 0; i < len(digits); i += 7 {
		g, _ := strconv.ParseUint(digits[i:i+7], 2, 7)
		b = append(b, byte(g)+128)
	}
	b[len(b)-1] -= 128
	return b
}

// some is numbers that fit: all small ones, and those about each power of two.
func some() []int {
	var l []int
	for n := range 20000 {
		l = append(l, n)
	}
	for k := 14; k <= 40; k++ {
		for d := -3; d <= 3; d++ {
			if n := 1<<k + d; n <= most {
				l = append(l, n)
			}
		}
	}
	for n := 1; n <= most; n = n*5/3 + 1 {
		l = append(l, n)
	}
	return l
}

func unfit() []int {
	return []int{-1, -2, -127, -128, -most, most + 1, most + 2, 2 * most, 1 << 42, 1 << 47, 1 << 62, math.MaxInt, math.MinInt, math.MinInt + 1}
}

// gets tells whether Get answers just that.
func gets(t *testing.T, what string, b []byte, n, used int, e api.Errno) {
	t.Helper()
	if k, u, f := num.Get(b); k != n || u != used || f != e {
		t.Errorf("%s: Get(%v) is %d, %d, %d, not %d, %d, %d", what, b, k, u, f, n, used, e)
	}
}

func TestFits(t *testing.T) {
	for _, n := range some() {
		if !num.Fits(n) {
			t.Errorf("P1.1: %d does not fit", n)
		}
	}
	for _, n := range unfit() {
		if num.Fits(n) {
			t.Errorf("P1.1: %d fits", n)
		}
	}
}

func TestPutExamples(t *testing.T) {
	for _, c := range []struct {
		n int
		b []byte
	}{
		{0, []byte{0}},
		{1, []byte{1}},
		{127, []byte{127}},
		{128, []byte{129, 0}},
		{130, []byte{129, 2}},
		{1<<14 - 1, []byte{255, 127}},
		{1 << 14, []byte{129, 128, 0}},
		{1<<35 - 1, []byte{255, 255, 255, 255, 127}},
		{1 << 35, []byte{129, 128, 128, 128, 128, 0}},
		{most - 1, []byte{159, 255, 255, 255, 255, 127}},
		{most, []byte{160, 128, 128, 128, 128, 0}},
	} {
		if b := num.Put(c.n); !bytes.Equal(b, c.b) {
			t.Errorf("P1.1: Put(%d) is %v, not %v", c.n, b, c.b)
		}
	}
}

func TestPutAndSize(t *testing.T) {
	for _, n := range some() {
		want := spelt(n)
		if b := num.Put(n); !bytes.Equal(b, want) {
			t.Errorf("P1.1: Put(%d) is %v, not %v", n, b, want)
		}
		if k := num.Size(n); k != len(want) {
			t.Errorf("P1.1: Size(%d) is %d, not %d", n, k, len(want))
		}
	}
	for _, n := range unfit() {
		if b := num.Put(n); len(b) != 0 {
			t.Errorf("P1.1: Put(%d) is %v", n, b)
		}
		if k := num.Size(n); k != 0 {
			t.Errorf("P1.1: Size(%d) is %d", n, k)
		}
	}
}

func TestGet(t *testing.T) {
	gets(t, "P1.2", []byte{0}, 0, 1, api.OK)
	gets(t, "P1.2", []byte{0, 5}, 0, 1, api.OK)
	gets(t, "P1.2", []byte{0, 128}, 0, 1, api.OK)
	gets(t, "P1.2", []byte{127, 128}, 127, 1, api.OK)
	gets(t, "P1.2", []byte{129, 2}, 130, 2, api.OK)
	gets(t, "P1.2", []byte{129, 128, 0, 7}, 1<<14, 3, api.OK)
	gets(t, "P1.2", []byte{160, 128, 128, 128, 128, 0}, most, 6, api.OK)
}

func TestGetRefuses(t *testing.T) {
	for _, b := range [][]byte{
		nil,
		{},
		{128},                             // it ends too early
		{255, 255},                        // so does this
		{128, 0},                          // 0, not the shortest
		{128, 1},                          // 1, not the shortest
		{128, 129, 2},                     // 130, not the shortest
		{160, 128, 128, 128, 128, 1},      // 2^40 + 1
		{161, 128, 128, 128, 128, 0},      // above, in the first group
		{255, 255, 255, 255, 255, 127},    // 2^42 - 1
		{129, 128, 128, 128, 128, 128, 0}, // 2^42
		{129, 128, 128, 128, 128, 128, 128, 128, 128, 0},           // 2^63
		{130, 128, 128, 128, 128, 128, 128, 128, 128, 0},           // 2^64: 0, if it wraps round
		{130, 128, 128, 128, 128, 128, 128, 128, 128, 5},           // 5, likewise
		{129, 128, 128, 128, 128, 128, 128, 128, 128, 128, 128, 9}, // 9, likewise
		bytes.Repeat([]byte{255}, 1000),
		append(bytes.Repeat([]byte{128}, 1000), 1),
	} {
		gets(t, "P1.2", b, 0, 0, api.ErrBad)
	}
}

// TestGetAll holds all of up to two bytes, and some behind them, against every Put that short.
func TestGetAll(t *testing.T) {
	puts := map[string]int{}
	for n := range 1 << 14 {
		puts[string(spelt(n))] = n
	}
	hold := func(b []byte) {
		t.Helper()
		for used := 1; used <= len(b); used++ {
			if n, ok := puts[string(b[:used])]; ok {
				gets(t, "P1.2", b, n, used, api.OK)
				return
			}
		}
		gets(t, "P1.2", b, 0, 0, api.ErrBad)
	}
	for i := range 256 {
		hold([]byte{byte(i)})
		for k := range 256 {
			hold([]byte{byte(i), byte(k)})
			if i < 128 || i == 128 || k < 128 { // three bytes say no more than these do
				hold([]byte{byte(i), byte(k), 0})
				hold([]byte{byte(i), byte(k), 255})
			}
		}
	}
}

func TestThereAndBack(t *testing.T) {
	for _, n := range some() {
		b := num.Put(n)
		for _, behind := range []string{"", "\x00", "\x01", "\x80", "\xff\xff", "anything"} {
			gets(t, "P1.3", append([]byte(string(b)), behind...), n, len(b), api.OK)
		}
		for k := range len(b) {
			gets(t, "P1.3", b[:k], 0, 0, api.ErrBad)
		}
	}
}

func TestNewMemory(t *testing.T) {
	for _, n := range []int{0, 5, 130, most} {
		a, b := num.Put(n), num.Put(n)
		for i := range a {
			a[i] ^= 255
		}
		_ = append(a, 77)
		if want := spelt(n); !bytes.Equal(b, want) || !bytes.Equal(num.Put(n), want) {
			t.Errorf("P1.3: Put(%d) shares its memory", n)
		}
	}
}

func TestGetChangesNothing(t *testing.T) {
	for _, s := range []string{"\x81\x02\x09\x09", "\x80\x01\x09\x09", "\xff\xff\x09\x09"} {
		room := []byte(s)
		num.Get(room[:2])
		if string(room) != s {
			t.Errorf("P1.3: Get changed what was handed in: %v", room)
		}
	}
}
