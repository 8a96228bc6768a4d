package utf_test

import (
	"math"
	"slices"
	"strings"
	"testing"
	"unicode/utf8"
	"unsafe"

	"ropewalk/api"
	"ropewalk/utf"
)

// spelt is Valid by its words.
func spelt(s string) bool { return utf8.ValidString(s) && strings.IndexByte(s, 0) < 0 }

// good is texts that are Valid: none, those at each edge of a form's length, and long ones.
func good() []string {
	l := []string{"", "a", "aé", "aé€😀b", "\n", "\r\n", "\x01", "\x7f", "\u0080", "\u07ff", "\u0800", "\ud7ff", "\ue000", "\ufeff", "\ufffd", "\ufffe", "\uffff", "\U00010000", "\U0010fffe", "\U0010ffff", "e\u0301", "👩\u200d🚀"}
	for _, s := range slices.Clone(l) {
		l = append(l, "x"+s, s+"x", s+s, s+"€"+s)
	}
	return append(l, strings.Join(l, ""), strings.Repeat("a", 2000), strings.Repeat("😀", 2001), strings.Repeat("aé€😀", 5000))
}

// bad is texts that are not: the wrong piece alone, ahead, behind and in the middle.
func bad() []string {
	pieces := []string{
		"\x00", "\x80", "\xbf", "\xff", "\xfe", "\xf8\x88\x80\x80\x80", "\xfc\x84\x80\x80\x80\x80", // no first bytes
		"\xc3", "\xe2\x82", "\xe2", "\xf0\x9f\x98", "\xf0\x9f", "\xf0", // cut off
		"\xc3a", "\xc3\xc3\xa9", "\xe2a\x82", "\xe2\x82a", "\xf0\x9f\x98a", "\xc3\xff", "\xc3\x7f", "\xc3\xc0", "\xc3\x00", // other bytes where further ones stand
		"\xc0\x80", "\xc1\xbf", "\xe0\x80\x80", "\xe0\x9f\xbf", "\xf0\x80\x80\x80", "\xf0\x8f\xbf\xbf", // longer than need be
		"\xed\xa0\x80", "\xed\xaf\xbf", "\xed\xb0\x80", "\xed\xbf\xbf", "\xed\xa0\xbd\xed\xb8\x80", // surrogates
		"\xf4\x90\x80\x80", "\xf5\x80\x80\x80", "\xf7\xbf\xbf\xbf", // too great
		"\xa9\xc3", "é\x80", "€\xbf", "😀\x80",
	}
	var l []string
	for _, p := range pieces {
		l = append(l, p, "a"+p, p+"a", "é"+p+"😀", strings.Repeat("€", 1000)+p)
	}
	return l
}

// asked is texts that are Valid, with all that the calls ask of a place in them.
func asked(t *testing.T, ask func(s string, l []rune)) {
	t.Helper()
	for _, s := range good() {
		if !spelt(s) {
			t.Fatalf("%q is none for this test", s)
		}
		ask(s, []rune(s))
	}
}

// places is every place of a short text, some of a long one, and those beside.
func places(n int) []int {
	l := []int{math.MinInt, -1 << 32, -2, -1, n + 1, n + 2, n + 1<<32, math.MaxInt}
	for i := 0; i <= n; i++ {
		if i < 9 || n-i < 9 || i%997 == 0 {
			l = append(l, i)
		}
	}
	return l
}

func TestExamples(t *testing.T) {
	if n, e := utf.Count("aé"); n != 2 || e != api.OK {
		t.Errorf("P3.1: Count of aé is %d, %d", n, e)
	}
	if s, e := utf.Slice("aé€😀b", 1, 4); s != "é€😀" || e != api.OK {
		t.Errorf("P3.1: Slice is %q, %d", s, e)
	}
	if n, e := utf.Offset("aé€😀b", 3); n != 6 || e != api.OK {
		t.Errorf("P3.1: Offset is %d, %d", n, e)
	}
	if l, e := utf.Points("aé€😀b"); !slices.Equal(l, []int{97, 233, 8364, 128512, 98}) || e != api.OK {
		t.Errorf("P3.1: Points is %v, %d", l, e)
	}
	if s, e := utf.Text([]int{97, 233, 8364, 128512, 98}); s != "aé€😀b" || e != api.OK {
		t.Errorf("P3.1: Text is %q, %d", s, e)
	}
}

func TestValid(t *testing.T) {
	for _, s := range good() {
		if !utf.Valid(s) {
			t.Errorf("P3.1: Valid(%q) is false", s)
		}
	}
	for _, s := range bad() {
		if utf.Valid(s) {
			t.Errorf("P3.1: Valid(%q) is true", s)
		}
	}
}

// TestValidOfAllShortOnes asks all of up to three bytes.
func TestValidOfAllShortOnes(t *testing.T) {
	b := make([]byte, 3)
	for i := range 1 << 24 {
		b[0], b[1], b[2] = byte(i>>16), byte(i>>8), byte(i)
		for n := 3; n > 0 && (n == 3 || b[n] == 0); n-- { // shorter ones once only
			s := string(b[:n])
			if utf.Valid(s) != spelt(s) {
				t.Fatalf("P3.1: Valid(%q) is %v", s, !spelt(s))
			}
		}
	}
}

// TestValidOfFourBytes asks all first and second bytes, with edges behind them.
func TestValidOfFourBytes(t *testing.T) {
	edges := []byte{0, 1, 'a', 0x7F, 0x80, 0x81, 0x8F, 0x90, 0x9F, 0xA0, 0xBE, 0xBF, 0xC0, 0xC2, 0xE0, 0xED, 0xF0, 0xF4, 0xFF}
	for i := range 1 << 16 {
		for _, c := range edges {
			for _, d := range edges {
				s := string([]byte{byte(i >> 8), byte(i), c, d})
				if utf.Valid(s) != spelt(s) {
					t.Fatalf("P3.1: Valid(%q) is %v", s, !spelt(s))
				}
			}
		}
	}
}

func TestCountAndPoints(t *testing.T) {
	asked(t, func(s string, want []rune) {
		if n, e := utf.Count(s); n != len(want) || e != api.OK {
			t.Errorf("P3.1: Count(%q) is %d, %d", s, n, e)
		}
		l, e := utf.Points(s)
		if e != api.OK || !slices.EqualFunc(l, want, func(a int, b rune) bool { return a == int(b) }) {
			t.Errorf("P3.1: Points(%q) is %v, %d", s, l, e)
		}
	})
}

func TestOffset(t *testing.T) {
	asked(t, func(s string, want []rune) {
		for _, n := range places(len(want)) {
			offset, e := utf.Offset(s, n)
			if n < 0 || n > len(want) {
				if offset != 0 || e != api.ErrArg {
					t.Errorf("P3.1: Offset(%q, %d) is %d, %d", s, n, offset, e)
				}
			} else if offset != len(string(want[:n])) || e != api.OK {
				t.Errorf("P3.1: Offset(%q, %d) is %d, %d", s, n, offset, e)
			}
		}
	})
}

func TestSlice(t *testing.T) {
	asked(t, func(s string, want []rune) {
		for _, from := range places(len(want)) {
			for _, to := range places(len(want)) {
				piece, e := utf.Slice(s, from, to)
				if from < 0 || to < from || len(want) < to {
					if piece != "" || e != api.ErrArg {
						t.Errorf("P3.1: Slice(%q, %d, %d) is %q, %d", s, from, to, piece, e)
					}
				} else if piece != string(want[from:to]) || e != api.OK {
					t.Errorf("P3.1: Slice(%q, %d, %d) is %q, %d", s, from, to, piece, e)
				}
			}
		}
	})
}

// TestBad holds that ErrBad is told of a text that is not Valid, be the places right or wrong, and nothing beside it.
func TestBad(t *testing.T) {
	for _, s := range bad() {
		if n, e := utf.Count(s); n != 0 || e != api.ErrBad {
			t.Errorf("P3.1: Count(%q) is %d, %d", s, n, e)
		}
		if l, e := utf.Points(s); len(l) != 0 || e != api.ErrBad {
			t.Errorf("P3.1: Points(%q) is %v, %d", s, l, e)
		}
		for _, n := range places(1) {
			if offset, e := utf.Offset(s, n); offset != 0 || e != api.ErrBad {
				t.Errorf("P3.1: Offset(%q, %d) is %d, %d", s, n, offset, e)
			}
			for _, to := range places(1) {
				if piece, e := utf.Slice(s, n, to); piece != "" || e != api.ErrBad {
					t.Errorf("P3.1: Slice(%q, %d, %d) is %q, %d", s, n, to, piece, e)
				}
			}
		}
	}
}

func TestTextOfNone(t *testing.T) {
	for _, l := range [][]int{nil, {}} {
		if s, e := utf.Text(l); s != "" || e != api.OK {
			t.Errorf("P3.1: Text(%v) is %q, %d", l, s, e)
		}
	}
}

// TestTextOfEach asks every number that is a code point, and more at both ends.
func TestTextOfEach(t *testing.T) {
	for p := -70000; p < 0x120000; p++ {
		s, e := utf.Text([]int{p})
		if p <= 0 || !utf8.ValidRune(rune(p)) {
			if s != "" || e != api.ErrBad {
				t.Fatalf("P3.1: Text of %#x is %q, %d", p, s, e)
			}
			continue
		}
		if s != string(rune(p)) || e != api.OK {
			t.Fatalf("P3.1: Text of %#x is %q, %d", p, s, e)
		}
		if l, f := utf.Points(s); f != api.OK || !slices.Equal(l, []int{p}) {
			t.Fatalf("P3.2: Points of Text of %#x is %v, %d", p, l, f)
		}
	}
}

func TestTextOfNoPoints(t *testing.T) {
	for _, p := range []int{0, -1, math.MinInt, math.MinInt32, 0xD800, 0xDBFF, 0xDC00, 0xDFFF, 0x110000, math.MaxInt32, 1 << 32, 1<<32 + 'a', 1<<40 + 'a', -1<<32 + 'a', math.MaxInt} {
		for _, l := range [][]int{{p}, {'a', p}, {p, 'a'}, {'a', p, 'b'}, {0x20AC, 0x1F600, p}} {
			if s, e := utf.Text(l); s != "" || e != api.ErrBad {
				t.Errorf("P3.1: Text(%v) is %q, %d", l, s, e)
			}
		}
	}
}

func TestThereAndBack(t *testing.T) {
	asked(t, func(s string, _ []rune) {
		l, e := utf.Points(s)
		back, f := utf.Text(l)
		if back != s || e != api.OK || f != api.OK {
			t.Errorf("P3.2: Text(Points(%q)) is %q, %d, %d", s, back, e, f)
		}
	})
}

// TestSlicesAndOffsets holds the pieces of a text against the whole.
func TestSlicesAndOffsets(t *testing.T) {
	s := "aé€😀b\u0301"
	n, _ := utf.Count(s)
	for i := range n + 1 {
		head, _ := utf.Slice(s, 0, i)
		tail, _ := utf.Slice(s, i, n)
		offset, _ := utf.Offset(s, i)
		if head+tail != s || len(head) != offset {
			t.Errorf("P3.1: cut at %d: %q, %q, %d", i, head, tail, offset)
		}
	}
}

func TestNewMemory(t *testing.T) {
	s := "aé€😀b"
	for i := range 5 {
		for k := i + 1; k <= 5; k++ {
			piece, _ := utf.Slice(s, i, k)
			offset, _ := utf.Offset(s, i)
			if unsafe.StringData(piece) == unsafe.StringData(s[offset:]) {
				t.Errorf("P3.2: Slice(s, %d, %d) is a piece of s", i, k)
			}
		}
	}
	one, _ := utf.Points(s)
	two, _ := utf.Points(s)
	clear(one)
	if back, _ := utf.Text(two); back != s {
		t.Errorf("P3.2: two answers of Points share: %v", two)
	}
	again, _ := utf.Points(s)
	if !slices.Equal(again, two) {
		t.Errorf("P3.2: Points is %v behind a change of an answer", again)
	}
}

func TestChangesNothing(t *testing.T) {
	room := []int{'a', 0xE9, 0x20AC, 7, 0}
	s, _ := utf.Text(room[:3])
	if _, e := utf.Text(room); e != api.ErrBad {
		t.Errorf("P3.1: Text(%v) is %d", room, e)
	}
	if !slices.Equal(room, []int{'a', 0xE9, 0x20AC, 7, 0}) {
		t.Errorf("P3.1: what was handed in is changed: %v", room)
	}
	clear(room)
	if s != "aé€" {
		t.Errorf("P3.2: Text shares what was handed in: %q", s)
	}
}
