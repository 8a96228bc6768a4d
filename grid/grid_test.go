package grid_test

import (
	"fmt"
	"math"
	"strings"
	"testing"
	"unicode/utf8"

	"ropewalk/api"
	"ropewalk/apply"
	"ropewalk/grid"
	"ropewalk/op"
)

const far = 1 << 20 // how far a step goes at most

// at is a point, which may be none.
func at(column, line int) complex128 { return complex(float64(column), float64(line)) }

// one tells whether two are bit for bit the same, so that a -0 is no 0.
func one(a, b complex128) bool {
	bits := func(c complex128) [2]uint64 { return [2]uint64{math.Float64bits(real(c)), math.Float64bits(imag(c))} }
	return bits(a) == bits(b)
}

// short is a text in words, or the beginning of a long one.
func short(text string) string { return fmt.Sprintf("%.60q", text) }

// widths is what the lines of a text are, by the chapter's words: cut behind each code point 10.
func widths(text string) (l []int) {
	for _, line := range strings.SplitAfter(text, "\n") {
		l = append(l, utf8.RuneCountInString(strings.TrimSuffix(line, "\n")))
	}
	return l
}

// pointOf is a place's point, by the lines ahead of it.
func pointOf(text string, place int) (complex128, bool) {
	for line, w := range widths(text) {
		if place >= 0 && place <= w {
			return at(place, line), true
		}
		place -= w + 1
	}
	return 0, false
}

// placeOf is a point's place, by the lines ahead of it.
func placeOf(text string, column, line int) (int, bool) {
	l := widths(text)
	if line < 0 || line >= len(l) || column < 0 || column > l[line] {
		return 0, false
	}
	place := column
	for _, w := range l[:line] {
		place += w + 1
	}
	return place, true
}

// stepOf is a step from a point, in whole numbers.
func stepOf(text string, column, line, right, down int) complex128 {
	l := widths(text)
	line = max(0, min(line+down, len(l)-1))
	return at(max(0, min(column+right, l[line])), line)
}

// texts is all of up to n pieces.
func texts(n int, pieces ...string) []string {
	l, last := []string{""}, []string{""}
	for range n {
		var longer []string
		for _, ahead := range last {
			for _, p := range pieces {
				longer = append(longer, ahead+p)
			}
		}
		l, last = append(l, longer...), longer
	}
	return l
}

// asked is what the chapter says of a text: of its lines, its places, its points, and those beside.
func asked(t *testing.T, text string) {
	t.Helper()
	l, count := widths(text), utf8.RuneCountInString(text)
	if n, e := grid.Lines(text); n != len(l) || e != api.OK {
		t.Errorf("P12.1: Lines(%s) is %d, %d, not %d", short(text), n, e, len(l))
	}
	widest := 0
	for line := -2; line < len(l)+3; line++ {
		want, f := 0, api.ErrArg
		if line >= 0 && line < len(l) {
			want, f = l[line], api.OK
		}
		widest = max(widest, want)
		if n, e := grid.Width(text, line); n != want || e != f {
			t.Errorf("P12.1: Width(%s, %d) is %d, %d, not %d, %d", short(text), line, n, e, want, f)
		}
	}
	for place := -2; place < count+3; place++ {
		askedPlace(t, text, place)
	}
	for line := -2; line < len(l)+2; line++ {
		for column := -2; column < widest+3; column++ {
			askedPoint(t, text, column, line)
		}
	}
}

// askedPlace is what it says of a place.
func askedPlace(t *testing.T, text string, place int) {
	t.Helper()
	want, f := complex128(0), api.ErrArg
	if c, ok := pointOf(text, place); ok {
		want, f = c, api.OK
	}
	c, e := grid.At(text, place)
	if !one(c, want) || e != f {
		t.Errorf("P12.1: At(%s, %d) is %v, %d, not %v, %d", short(text), place, c, e, want, f)
	}
	if back, g := grid.Place(text, c); e == api.OK && (back != place || g != api.OK) {
		t.Errorf("P12.3: Place(%s, At(%d)) is %d, %d", short(text), place, back, g)
	}
}

// askedPoint is what it says of a point.
func askedPoint(t *testing.T, text string, column, line int) {
	t.Helper()
	c := at(column, line)
	want, f := 0, api.ErrArg
	if p, ok := placeOf(text, column, line); ok {
		want, f = p, api.OK
	}
	place, e := grid.Place(text, c)
	if place != want || e != f {
		t.Errorf("P12.1: Place(%s, %v) is %d, %d, not %d, %d", short(text), c, place, e, want, f)
	}
	if back, g := grid.At(text, place); e == api.OK && (!one(back, c) || g != api.OK) {
		t.Errorf("P12.3: At(%s, Place(%v)) is %v, %d", short(text), c, back, g)
	}
	if same, g := grid.Step(text, c, 0); g != f || e == api.OK && !one(same, c) || e != api.OK && !one(same, 0) {
		t.Errorf("P12.2: Step(%s, %v, 0) is %v, %d, not %d", short(text), c, same, g, f)
	}
}

// stepped holds a step from a point that there is.
func stepped(t *testing.T, text string, column, line, right, down int) {
	t.Helper()
	c, by, want := at(column, line), at(right, down), stepOf(text, column, line, right, down)
	if got, e := grid.Step(text, c, by); !one(got, want) || e != api.OK {
		t.Errorf("P12.2: Step(%s, %v, %v) is %v, %d, not %v", short(text), c, by, got, e, want)
	}
}

func TestExample(t *testing.T) {
	text := "aé€\nb\n\n😀"
	if c, e := grid.At(text, 4); c != 0+1i || e != api.OK {
		t.Errorf("P12.1: behind the first code point 10: %v, %d", c, e)
	}
}

// TestKnown holds a text against answers worked out by hand.
func TestKnown(t *testing.T) {
	text := "aé€\nb\n\n😀c"
	if n, e := grid.Lines(text); n != 4 || e != api.OK {
		t.Errorf("P12.1: Lines is %d, %d", n, e)
	}
	for line, want := range []int{3, 1, 0, 2} {
		if n, e := grid.Width(text, line); n != want || e != api.OK {
			t.Errorf("P12.1: Width of line %d is %d, %d", line, n, e)
		}
	}
	for place, want := range []complex128{0, 1, 2, 3, 1i, 1 + 1i, 2i, 3i, 1 + 3i, 2 + 3i} {
		if c, e := grid.At(text, place); !one(c, want) || e != api.OK {
			t.Errorf("P12.1: At(%d) is %v, %d", place, c, e)
		}
		if p, e := grid.Place(text, want); p != place || e != api.OK {
			t.Errorf("P12.1: Place(%v) is %d, %d", want, p, e)
		}
	}
	for _, c := range []struct{ from, by, to complex128 }{
		{0, 0, 0}, {0, 2, 2}, {0, 3, 3}, {0, 4, 3}, {1, -1, 0}, {1, -2, 0}, {3, 1i, 1 + 1i}, {3, 2i, 2i}, {3, 3i, 2 + 3i}, {1, 3i, 1 + 3i}, {3, 4i, 2 + 3i}, // a column of a line that is less wide
		{2 + 3i, -3i, 2}, {2 + 3i, -4i, 2}, {2 + 3i, 1 - 3i, 3}, {2 + 3i, 2 - 3i, 3}, {2i, 9 - 1i, 1 + 1i}, {2i, -9 - 1i, 1i}, {3, -2 + 1i, 1 + 1i}, {3, -3 + 2i, 2i}, // both added ahead of what is held
		{1 + 1i, far, 1 + 1i}, {1 + 1i, -far, 1i}, {1 + 1i, far * 1i, 1 + 3i}, {1 + 1i, -far * 1i, 1}, {1 + 1i, far + far*1i, 2 + 3i}, {1 + 1i, -far - far*1i, 0}, {1 + 1i, far - far*1i, 3}, {1 + 1i, -far + far*1i, 3i},
	} {
		if got, e := grid.Step(text, c.from, c.by); !one(got, c.to) || e != api.OK {
			t.Errorf("P12.2: Step(%v, %v) is %v, %d, not %v", c.from, c.by, got, e, c.to)
		}
	}
}

// TestEmpty: a text of none has a line of none.
func TestEmpty(t *testing.T) {
	asked(t, "")
	if n, e := grid.Lines(""); n != 1 || e != api.OK {
		t.Errorf("P12.1: Lines is %d, %d", n, e)
	}
	if n, e := grid.Width("", 0); n != 0 || e != api.OK {
		t.Errorf("P12.1: Width is %d, %d", n, e)
	}
	if got, e := grid.Step("", 0, far-far*1i); !one(got, 0) || e != api.OK {
		t.Errorf("P12.2: Step is %v, %d", got, e)
	}
}

func TestAllShortTexts(t *testing.T) {
	for _, text := range texts(5, "\n", "\r", "a", "é", "😀") {
		asked(t, text)
	}
	for _, text := range texts(9, "\n", "€") {
		asked(t, text)
	}
}

// TestOnlyTen: nothing but a code point 10 ends a line, be there one in its bits or not.
func TestOnlyTen(t *testing.T) {
	for _, text := range []string{"\r", "\v", "\f", "\x1c", "\x1e", "\u0085", "\u2028", "\u2029", "\u010a", "\u0a0a", "\u0a00", "\U00010a0a", "\U0001000a", "\t", "\x0b", "\x09", "\x01", "\x7f", "\ufeff", "\ufffd", "\U0010ffff", `\n`} {
		if n, e := grid.Lines("a" + text + "b"); n != 1 || e != api.OK {
			t.Errorf("P12.1: Lines(%s) is %d, %d", short(text), n, e)
		}
		asked(t, "a"+text+"b")
		asked(t, text+"\n"+text+text+"\n\n"+text)
	}
	asked(t, "a\r\nb\n\rc\r\n")
	asked(t, "e\u0301\n👩\u200d🚀\n\u200d") // code points are counted, not what is seen
}

func TestLongTexts(t *testing.T) {
	for _, text := range []string{strings.Repeat("aé€😀", 500), strings.Repeat("\n", 90), strings.Repeat("aé\n😀", 30), strings.Repeat("é", 50) + "\n" + strings.Repeat("\n", 50), strings.Repeat("x", 3000) + "\n"} { // 2000 code points are no limit here
		asked(t, text)
	}
}

// TestSteps asks all short steps from all points of short texts, and great ones.
func TestSteps(t *testing.T) {
	edges := []int{-far, -far + 1, -far / 2, -5, -4, -3, -2, -1, 0, 1, 2, 3, 4, 5, far / 2, far - 1, far}
	for _, text := range append(texts(4, "\n", "a", "😀"), "ab\n\né€x\n", "abc\nd\nefghi", "\n\nabc\n", "a\r\n\u2028b") {
		for line, w := range widths(text) {
			for column := range w + 1 {
				for _, right := range edges {
					for _, down := range edges {
						stepped(t, text, column, line, right, down)
					}
				}
			}
		}
	}
}

// TestGreatSteps goes over texts as long as a step, and longer: only they tell that it is held by the text, and by nothing else.
func TestGreatSteps(t *testing.T) {
	wide, high := strings.Repeat("a", far+5), strings.Repeat("\n", far+5)
	for _, c := range []struct {
		text         string
		from, by, to complex128
	}{
		{wide, 0, far, far}, {wide, 5, far, far + 5}, {wide, 6, far, far + 5}, {wide, far + 5, -far, 5}, {wide, far, -far, 0}, {wide, far - 1, -far, 0},
		{high, 0, far * 1i, far * 1i}, {high, 5i, far * 1i, (far + 5) * 1i}, {high, 6i, far * 1i, (far + 5) * 1i}, {high, (far + 5) * 1i, -far * 1i, 5i}, {high, far * 1i, -far * 1i, 0}, {high, (far - 1) * 1i, -far * 1i, 0},
	} {
		if got, e := grid.Step(c.text, c.from, c.by); !one(got, c.to) || e != api.OK {
			t.Errorf("P12.2: Step(%s, %v, %v) is %v, %d, not %v", short(c.text), c.from, c.by, got, e, c.to)
		}
	}
	if p, e := grid.Place(high, (far+5)*1i); p != far+5 || e != api.OK {
		t.Errorf("P12.1: Place is %d, %d", p, e)
	}
	if c, e := grid.At(wide, far+5); !one(c, far+5) || e != api.OK {
		t.Errorf("P12.1: At is %v, %d", c, e)
	}
}

// bad is texts that are not Valid.
func bad() (l []string) {
	for _, p := range []string{"\x00", "\xff", "\x80", "\xc3", "\xe2\x82", "\xed\xa0\x80", "\xc0\x8a", "\xc0\x80", "\xf4\x90\x80\x80", "\xf0\x9f\x98"} {
		l = append(l, p, "a"+p, p+"a", p+"\n", "\n"+p, "ab\n\né€"+p+"x\n", strings.Repeat("€\n", 1000)+p)
	}
	return l
}

// TestBad: of a text that is not Valid, ErrBad is told ahead of all, be the rest right or wrong, and nothing beside it.
func TestBad(t *testing.T) {
	for _, text := range bad() {
		if n, e := grid.Lines(text); n != 0 || e != api.ErrBad {
			t.Errorf("P12.1: Lines(%s) is %d, %d", short(text), n, e)
		}
		for _, n := range []int{math.MinInt, -1, 0, 1, 2, 9999, math.MaxInt} {
			if w, e := grid.Width(text, n); w != 0 || e != api.ErrBad {
				t.Errorf("P12.1: Width(%s, %d) is %d, %d", short(text), n, w, e)
			}
			if c, e := grid.At(text, n); !one(c, 0) || e != api.ErrBad {
				t.Errorf("P12.1: At(%s, %d) is %v, %d", short(text), n, c, e)
			}
		}
		for _, c := range []complex128{0, 1, 1i, -1, 0.5, 9999, complex(math.NaN(), 0), complex(0, math.Inf(1))} {
			if p, e := grid.Place(text, c); p != 0 || e != api.ErrBad {
				t.Errorf("P12.1: Place(%s, %v) is %d, %d", short(text), c, p, e)
			}
			for _, by := range []complex128{0, 1, 1i, 0.5, 2 * far, complex(0, math.NaN())} {
				if got, e := grid.Step(text, c, by); !one(got, 0) || e != api.ErrBad {
					t.Errorf("P12.2: Step(%s, %v, %v) is %v, %d", short(text), c, by, got, e)
				}
			}
		}
	}
}

// TestNoLinesOrPlaces asks whole numbers far from all lines and places, some of which a float would round.
func TestNoLinesOrPlaces(t *testing.T) {
	for _, text := range []string{"", "ab\n\né€x\n"} {
		for _, n := range []int{math.MinInt, math.MinInt + 1, -1 << 53, -1 << 32, -far, -1, 10, far, 1 << 31, 1 << 32, 1<<32 + 1, 1 << 53, 1<<53 + 1, 1 << 62, 9223372036854775296, math.MaxInt - 1, math.MaxInt} {
			if w, e := grid.Width(text, n); w != 0 || e != api.ErrArg {
				t.Errorf("P12.1: Width(%s, %d) is %d, %d", short(text), n, w, e)
			}
			if c, e := grid.At(text, n); !one(c, 0) || e != api.ErrArg {
				t.Errorf("P12.1: At(%s, %d) is %v, %d", short(text), n, c, e)
			}
		}
	}
}

// wrong are numbers that are neither a column nor a line of a short text.
func wrong() []float64 {
	return []float64{-1, -2, -far, -1 << 32, -1e300, 0.5, -0.5, 1.5, 0.999999999, math.SmallestNonzeroFloat64, -math.SmallestNonzeroFloat64, math.Nextafter(1, 0), math.Nextafter(1, 2), math.Nextafter(2, 3),
		1000, far, 1 << 31, 1 << 32, 1<<32 + 1, 1 << 53, 1 << 62, 1 << 63, 1 << 64, 1<<64 + 1<<12, 1e300, math.MaxFloat64, -math.MaxFloat64, math.Inf(1), math.Inf(-1), math.NaN()}
}

func TestNoPoints(t *testing.T) {
	for _, text := range []string{"", "a", "\n", "ab\n\né€x\n"} {
		for _, x := range wrong() {
			for _, y := range append(wrong(), 0, 1, 2, 3) {
				for _, c := range []complex128{complex(x, y), complex(y, x)} {
					if p, e := grid.Place(text, c); p != 0 || e != api.ErrArg {
						t.Errorf("P12.1: Place(%s, %v) is %d, %d", short(text), c, p, e)
					}
					for _, by := range []complex128{0, -c, 1, 1i, -0.5, 0.5} { // what comes would be a point
						if got, e := grid.Step(text, c, by); !one(got, 0) || e != api.ErrArg {
							t.Errorf("P12.2: Step(%s, %v, %v) is %v, %d", short(text), c, by, got, e)
						}
					}
				}
			}
		}
	}
}

// TestNoSteps: what is no step is refused, though what comes would be held within the text.
func TestNoSteps(t *testing.T) {
	const text = "ab\n\né€x\n"
	long := []float64{0.5, -0.5, 1.5, math.SmallestNonzeroFloat64, math.Nextafter(1, 0), math.Nextafter(1, 2), math.Nextafter(far, 0), math.Nextafter(-far, 0), math.Nextafter(far, 2*far), math.Nextafter(-far, -2*far), far + 0.5, -far - 0.5,
		far + 1, -far - 1, 1 << 32, -1 << 32, 1 << 53, 1 << 63, -1 << 63, 1 << 64, -1 << 64, 1e300, -1e300, math.MaxFloat64, math.Inf(1), math.Inf(-1), math.NaN()}
	for _, x := range long {
		for _, y := range append(long, 0, 1, -1, far, -far) {
			for _, by := range []complex128{complex(x, y), complex(y, x)} {
				for _, c := range []complex128{0, 2, 1 + 2i, 3i} {
					if got, e := grid.Step(text, c, by); !one(got, 0) || e != api.ErrArg {
						t.Errorf("P12.2: Step(%v, %v) is %v, %d", c, by, got, e)
					}
				}
			}
		}
	}
}

// TestMinusNought: -0 is the number 0, so a column, a line, and a step; no answer tells it.
func TestMinusNought(t *testing.T) {
	minus := math.Copysign(0, -1)
	for _, text := range []string{"", "\n", "ab\ncd"} {
		for _, c := range []complex128{complex(minus, 0), complex(0, minus), complex(minus, minus)} {
			if p, e := grid.Place(text, c); p != 0 || e != api.OK {
				t.Errorf("P12.1: Place(%s, %v) is %d, %d", short(text), c, p, e)
			}
			for _, by := range []complex128{0, complex(minus, 0), complex(0, minus), complex(minus, minus), -far - far*1i, complex(-1, minus), complex(minus, -1)} {
				if got, e := grid.Step(text, c, by); !one(got, 0) || e != api.OK {
					t.Errorf("P12.2: Step(%s, %v, %v) is %v, %d", short(text), c, by, got, e)
				}
			}
		}
	}
	if got, e := grid.Step("ab\ncd", 1+1i, complex(minus, -1)); !one(got, 1) || e != api.OK {
		t.Errorf("P12.2: Step is %v, %d", got, e)
	}
}

// TestLinesMakeTheText: the lines' widths, and a code point 10 between each two, are all code points.
func TestLinesMakeTheText(t *testing.T) {
	for _, text := range texts(6, "\n", "é", "😀") {
		n, _ := grid.Lines(text)
		all := n - 1
		for line := range n {
			w, _ := grid.Width(text, line)
			all += w
		}
		if all != utf8.RuneCountInString(text) {
			t.Errorf("P12.1: the %d lines of %s have %d code points", n, short(text), all)
		}
		last, _ := grid.Width(text, n-1)
		if c, e := grid.At(text, all); !one(c, at(last, n-1)) || e != api.OK {
			t.Errorf("P12.1: the end of %s is %v, %d", short(text), c, e)
		}
	}
}

// TestTheTextAlone: what lines there are hangs on the text, not on how it came about nor on what was asked ahead.
func TestTheTextAlone(t *testing.T) {
	l := texts(3, "\n", "a", "é€")
	for _, s := range l {
		for _, to := range l {
			edit, _ := apply.Diff(s, to)
			made, e := apply.Do(s, edit)
			if made != to || e != api.OK {
				t.Fatalf("%s from %s is %s, %d", short(to), short(s), short(made), e)
			}
			grid.Lines(s)
			for place := range op.Out(edit) + 1 {
				grid.At(s, place)
				askedPlace(t, made, place)
			}
			one, _ := grid.Lines(made)
			two, _ := grid.Lines(to)
			if one != two || one != len(widths(to)) {
				t.Errorf("P12.3: Lines(%s) is %d and %d", short(to), one, two)
			}
		}
	}
}
