package cursor_test

import (
	"fmt"
	"math"
	"slices"
	"strings"
	"testing"

	"ropewalk/api"
	"ropewalk/cursor"
	"ropewalk/op"
	"ropewalk/xform"
)

const most = 1 << 40 // the greatest place

func r(n int) api.Comp       { return api.Comp{Kind: api.Retain, N: n} }
func i(text string) api.Comp { return api.Comp{Kind: api.Insert, Text: text} }
func d(n int) api.Comp       { return api.Comp{Kind: api.Delete, N: n} }

// parts is a short way to write a list of them.
func parts(l ...api.Comp) []api.Comp { return l }

// show is a list in words, or the beginning of a long one.
func show(l []api.Comp) string {
	s := fmt.Sprintf("%d parts", len(l))
	for _, c := range l[:min(len(l), 12)] {
		s += fmt.Sprintf(" {%d %d %.40q}", c.Kind, c.N, c.Text)
	}
	return s
}

// at is a selection, of places that may be none.
func at(anchor, head int) complex128 { return complex(float64(anchor), float64(head)) }

// one tells whether two are bit for bit the same, so that a -0 is no 0.
func one(a, b complex128) bool {
	bits := func(c complex128) [2]uint64 { return [2]uint64{math.Float64bits(real(c)), math.Float64bits(imag(c))} }
	return bits(a) == bits(b)
}

// edges are whole numbers about the ends of what a place may be, and of what an int may be.
func edges() []int {
	l := []int{math.MinInt, math.MinInt + 1, -1 << 53, -most - 1, -most, -2, -1, 0, 1, 2, 3, 2000, 1<<31 - 1, 1 << 32, most - 2, most - 1, most, most + 1, most + 2, 1 << 53, 1<<53 + 1, 1 << 62, math.MaxInt - 1, math.MaxInt}
	for _, n := range slices.Clone(l[:len(l)-2]) {
		l = append(l, most-n, -n)
	}
	return l
}

// wrong are numbers that are no place.
func wrong() []float64 {
	return []float64{-1, -2, -most, -1e300, 0.5, -0.5, 1.5, 1999.999, math.SmallestNonzeroFloat64, -math.SmallestNonzeroFloat64, math.Nextafter(1, 0), math.Nextafter(1, 2),
		math.Nextafter(most, 0), math.Nextafter(most, math.Inf(1)), most + 0.5, most + 1, 1 << 53, 1 << 62, 1 << 63, 1 << 64, math.MaxFloat64, -math.MaxFloat64, math.Inf(1), math.Inf(-1), math.NaN()}
}

// none are numbers that are no selection.
func none() (l []complex128) {
	for _, x := range wrong() {
		for _, y := range append(wrong(), 0, 1, 5, most) {
			l = append(l, complex(x, y), complex(y, x))
		}
	}
	return l
}

func TestExample(t *testing.T) {
	if c, e := cursor.Through(2+2i, parts(i("ab"), r(3)), false); c != 4+4i || e != api.OK {
		t.Errorf("P11.2: Through is %v, %d", c, e)
	}
}

// TestOf asks all pairs of whole numbers about the ends.
func TestOf(t *testing.T) {
	good := func(n int) bool { return 0 <= n && n <= most }
	for _, anchor := range edges() {
		for _, head := range edges() {
			want, f := complex128(0), api.ErrArg
			if good(anchor) && good(head) {
				want, f = at(anchor, head), api.OK
			}
			c, e := cursor.Of(anchor, head)
			if !one(c, want) || e != f {
				t.Errorf("P11.1: Of(%d, %d) is %v, %d, not %v, %d", anchor, head, c, e, want, f)
			}
			a, h, ok := cursor.Places(c)
			if f == api.OK && (a != anchor || h != head || !ok) {
				t.Errorf("P11.1: Places(%v) are %d, %d, %v", c, a, h, ok)
			}
		}
	}
}

// TestSelections asks what each call tells of selections.
func TestSelections(t *testing.T) {
	for _, c := range []struct{ anchor, head, from, to int }{
		{0, 0, 0, 0}, {0, 1, 0, 1}, {1, 0, 0, 1}, {3, 3, 3, 3}, {2, 5, 2, 5}, {5, 2, 2, 5}, {2000, 1, 1, 2000}, {most, 0, 0, most}, {0, most, 0, most}, {most, most, most, most}, {most - 1, most, most - 1, most},
	} {
		s := at(c.anchor, c.head)
		if anchor, head, ok := cursor.Places(s); anchor != c.anchor || head != c.head || !ok {
			t.Errorf("P11.1: Places(%v) are %d, %d, %v", s, anchor, head, ok)
		}
		if turned := cursor.Turn(s); !one(turned, at(c.head, c.anchor)) || !one(cursor.Turn(turned), s) {
			t.Errorf("P11.1: Turn(%v) is %v, and of that %v", s, turned, cursor.Turn(turned))
		}
		if from, to := cursor.Span(s); from != c.from || to != c.to {
			t.Errorf("P11.1: Span(%v) is %d, %d", s, from, to)
		}
		for _, n := range append(edges(), c.from-1, c.from, c.from+1, c.to-1, c.to, c.to+1) {
			if got := cursor.Within(s, n); got != (c.anchor <= n && c.head <= n) {
				t.Errorf("P11.1: Within(%v, %d) is %v", s, n, got)
			}
		}
		shifted(t, c.anchor, c.head)
	}
}

// shifted holds Shift by all kinds of numbers against Of of both places, which tells of the sums whether they are places.
func shifted(t *testing.T, anchor, head int) {
	t.Helper()
	c := at(anchor, head)
	for _, by := range append(edges(), -anchor-1, -anchor, -anchor+1, -head-1, -head, -head+1, most-anchor-1, most-anchor, most-anchor+1, most-head-1, most-head, most-head+1) {
		want, f := complex128(0), api.ErrArg
		if by >= -most && by <= most { // else no sum is a place, and it may wrap round
			want, f = cursor.Of(anchor+by, head+by)
		}
		if got, e := cursor.Shift(c, by); !one(got, want) || e != f {
			t.Errorf("P11.1: Shift(%v, %d) is %v, %d, not %v, %d", c, by, got, e, want, f)
		}
	}
}

// TestNoSelections asks each call of what is none.
func TestNoSelections(t *testing.T) {
	for _, c := range none() {
		if anchor, head, ok := cursor.Places(c); anchor != 0 || head != 0 || ok {
			t.Errorf("P11.1: Places(%v) are %d, %d, %v", c, anchor, head, ok)
		}
		if turned := cursor.Turn(c); !one(turned, c) {
			t.Errorf("P11.1: Turn(%v) is %v", c, turned)
		}
		if from, to := cursor.Span(c); from != 0 || to != 0 {
			t.Errorf("P11.1: Span(%v) is %d, %d", c, from, to)
		}
		for _, n := range edges() {
			if cursor.Within(c, n) {
				t.Errorf("P11.1: Within(%v, %d)", c, n)
			}
			if got, e := cursor.Shift(c, n); !one(got, 0) || e != api.ErrArg {
				t.Errorf("P11.1: Shift(%v, %d) is %v, %d", c, n, got, e)
			}
		}
		for _, l := range [][]api.Comp{nil, parts(r(2000)), parts(r(1), i("a"), d(1))} {
			for _, after := range []bool{true, false} {
				if got, e := cursor.Through(c, l, after); !one(got, 0) || e != api.ErrArg {
					t.Errorf("P11.2: Through(%v, %s, %v) is %v, %d", c, show(l), after, got, e)
				}
			}
		}
	}
	for _, c := range []complex128{-1 - 1i, -1, 0.5 + 0.5i} { // what comes would be one
		if got, e := cursor.Shift(c, 1); !one(got, 0) || e != api.ErrArg {
			t.Errorf("P11.1: Shift(%v, 1) is %v, %d", c, got, e)
		}
	}
}

// TestMinusNought: -0 is the number 0, so a place; no answer tells it.
func TestMinusNought(t *testing.T) {
	minus := math.Copysign(0, -1)
	for _, y := range []float64{0, minus, 3} {
		for _, c := range []complex128{complex(minus, y), complex(y, minus)} {
			anchor, head, ok := cursor.Places(c)
			from, to := cursor.Span(c)
			if !ok || c != at(anchor, head) || from != 0 || to != anchor+head || !cursor.Within(c, to) || to > 0 && cursor.Within(c, to-1) {
				t.Errorf("P11.1: of %v: %d, %d, %v; %d, %d", c, anchor, head, ok, from, to)
			}
			if turned := cursor.Turn(c); !one(turned, at(head, anchor)) {
				t.Errorf("P11.1: Turn(%v) is %v", c, turned)
			}
			if same, e := cursor.Shift(c, 0); !one(same, at(anchor, head)) || e != api.OK {
				t.Errorf("P11.1: Shift(%v, 0) is %v, %d", c, same, e)
			}
			asked(t, c, parts(i("ab"), r(3)))
			asked(t, c, parts(d(2), r(1)))
		}
	}
}

// throughOf is what the chapter asks of Through, place by place.
func throughOf(c complex128, l []api.Comp, after bool) (complex128, api.Errno) {
	if e := op.Check(l); e != api.OK {
		return 0, e
	}
	anchor, head, ok := cursor.Places(c)
	switch {
	case !ok:
		return 0, api.ErrArg
	case max(anchor, head) > op.Base(l):
		return 0, api.ErrText
	}
	return at(placeOf(anchor, l, after), placeOf(head, l, after)), api.OK
}

// placeOf is what becomes of one: it goes over the base's code points one by one.
func placeOf(p int, l []api.Comp, after bool) int {
	out, base := 0, 0
	for _, c := range l {
		for range c.N {
			if base < p && c.Kind == api.Retain {
				out++
			}
			base++
		}
		if c.Kind == api.Insert && (base < p || base == p && after) {
			out += len([]rune(c.Text))
		}
	}
	return out
}

// asked is all that the chapter says of Through.
func asked(t *testing.T, c complex128, l []api.Comp) {
	t.Helper()
	was := slices.Clone(l)
	for _, after := range []bool{true, false} {
		want, f := throughOf(c, l, after)
		got, e := cursor.Through(c, l, after)
		if !one(got, want) || e != f {
			t.Errorf("P11.2: Through(%v, %s, %v) is %v, %d, not %v, %d", c, show(l), after, got, e, want, f)
		}
		turned, g := cursor.Through(cursor.Turn(c), l, after)
		if turned != cursor.Turn(got) || g != e {
			t.Errorf("P11.3: Through(Turn(%v), %s, %v) is %v, %d, not %v, %d", c, show(l), after, turned, g, cursor.Turn(got), e)
		}
		if real(c) <= imag(c) && real(got) > imag(got) {
			t.Errorf("P11.3: Through(%v, %s, %v) is %v", c, show(l), after, got)
		}
		if e == api.OK {
			followed(t, c, got, l, after)
		}
	}
	if !slices.Equal(l, was) {
		t.Errorf("rule 3: %s was changed to %s", show(was), show(l))
	}
}

// followed holds what became of a selection of a text against what becomes of texts put in at its places, and within the new text.
func followed(t *testing.T, c, got complex128, l []api.Comp, after bool) {
	t.Helper()
	anchor, head, _ := cursor.Places(c)
	x, y, ok := cursor.Places(got)
	if !ok || !cursor.Within(got, op.Out(l)) {
		t.Errorf("P11.3: Through(%v, %s, %v) is %v, beyond the new text", c, show(l), after, got)
	}
	if op.Base(l) == api.MaxText { // no edit may put in a mark more
		return
	}
	for k, p := range []int{anchor, head} {
		became := []int{x, y}[k]
		mark, _ := op.Of(op.Base(l), p, p, "|")
		moved, e := xform.Over(mark, l, !after) // ahead of what is put in there, if the place is not behind it
		ahead := 0
		if len(moved) > 0 && moved[0].Kind == api.Retain {
			ahead = moved[0].N
		}
		if e != api.OK || became != ahead {
			t.Errorf("P11.2: Through(%v, %s, %v) is %v, but what is put in at %d goes to %d (%d)", c, show(l), after, got, p, ahead, e)
		}
	}
}

// lists is all lists of up to n parts of the pool.
func lists(n int, pool ...api.Comp) [][]api.Comp {
	l, last := [][]api.Comp{nil}, [][]api.Comp{nil}
	for range n {
		var longer [][]api.Comp
		for _, ahead := range last {
			for _, c := range pool {
				longer = append(longer, append(slices.Clone(ahead), c))
			}
		}
		l, last = append(l, longer...), longer
	}
	return l
}

// dice is a row of numbers without a rule that the program could follow.
type dice uint64

func (x *dice) below(n int) int {
	*x = *x*6364136223846793005 + 1442695040888963407
	return int(uint64(*x) >> 33 % uint64(n))
}

// edit is a normal one of some parts.
func (x *dice) edit(some int) (l []api.Comp) {
	texts := []string{"a", "é€", "😀bc", "e\u0301", "\n", strings.Repeat("€", 20)}
	for range some {
		l = append(l, []api.Comp{r(1 + x.below(30)), i(texts[x.below(len(texts))]), d(1 + x.below(30))}[x.below(3)])
	}
	return op.Normal(l)
}

func TestThrough(t *testing.T) {
	for _, c := range []struct {
		c           complex128
		l           []api.Comp
		ahead, late complex128 // what comes if not after, and if after
	}{
		{0, nil, 0, 0}, {0, []api.Comp{}, 0, 0}, {0, parts(i("é€")), 0, 2 + 2i}, {3 + 1i, parts(r(3)), 3 + 1i, 3 + 1i}, {2 + 2i, parts(d(2)), 0, 0}, {1, parts(d(2)), 0, 0},
		{2 + 2i, parts(i("ab"), r(3)), 4 + 4i, 4 + 4i}, {3i, parts(i("ab"), r(3)), 5i, 2 + 5i}, {3, parts(i("ab"), r(3)), 5, 5 + 2i}, {3 + 1i, parts(r(3), i("😀b")), 3 + 1i, 5 + 1i}, {1 + 3i, parts(r(3), i("😀b")), 1 + 3i, 1 + 5i},
		{1 + 3i, parts(r(1), d(2), r(1)), 1 + 1i, 1 + 1i}, {4 + 2i, parts(r(1), d(2), r(1)), 2 + 1i, 2 + 1i}, {1i, parts(r(1), d(2), r(1)), 1i, 1i},
		{1 + 1i, parts(r(1), i("xyz"), d(2)), 1 + 1i, 4 + 4i}, {2 + 2i, parts(r(1), i("xyz"), d(2)), 4 + 4i, 4 + 4i}, {3 + 1i, parts(r(1), i("xyz"), d(2)), 4 + 1i, 4 + 4i}, {1i, parts(r(1), i("xyz"), d(2)), 1i, 4i}, // the Insert's place is ahead of what is deleted
		{2 + 3i, parts(i("a"), d(1), r(1), i("é"), r(1)), 2 + 4i, 3 + 4i}, {3 + 4i, parts(d(3), r(1)), 1i, 1i}, {3 + 4i, parts(r(2), d(1), r(1), i("b")), 2 + 3i, 2 + 4i}, {1 + 3i, parts(i("a"), r(1), i("bc"), d(1), r(1), i("def")), 2 + 5i, 4 + 8i},
	} {
		for _, after := range []bool{false, true} {
			want := c.ahead
			if after {
				want = c.late
			}
			if got, e := cursor.Through(c.c, c.l, after); !one(got, want) || e != api.OK {
				t.Errorf("P11.2: Through(%v, %s, %v) is %v, %d, not %v", c.c, show(c.l), after, got, e, want)
			}
		}
		asked(t, c.c, c.l)
	}
}

// TestAllShortLists asks all selections within texts, and about their ends, of lists good and bad.
func TestAllShortLists(t *testing.T) {
	for _, l := range lists(3, r(1), r(2), i("x"), i("é€"), d(1), d(2), r(0), d(-1), i(""), i("\xff"), api.Comp{}, api.Comp{Kind: 4, N: 1}, api.Comp{Kind: api.Insert, N: 1, Text: "x"}, api.Comp{Kind: api.Retain, N: 1, Text: "x"}, r(2001)) {
		for anchor := -1; anchor < 7; anchor++ {
			for head := -1; head < 7; head++ {
				asked(t, at(anchor, head), l)
			}
		}
	}
	bad := func(l []api.Comp) bool { return op.Check(l) != api.OK }
	for _, l := range slices.DeleteFunc(lists(5, r(1), r(2), i("aé"), d(1), d(2)), bad) {
		for anchor := range op.Base(l) + 2 {
			for head := range op.Base(l) + 2 {
				asked(t, at(anchor, head), l)
			}
		}
	}
}

func TestLongerOnes(t *testing.T) {
	x := dice(11)
	for range 2000 {
		l := x.edit(x.below(40))
		for range 8 {
			asked(t, at(x.below(op.Base(l)+3), x.below(op.Base(l)+3)), l)
		}
	}
}

// TestErrorsInOrder holds that of several errors the first one is told, and nothing beside it.
func TestErrorsInOrder(t *testing.T) {
	var many []api.Comp // 100 parts
	for range 50 {
		many = append(many, r(1), i("é"))
	}
	for _, c := range []struct {
		c    complex128
		l    []api.Comp
		want api.Errno
	}{
		{0.5, append(slices.Clone(many), r(1)), api.ErrBig}, {0, append(slices.Clone(many), r(1)), api.ErrBig}, {0, append(slices.Clone(many), r(0)), api.ErrBig}, {-1, parts(r(2001)), api.ErrBig}, {1, parts(i(strings.Repeat("€", 2001))), api.ErrBig}, {0, parts(d(2001)), api.ErrBig}, // Check's ahead of the selection's
		{0.5, parts(r(1), r(1)), api.ErrArg}, {3, parts(r(1), r(1)), api.ErrArg}, {3, parts(d(1), i("a")), api.ErrArg}, {1, parts(r(0)), api.ErrArg}, {0, parts(i("\xff")), api.ErrArg},
		{0.5, nil, api.ErrArg}, {-1i, parts(r(1)), api.ErrArg}, {complex(5, 0.5), parts(r(1)), api.ErrArg}, {complex(0.5, 5), parts(r(1)), api.ErrArg}, {complex(5, math.NaN()), parts(r(1)), api.ErrArg}, {complex(0, most+1), parts(r(1)), api.ErrArg}, // no selection ahead of one beyond the text
		{1, nil, api.ErrText}, {1i, nil, api.ErrText}, {2 + 1i, parts(r(1)), api.ErrText}, {1 + 2i, parts(d(1)), api.ErrText}, {2, parts(r(1), i("abc")), api.ErrText}, {2i, parts(i("abc"), r(1)), api.ErrText}, {most, parts(r(2000)), api.ErrText}, {2001i, parts(r(2000)), api.ErrText}, {1 + 1i, parts(i("ab")), api.ErrText}, // the Base is asked, not the Out
	} {
		for _, after := range []bool{false, true} {
			if got, e := cursor.Through(c.c, c.l, after); !one(got, 0) || e != c.want {
				t.Errorf("P11.2: Through(%v, %s, %v) is %v, %d, not %d", c.c, show(c.l), after, got, e, c.want)
			}
		}
	}
}

// TestGreatOnes asks the greatest edits that Check takes, at both ends of their parts.
func TestGreatOnes(t *testing.T) {
	long := strings.Repeat("aé€😀", 500)
	for _, l := range [][]api.Comp{
		parts(r(2000)), parts(d(2000)), parts(i(long)), parts(i(long), d(2000)), parts(i(strings.Repeat("€", 1000)), r(1000), d(1000)), parts(r(1000), i(strings.Repeat("é", 1000)), d(1000)), parts(d(1999), r(1), i(long[:len(long)/2])),
	} {
		for _, anchor := range []int{0, 1, 2, 999, 1000, 1001, 1998, 1999, 2000, 2001} {
			for _, head := range []int{0, 1, 999, 1000, 1001, 1999, 2000, 2001, most} {
				asked(t, at(anchor, head), l)
			}
		}
	}
	var many []api.Comp
	for range 50 {
		many = append(many, i("é€"), r(3))
	}
	for p := range 152 {
		asked(t, at(p, 151-p), many)
		asked(t, at(p, p), many)
	}
}

// TestAheadAndBehind: what is ahead of all that an edit changes stays, and what is behind it goes by Out less Base.
func TestAheadAndBehind(t *testing.T) {
	x := dice(113)
	for range 300 {
		middle := x.edit(1 + x.below(12))
		l := op.Normal(slices.Concat(parts(r(5)), middle, parts(r(5))))
		end, by := op.Base(l), op.Out(l)-op.Base(l)
		for p := range 5 {
			for _, after := range []bool{false, true} {
				if got, e := cursor.Through(at(p, 4), l, after); got != at(p, 4) || e != api.OK {
					t.Errorf("P11.3: Through(%v, %s, %v) is %v, %d", at(p, 4), show(l), after, got, e)
				}
				if got, e := cursor.Through(at(end-p, end), l, after); got != at(end-p+by, end+by) || e != api.OK {
					t.Errorf("P11.3: Through(%v, %s, %v) is %v, %d, not by %d", at(end-p, end), show(l), after, got, e, by)
				}
			}
		}
	}
}

// TestSpareRoom: the room behind what is handed in stays as it is.
func TestSpareRoom(t *testing.T) {
	room := parts(r(1), i("a"), d(1), r(7), i("spare"))
	was := slices.Clone(room)
	cursor.Through(1+2i, room[:3], true)
	cursor.Through(9, room[:3], true)
	if !slices.Equal(room, was) {
		t.Errorf("rule 3: %s was changed to %s", show(was), show(room))
	}
}
