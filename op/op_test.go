package op_test

import (
	"fmt"
	"math"
	"slices"
	"strings"
	"testing"
	"unicode/utf8"
	"unsafe"

	"ropewalk/api"
	"ropewalk/op"
)

const most = 1 << 40 // what each N, and each sum of them, is held at

func r(n int) api.Comp       { return api.Comp{Kind: api.Retain, N: n} }
func i(text string) api.Comp { return api.Comp{Kind: api.Insert, Text: text} }
func d(n int) api.Comp       { return api.Comp{Kind: api.Delete, N: n} }

// show is a list in words, or the beginning of a long one.
func show(l []api.Comp) string {
	s := fmt.Sprintf("%d parts", len(l))
	for _, c := range l[:min(len(l), 12)] {
		s += fmt.Sprintf(" {%d %d %.40q}", c.Kind, c.N, c.Text)
	}
	return s
}

// parts is a short way to write a list of them.
func parts(l ...api.Comp) []api.Comp { return l }

// pool is parts of all sorts: those that may be, one of each that may not, and some that are none.
func pool() []api.Comp {
	return parts(
		r(1), r(2), i("a"), i("é€"), d(1), d(3),
		r(0), r(-1), d(0), d(math.MinInt), i(""), i("\xff"), i("b\x00"),
		api.Comp{Kind: api.Retain, N: 1, Text: "a"},
		api.Comp{Kind: api.Insert, N: 1, Text: "a"},
		api.Comp{Kind: api.Insert, N: -1, Text: "a"},
		api.Comp{Kind: api.Delete, N: 1, Text: "a"},
		api.Comp{}, api.Comp{N: 1, Text: "a"}, api.Comp{Kind: 4, N: 1}, api.Comp{Kind: -1, N: 1, Text: "a"},
	)
}

// lists shows all lists of up to n parts of the pool.
func lists(n int, show func(l []api.Comp)) {
	var grow func(l []api.Comp)
	grow = func(l []api.Comp) {
		show(slices.Clone(l))
		if len(l) < n {
			for _, c := range pool() {
				grow(append(l, c))
			}
		}
	}
	grow(nil)
}

// dice is a row of numbers without a rule that the program could follow.
type dice uint64

func (x *dice) below(n int) int {
	*x = *x*6364136223846793005 + 1442695040888963407
	return int(uint64(*x) >> 33 % uint64(n))
}

// by is a list with the dice's parts, long or short.
func (x *dice) by(n int) (l []api.Comp) {
	for range x.below(n + 1) {
		l = append(l, pool()[x.below(len(pool()))])
	}
	return l
}

// The words of the chapter, spelt out one by one.

// isNormal is the word normal.
func isNormal(l []api.Comp) bool {
	for at, c := range l {
		number, text := c.N >= 1, c.Text == ""
		if c.Kind == api.Insert {
			number, text = c.N == 0, c.Text != "" && utf8.ValidString(c.Text) && !strings.Contains(c.Text, "\x00")
		}
		if !slices.Contains([]int{api.Retain, api.Insert, api.Delete}, c.Kind) || !number || !text {
			return false
		}
		if at > 0 && (l[at-1].Kind == c.Kind || l[at-1].Kind == api.Delete && c.Kind == api.Insert) {
			return false
		}
	}
	return true
}

// cleared is what may be of a part: none, or one with what it has no use for dropped.
func cleared(c api.Comp) []api.Comp {
	switch {
	case c.Kind == api.Insert && c.Text != "":
		return parts(i(c.Text))
	case (c.Kind == api.Retain || c.Kind == api.Delete) && c.N > 0:
		return parts(api.Comp{Kind: c.Kind, N: min(c.N, most)})
	}
	return nil
}

// normalOf clears each part, then turns and joins neighbours till none is left that should be.
func normalOf(l []api.Comp) (out []api.Comp) {
	for _, c := range l {
		out = append(out, cleared(c)...)
	}
	for at := 1; at < len(out); at++ {
		a, b := out[at-1], out[at]
		switch {
		case a.Kind == api.Delete && b.Kind == api.Insert:
			out[at-1], out[at] = b, a
		case a.Kind == b.Kind:
			out[at-1] = api.Comp{Kind: a.Kind, N: min(a.N+b.N, most), Text: a.Text + b.Text}
			out = slices.Delete(out, at, at+1)
		default:
			continue
		}
		at = 0
	}
	return out
}

func baseOf(l []api.Comp) (n int) {
	for _, c := range l {
		if c.Kind != api.Insert && len(cleared(c)) > 0 {
			n += min(c.N, most)
		}
	}
	return min(n, most)
}

func outOf(l []api.Comp) (n int) {
	for _, c := range l {
		if c.Kind == api.Insert {
			n += len([]rune(c.Text))
		} else if c.Kind == api.Retain && c.N > 0 {
			n += min(c.N, most)
		}
	}
	return min(n, most)
}

func checkOf(l []api.Comp) api.Errno {
	switch {
	case len(l) > 100:
		return api.ErrBig
	case !isNormal(l):
		return api.ErrArg
	case baseOf(l) > 2000 || outOf(l) > 2000:
		return api.ErrBig
	}
	return api.OK
}

// done is the text that the edit makes of one.
func done(text string, l []api.Comp) string {
	points, out := []rune(text), ""
	for _, c := range l {
		switch c.Kind {
		case api.Retain:
			out += string(points[:c.N])
			points = points[c.N:]
		case api.Insert:
			out += c.Text
		case api.Delete:
			points = points[c.N:]
		}
	}
	return out + string(points)
}

// turns is n parts, Retains and Deletes by turns.
func turns(n int) (l []api.Comp) {
	for k := range n {
		l = append(l, parts(r(1), d(1))[k%2])
	}
	return l
}

func TestExample(t *testing.T) {
	if l := op.Normal(parts(d(1), i("a"))); !slices.Equal(l, parts(i("a"), d(1))) {
		t.Errorf("P7.1: Normal is %s", show(l))
	}
}

func TestCheck(t *testing.T) {
	long := strings.Repeat("€", 2000)
	for _, one := range []struct {
		l    []api.Comp
		want api.Errno
	}{
		{nil, api.OK}, {[]api.Comp{}, api.OK},
		{parts(r(1)), api.OK}, {parts(i("a")), api.OK}, {parts(d(1)), api.OK},
		{parts(r(1), i("a"), d(1), r(1), i("b"), r(1), d(1), r(1)), api.OK},
		{parts(d(1), r(1), i("a")), api.OK}, // behind a Delete, with a Retain between
		{parts(r(0)), api.ErrArg}, {parts(r(-1)), api.ErrArg}, {parts(r(math.MinInt)), api.ErrArg},
		{parts(d(0)), api.ErrArg}, {parts(d(-1)), api.ErrArg}, {parts(d(math.MinInt)), api.ErrArg},
		{parts(i("")), api.ErrArg}, {parts(i("\xff")), api.ErrArg}, {parts(i("a\xc3")), api.ErrArg}, {parts(i("\xed\xa0\x80")), api.ErrArg}, {parts(i("a\x00")), api.ErrArg},
		{parts(api.Comp{Kind: api.Insert, N: 1, Text: "a"}), api.ErrArg}, {parts(api.Comp{Kind: api.Insert, N: -1, Text: "a"}), api.ErrArg},
		{parts(api.Comp{Kind: api.Retain, N: 1, Text: "a"}), api.ErrArg}, {parts(api.Comp{Kind: api.Delete, N: 1, Text: "a"}), api.ErrArg},
		{parts(api.Comp{}), api.ErrArg}, {parts(api.Comp{N: 1}), api.ErrArg}, {parts(api.Comp{Text: "a"}), api.ErrArg},
		{parts(api.Comp{Kind: 4, N: 1}), api.ErrArg}, {parts(api.Comp{Kind: 4, Text: "a"}), api.ErrArg}, {parts(api.Comp{Kind: -1, N: 1}), api.ErrArg}, {parts(api.Comp{Kind: math.MaxInt, N: 1}), api.ErrArg}, {parts(api.Comp{Kind: 1<<32 + 1, N: 1}), api.ErrArg},
		{parts(r(1), r(1)), api.ErrArg}, {parts(i("a"), i("b")), api.ErrArg}, {parts(d(1), d(1)), api.ErrArg},
		{parts(d(1), i("a")), api.ErrArg}, {parts(r(1), d(1), i("a"), r(1)), api.ErrArg}, {parts(r(1), i("a"), r(1), d(1), d(1)), api.ErrArg},
		{turns(99), api.OK}, {turns(100), api.OK}, {turns(101), api.ErrBig}, {turns(1000), api.ErrBig},
		{parts(r(2000)), api.OK}, {parts(r(2001)), api.ErrBig}, {parts(d(2000)), api.OK}, {parts(d(2001)), api.ErrBig},
		{parts(r(1000), d(1000)), api.OK}, {parts(r(1000), d(1001)), api.ErrBig}, {parts(r(1), d(1999), r(1)), api.ErrBig},
		{parts(i(long)), api.OK}, {parts(i(long + "€")), api.ErrBig}, {parts(i(strings.Repeat("😀", 2000))), api.OK},
		{parts(r(1999), i("€")), api.OK}, {parts(r(1999), i("a€")), api.ErrBig}, {parts(r(2000), i("a")), api.ErrBig},
		{parts(i(long), d(2000)), api.OK}, {parts(i(long), d(2001)), api.ErrBig}, {parts(i(long+"a"), d(2000)), api.ErrBig},
		{parts(r(math.MaxInt)), api.ErrBig}, {parts(r(math.MaxInt), d(math.MaxInt), r(2)), api.ErrBig}, {parts(d(math.MaxInt), r(math.MaxInt), d(2)), api.ErrBig}, {parts(r(1 << 32)), api.ErrBig},
	} {
		if e := op.Check(one.l); e != one.want {
			t.Errorf("P7.1: Check(%s) is %d, not %d", show(one.l), e, one.want)
		}
	}
}

// TestCheckInOrder holds that of several errors the first one is told.
func TestCheckInOrder(t *testing.T) {
	for _, wrong := range parts(r(0), i(""), i("\xff"), api.Comp{}, d(-1)) {
		if e := op.Check(append(turns(100), wrong)); e != api.ErrBig {
			t.Errorf("P7.1: Check of 101 parts, one of them %q, is %d", fmt.Sprint(wrong), e)
		}
		if e := op.Check(append(turns(99), wrong)); e != api.ErrArg {
			t.Errorf("P7.1: Check of 100 parts, one of them %q, is %d", fmt.Sprint(wrong), e)
		}
		for _, l := range [][]api.Comp{parts(r(2001), wrong), parts(wrong, d(2001)), parts(wrong, i(strings.Repeat("a", 2001)))} {
			if e := op.Check(l); e != api.ErrArg {
				t.Errorf("P7.1: Check of one above 2000 with %q is %d", fmt.Sprint(wrong), e)
			}
		}
	}
}

func TestNormal(t *testing.T) {
	for _, one := range []struct{ l, want []api.Comp }{
		{nil, nil}, {[]api.Comp{}, nil},
		{parts(d(1), i("a"), d(2), i("b"), r(3), r(4)), parts(i("ab"), d(3), r(7))},
		{parts(r(1), d(0), r(2), i(""), r(3), api.Comp{Kind: 4, N: 1}, r(4), api.Comp{}), parts(r(10))},
		{parts(i("a"), r(0), i("b"), d(1), r(-1), d(2), i("c")), parts(i("abc"), d(3))},
		{parts(r(1), i("b"), i("a"), r(1), d(1), d(1), r(1)), parts(r(1), i("ba"), r(1), d(2), r(1))},
		{parts(i("é"), r(1), i("€")), parts(i("é"), r(1), i("€"))},
		{parts(d(1), r(1), d(1)), parts(d(1), r(1), d(1))},
		{parts(i("\xff"), i("\x00"), i("\xe2"), i("\x82\xac")), parts(i("\xff\x00\xe2\x82\xac"))},
		{parts(api.Comp{Kind: api.Retain, N: 2, Text: "x"}, api.Comp{Kind: api.Insert, N: 7, Text: "y"}, api.Comp{Kind: api.Delete, N: 3, Text: "z"}), parts(r(2), i("y"), d(3))},
		{parts(api.Comp{Kind: api.Retain, Text: "x"}, api.Comp{Kind: api.Insert, N: -7, Text: "y"}, api.Comp{Kind: api.Delete, N: -1, Text: "z"}, api.Comp{Kind: api.Insert, N: 3}), parts(i("y"))},
		{parts(api.Comp{N: 1, Text: "a"}, api.Comp{Kind: -1, N: 1, Text: "a"}, api.Comp{Kind: 1<<32 + 2, N: 1, Text: "a"}), nil},
		{parts(r(most)), parts(r(most))}, {parts(r(most + 1)), parts(r(most))}, {parts(d(math.MaxInt)), parts(d(most))},
		{parts(r(most-1), r(1)), parts(r(most))}, {parts(r(most), r(1)), parts(r(most))}, {parts(r(1), r(most)), parts(r(most))},
		{parts(d(math.MaxInt), d(math.MaxInt), d(3), i("a")), parts(i("a"), d(most))}, {parts(r(math.MaxInt), r(math.MaxInt), r(math.MaxInt)), parts(r(most))},
		{parts(r(most), i("a"), r(5), d(most+7), r(most-1)), parts(r(most), i("a"), r(5), d(most), r(most-1))},
		{parts(d(5), d(math.MinInt), r(math.MinInt), d(1)), parts(d(6))},
	} {
		if l := op.Normal(one.l); !slices.Equal(l, one.want) {
			t.Errorf("P7.1: Normal(%s) is %s, not %s", show(one.l), show(l), show(one.want))
		}
	}
}

// asked is all that the chapter says of one list.
func asked(t *testing.T, l []api.Comp) {
	t.Helper()
	was := slices.Clone(l)
	e, base, out, n := op.Check(l), op.Base(l), op.Out(l), op.Normal(l)
	if want := checkOf(l); e != want {
		t.Errorf("P7.1: Check(%s) is %d, not %d", show(l), e, want)
	}
	if want := normalOf(l); !slices.Equal(n, want) {
		t.Errorf("P7.1: Normal(%s) is %s, not %s", show(l), show(n), show(want))
	}
	if base != baseOf(l) || out != outOf(l) {
		t.Errorf("P7.2: Base and Out of %s are %d, %d, not %d, %d", show(l), base, out, baseOf(l), outOf(l))
	}
	if idle := !slices.ContainsFunc(l, func(c api.Comp) bool { return c.Kind == 2 || c.Kind == 3 }); op.Idle(l) != idle {
		t.Errorf("P7.2: Idle(%s) is %v", show(l), !idle)
	}
	if again := op.Normal(n); !slices.Equal(again, n) || isNormal(l) && !slices.Equal(n, l) {
		t.Errorf("P7.3: Normal of %s is %s, and of that %s", show(l), show(n), show(again))
	}
	if !slices.Equal(l, was) {
		t.Errorf("P7.3: %s was changed to %s", show(was), show(l))
	}
}

func TestAllShortLists(t *testing.T) {
	lists(3, func(l []api.Comp) { asked(t, l) })
}

func TestLongerLists(t *testing.T) {
	x := dice(7)
	for range 3000 {
		asked(t, x.by(12))
	}
	for range 100 {
		asked(t, x.by(120))
	}
}

// TestManyParts asks one as long as none that Check takes: it would not end in time, if all were copied at each part.
func TestManyParts(t *testing.T) {
	const many = 400000
	var l []api.Comp
	for range many {
		l = append(l, d(1), i("ab"))
	}
	if n := op.Normal(l); !slices.Equal(n, parts(i(strings.Repeat("ab", many)), d(many))) {
		t.Errorf("P7.1: Normal of many has %d parts", len(n))
	}
	for k := range l {
		l[k] = parts(r(1), i("a"), d(1))[k%3]
	}
	if n := op.Normal(l); !slices.Equal(n, l) {
		t.Errorf("P7.3: Normal of many normal ones has %d parts", len(n))
	}
}

func TestBaseAndOut(t *testing.T) {
	for _, one := range []struct {
		l         []api.Comp
		base, out int
	}{
		{nil, 0, 0}, {[]api.Comp{}, 0, 0},
		{parts(r(3), i("é€"), d(4)), 7, 5},
		{parts(i("aé€😀")), 0, 4}, {parts(i("e\u0301\n")), 0, 3},
		{parts(i("\xff\xfe")), 0, 2}, {parts(i("\xe2\x82")), 0, 2}, {parts(i("\xed\xa0\x80")), 0, 3}, {parts(i("a\xf0\x9f\x98€")), 0, 5}, {parts(i("\xc0\x80")), 0, 2}, {parts(i("\xf4\x90\x80\x80")), 0, 4}, {parts(i("a\x00")), 0, 2}, {parts(i("\ufffd")), 0, 1},
		{parts(i("\xc3"), i("\xa9")), 0, 2}, // bytes of two parts make no code point
		{parts(r(5), r(-3), d(-5), r(math.MinInt), d(math.MinInt)), 5, 5},
		{parts(api.Comp{Kind: api.Retain, N: 1, Text: "abc"}, api.Comp{Kind: api.Insert, N: 5, Text: "a"}, api.Comp{Kind: api.Delete, N: 1, Text: "abc"}), 2, 2},
		{parts(api.Comp{N: 5, Text: "a"}, api.Comp{Kind: 4, N: 5, Text: "a"}, api.Comp{Kind: -1, N: 5}), 0, 0},
		{parts(r(most)), most, most}, {parts(r(most + 1)), most, most}, {parts(r(most-1), r(1)), most, most}, {parts(r(most-1), r(2)), most, most}, {parts(r(most - 1)), most - 1, most - 1},
		{parts(r(most), i("a")), most, most}, {parts(i("ab"), r(most-1)), most - 1, most}, {parts(i("a"), r(most-2)), most - 2, most - 1},
		{parts(d(most), d(most)), most, 0}, {parts(d(most-3), r(2)), most - 1, 2},
		{parts(r(math.MaxInt), r(math.MaxInt), r(3)), most, most}, {parts(d(math.MaxInt), d(math.MaxInt), d(3)), most, 0}, {parts(r(math.MaxInt), d(math.MinInt)), most, most},
	} {
		if base, out := op.Base(one.l), op.Out(one.l); base != one.base || out != one.out {
			t.Errorf("P7.2: Base and Out of %s are %d, %d, not %d, %d", show(one.l), base, out, one.base, one.out)
		}
	}
}

func TestSame(t *testing.T) {
	if !op.Same(nil, nil) || !op.Same(nil, []api.Comp{}) || !op.Same([]api.Comp{}, nil) {
		t.Errorf("P7.2: Same of none is false")
	}
	for at, a := range pool() {
		for other, b := range pool() {
			for _, ahead := range [][]api.Comp{nil, parts(r(1)), parts(i("a"), d(2))} {
				x, y := append(slices.Clone(ahead), a), append(slices.Clone(ahead), b)
				if op.Same(x, y) != (at == other) {
					t.Errorf("P7.2: Same(%s, %s) is %v", show(x), show(y), at != other)
				}
				x, y = append(x, d(1)), append(y, d(1))
				if op.Same(x, y) != (at == other) {
					t.Errorf("P7.2: Same(%s, %s) is %v", show(x), show(y), at != other)
				}
			}
		}
		for _, l := range [][]api.Comp{nil, parts(a, a), parts(a, api.Comp{})} {
			if op.Same(parts(a), l) || op.Same(l, parts(a)) {
				t.Errorf("P7.2: Same of %q and %s is true", fmt.Sprint(a), show(l))
			}
		}
	}
	if op.Same(parts(r(1), d(1)), parts(d(1), r(1))) || op.Same(parts(r(2)), parts(r(1), r(1))) || op.Same(parts(r(most)), parts(r(most+1))) {
		t.Errorf("P7.2: Same of what differs is true")
	}
	if !op.Same(parts(i("\xff"), r(-1)), parts(i("\xff"), r(-1))) {
		t.Errorf("P7.2: Same of what is not normal is false")
	}
}

func TestKeep(t *testing.T) {
	for _, n := range []int{1, 2, 2000, 2001, most, most + 1, math.MaxInt} {
		if l := op.Keep(n); !slices.Equal(l, parts(r(n))) {
			t.Errorf("P7.2: Keep(%d) is %s", n, show(l))
		}
	}
	for _, n := range []int{0, -1, -most, math.MinInt} {
		if l := op.Keep(n); len(l) != 0 {
			t.Errorf("P7.2: Keep(%d) is %s", n, show(l))
		}
	}
}

func TestIdle(t *testing.T) {
	for _, l := range [][]api.Comp{nil, {}, parts(r(1)), parts(r(0), r(-1), r(2)), parts(api.Comp{}, api.Comp{Kind: 4, N: 1, Text: "a"})} {
		if !op.Idle(l) {
			t.Errorf("P7.2: Idle(%s) is false", show(l))
		}
	}
	for _, c := range parts(i("a"), d(1), i(""), d(0), d(-1), i("\xff")) {
		for _, l := range [][]api.Comp{parts(c), parts(r(1), c), parts(c, r(1)), parts(r(1), r(1), c, r(1))} {
			if op.Idle(l) {
				t.Errorf("P7.2: Idle(%s) is true", show(l))
			}
		}
	}
}

func TestOf(t *testing.T) {
	for _, text := range []string{"", "a", "é€", "\n😀", "\xff", "a\x00"} {
		for base := -2; base < 6; base++ {
			for from := -2; from < 8; from++ {
				for to := -2; to < 8; to++ {
					ofOne(t, base, from, to, text)
				}
			}
		}
	}
}

// ofOne holds Of's answer against what it does with a text.
func ofOne(t *testing.T, base, from, to int, text string) {
	t.Helper()
	l, e := op.Of(base, from, to, text)
	if from < 0 || to < from || base < to || text == "\xff" || text == "a\x00" {
		if len(l) != 0 || e != api.ErrArg {
			t.Errorf("P7.2: Of(%d, %d, %d, %q) is %s, %d", base, from, to, text, show(l), e)
		}
		return
	}
	was := "áäàâå"[:2*base]
	want := was[:2*from] + text + was[2*to:]
	if e != api.OK || !isNormal(l) || baseOf(l) != base || done(was, l) != want {
		t.Errorf("P7.2: Of(%d, %d, %d, %q) is %s, %d", base, from, to, text, show(l), e)
	}
}

func TestOfGreatOnes(t *testing.T) {
	long := strings.Repeat("é", 3000)
	for _, one := range []struct {
		base, from, to int
		text           string
		want           []api.Comp
	}{
		{3, 0, 0, "", parts(r(3))}, {3, 2, 2, "", parts(r(3))}, {3, 3, 3, "", parts(r(3))}, // one Retain, wherever it is
		{5000, 3000, 4000, long, parts(r(3000), i(long), d(1000), r(1000))}, // no limit is asked here
		{most, 1, 2, "a", parts(r(1), i("a"), d(1), r(most-2))},
		{math.MaxInt, 1, 2, "a", parts(r(1), i("a"), d(1), r(most))},
		{math.MaxInt, 0, math.MaxInt, "", parts(d(most))},
		{math.MaxInt, math.MaxInt, math.MaxInt, "a", parts(r(most), i("a"))},
		{math.MaxInt, most + 5, most + 5, "", parts(r(most))},
	} {
		if l, e := op.Of(one.base, one.from, one.to, one.text); !slices.Equal(l, one.want) || e != api.OK {
			t.Errorf("P7.2: Of(%d, %d, %d, %.20q) is %s, %d", one.base, one.from, one.to, one.text, show(l), e)
		}
	}
	for _, one := range [][3]int{{math.MinInt, 0, 0}, {3, math.MinInt, 1}, {3, 1, math.MinInt}, {3, 1, math.MaxInt}, {3, math.MaxInt, math.MaxInt}, {math.MaxInt, -1, 0}} {
		if l, e := op.Of(one[0], one[1], one[2], "a"); len(l) != 0 || e != api.ErrArg {
			t.Errorf("P7.2: Of%v is %s, %d", one, show(l), e)
		}
	}
}

// TestNormalOfNormal leaves all that Check takes as it is.
func TestNormalOfNormal(t *testing.T) {
	for _, l := range [][]api.Comp{nil, turns(100), parts(r(2000)), parts(i(strings.Repeat("€", 2000)), d(2000)), parts(r(1), i("a"), d(1), r(1), i("b"), r(1))} {
		if n := op.Normal(l); !slices.Equal(n, l) || op.Check(n) != api.OK {
			t.Errorf("P7.3: Normal(%s) is %s", show(l), show(n))
		}
	}
}

// TestHandedInStays holds that neither a list nor its spare room is changed.
func TestHandedInStays(t *testing.T) {
	l := parts(d(1), i("a"), r(1), r(2), i(""), r(0), i("b"), d(most+1), i("c"), d(9), d(9))
	was := slices.Clone(l)
	for n := range l {
		op.Check(l[:n])
		op.Normal(l[:n])
		op.Base(l[:n])
		op.Out(l[:n])
		op.Idle(l[:n])
		op.Same(l[:n], l[:n])
	}
	if !slices.Equal(l, was) {
		t.Errorf("P7.3: what was handed in is %s now", show(l))
	}
}

// overlap tells whether two texts lie in one memory.
func overlap(a, b string) bool {
	from, other := uintptr(unsafe.Pointer(unsafe.StringData(a))), uintptr(unsafe.Pointer(unsafe.StringData(b)))
	return from < other+uintptr(len(b)) && other < from+uintptr(len(a))
}

func TestAnswersAreNewMemory(t *testing.T) {
	long := strings.Repeat("é", 40)
	l := parts(r(1), i(long), r(1), d(1), r(1), i(long))
	first, second := op.Normal(l), op.Normal(l)
	of, _ := op.Of(3, 1, 2, long)
	texts := []string{long, first[1].Text, first[5].Text, second[1].Text, second[5].Text, of[1].Text}
	for at, a := range texts {
		for _, b := range texts[:at] {
			if overlap(a, b) {
				t.Errorf("P7.3: two texts share their memory")
			}
		}
	}
	first[0], l[2] = d(7), d(8)
	if second[0] != r(1) || l[0] != r(1) || first[2] != r(1) || second[2] != r(1) {
		t.Errorf("P7.3: two lists share their memory: %s, %s, %s", show(l), show(first), show(second))
	}
	a, b := op.Keep(3), op.Keep(3)
	if a[0] = d(1); b[0] != r(3) {
		t.Errorf("P7.3: two lists of Keep share their memory")
	}
}
