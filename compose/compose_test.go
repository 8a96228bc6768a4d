package compose_test

import (
	"fmt"
	"math"
	"slices"
	"strings"
	"testing"
	"unsafe"

	"ropewalk/api"
	"ropewalk/apply"
	"ropewalk/compose"
	"ropewalk/op"
)

func r(n int) api.Comp       { return api.Comp{Kind: api.Retain, N: n} }
func i(text string) api.Comp { return api.Comp{Kind: api.Insert, Text: text} }
func d(n int) api.Comp       { return api.Comp{Kind: api.Delete, N: n} }

// parts is a short way to write a list of them.
func parts(l ...api.Comp) []api.Comp { return l }

// show is a list in words, or the beginning of a long one.
func show(l []api.Comp) string {
	s := fmt.Sprintf("%d parts", len(l))
	for _, c := range l[:min(len(l), 12)] {
		s += fmt.Sprintf(" {%d %d %.40q}", c.Kind, c.N, c.Text)
	}
	return s
}

// lists is all lists of up to n parts of the pool.
func lists(n int, pool []api.Comp) [][]api.Comp {
	l, from := [][]api.Comp{nil}, 0
	for range n {
		to := len(l)
		for _, ahead := range l[from:to] {
			for _, c := range pool {
				l = append(l, append(slices.Clone(ahead), c))
			}
		}
		from = to
	}
	return l
}

// normals is those that Check takes.
func normals(l [][]api.Comp) [][]api.Comp {
	return slices.DeleteFunc(slices.Clone(l), func(one []api.Comp) bool { return op.Check(one) != api.OK })
}

// edits is all edits of n code points that put in a text, or nothing, at each place, and keep or delete each code point.
func edits(n int, text string) (l [][]api.Comp) {
	for mask := range 1 << (2*n + 1) {
		var one []api.Comp
		for k := range 2*n + 1 {
			there := mask>>k&1 == 1
			switch {
			case k%2 == 0 && there:
				one = append(one, i(text+string(rune('0'+k/2))))
			case k%2 == 1 && there:
				one = append(one, d(1))
			case k%2 == 1:
				one = append(one, r(1))
			}
		}
		l = append(l, op.Normal(one))
	}
	return l
}

// dice is a row of numbers without a rule that the program could follow.
type dice uint64

func (x *dice) below(n int) int {
	*x = *x*6364136223846793005 + 1442695040888963407
	return int(uint64(*x) >> 33 % uint64(n))
}

// edit is one of base code points, of the dice's parts.
func (x *dice) edit(base, longest int) (l []api.Comp) {
	texts := []string{"a", "é€", "😀bc", "e\u0301", "\n"}
	for base > 0 {
		n := min(1+x.below(longest), base)
		switch x.below(3) {
		case 0:
			l, base = append(l, r(n)), base-n
		case 1:
			l, base = append(l, d(n)), base-n
		case 2:
			l = append(l, i(texts[x.below(len(texts))]))
		}
	}
	return op.Normal(l)
}

// The words of the chapter, spelt out code point by code point.

// item is a code point: that of the base at a place, or one that was put in.
type item struct {
	base int
	put  rune
}

// begin is n code points of the base.
func begin(n int) (l []item) {
	for at := range n {
		l = append(l, item{base: at})
	}
	return l
}

// done is the items that an edit makes of some.
func done(items []item, l []api.Comp) (out []item) {
	for _, c := range l {
		for _, p := range c.Text {
			out = append(out, item{base: -1, put: p})
		}
		if c.Kind == api.Retain {
			out = append(out, items[:c.N]...)
		}
		items = items[c.N:]
	}
	return out
}

// made is the normal edit that makes the items of n code points of the base.
func made(n int, items []item) (l []api.Comp) {
	add := func(c api.Comp) {
		last := len(l) - 1
		switch {
		case c.N == 0 && c.Text == "":
		case last >= 0 && c.Kind == api.Retain && l[last].Kind == api.Retain:
			l[last].N++
		default:
			l = append(l, c)
		}
	}
	text, next := "", 0
	for _, one := range append(items, item{base: n}) {
		if one.base < 0 {
			text += string(one.put)
			continue
		}
		add(i(text))
		add(d(one.base - next))
		if one.base < n {
			add(r(1))
		}
		text, next = "", one.base+1
	}
	return l
}

// twoOf is what the chapter asks of Two.
func twoOf(a, b []api.Comp) ([]api.Comp, api.Errno) {
	if e := op.Check(a); e != api.OK {
		return nil, e
	}
	if e := op.Check(b); e != api.OK {
		return nil, e
	}
	if op.Out(a) != op.Base(b) {
		return nil, api.ErrText
	}
	n := op.Base(a)
	return made(n, done(done(begin(n), a), b)), api.OK
}

// asked is all that the chapter says of Two of two edits.
func asked(t *testing.T, a, b []api.Comp) []api.Comp {
	t.Helper()
	wasA, wasB := slices.Clone(a), slices.Clone(b)
	want, f := twoOf(a, b)
	got, e := compose.Two(a, b)
	if !slices.Equal(got, want) || e != f {
		t.Errorf("P9.1: Two(%s; %s) is %s, %d, not %s, %d", show(a), show(b), show(got), e, show(want), f)
	}
	if !slices.Equal(a, wasA) || !slices.Equal(b, wasB) {
		t.Errorf("P9.2: Two changed %s; %s to %s; %s", show(wasA), show(wasB), show(a), show(b))
	}
	if f == api.OK {
		follows(t, a, b, got)
	}
	return got
}

// follows holds that one does what two do.
func follows(t *testing.T, a, b, both []api.Comp) {
	t.Helper()
	if n := op.Normal(both); !slices.Equal(n, both) {
		t.Errorf("P9.1: Two(%s; %s) is not normal: %s", show(a), show(b), show(both))
	}
	if op.Base(both) != op.Base(a) || op.Out(both) != op.Out(b) {
		t.Errorf("P9.2: Base and Out of Two(%s; %s) are %d, %d", show(a), show(b), op.Base(both), op.Out(both))
	}
	if len(both) > api.MaxComps { // Do takes none so long
		return
	}
	text := strings.Repeat("pé€😀q", 400)
	text = string([]rune(text)[:op.Base(a)])
	x, e := apply.Do(text, a)
	y, f := apply.Do(x, b)
	z, g := apply.Do(text, both)
	if y != z || e != api.OK || f != api.OK || g != api.OK {
		t.Errorf("P9.2: Do of Two(%s; %s) is %.40q, not %.40q (%d, %d, %d)", show(a), show(b), z, y, e, f, g)
	}
}

// turns is n parts, Retains and Deletes by turns.
func turns(n int) (l []api.Comp) {
	for k := range n {
		l = append(l, parts(r(1), d(1))[k%2])
	}
	return l
}

// rows is one that keeps some code points, then puts a text in n times, and keeps each code points behind it.
func rows(kept, n, each int, text string) []api.Comp {
	l := op.Keep(kept)
	for range n {
		l = append(l, i(text), r(each))
	}
	return l
}

func TestExample(t *testing.T) {
	if l, e := compose.Two(parts(i("a")), parts(d(1))); len(l) != 0 || e != api.OK {
		t.Errorf("P9.1: Two is %s, %d", show(l), e)
	}
}

func TestTwo(t *testing.T) {
	for _, one := range []struct{ a, b, want []api.Comp }{
		{nil, nil, nil}, {[]api.Comp{}, nil, nil}, {nil, []api.Comp{}, nil},
		{parts(r(3)), parts(r(3)), parts(r(3))}, {nil, parts(i("a")), parts(i("a"))}, {parts(i("a")), parts(r(1)), parts(i("a"))}, {parts(d(3)), nil, parts(d(3))},
		{parts(r(3)), parts(d(3)), parts(d(3))}, {parts(r(3)), parts(r(1), d(1), r(1)), parts(r(1), d(1), r(1))}, {parts(r(1), d(1), r(1)), parts(r(2)), parts(r(1), d(1), r(1))},
		{parts(d(2), r(1)), parts(i("x"), r(1)), parts(i("x"), d(2), r(1))}, {parts(r(1), d(2)), parts(r(1), i("x")), parts(r(1), i("x"), d(2))}, // ahead of what a deleted
		{parts(i("ab")), parts(r(1), i("x"), r(1)), parts(i("axb"))}, {parts(i("aé€b")), parts(d(1), r(1), d(1), r(1)), parts(i("éb"))}, {parts(i("a😀b")), parts(r(1), i("é"), d(2)), parts(i("aé"))},
		{parts(i("a")), parts(i("x"), r(1)), parts(i("xa"))}, {parts(i("a")), parts(r(1), i("x")), parts(i("ax"))}, {parts(i("a")), parts(i("x"), d(1)), parts(i("x"))},
		{parts(i("ab"), d(1), r(1)), parts(d(1), r(1), i("y"), d(1)), parts(i("by"), d(2))}, {parts(i("ab"), d(2)), parts(r(1), i("y"), d(1)), parts(i("ay"), d(2))},
		{parts(r(1), i("a"), r(1)), parts(r(1), d(2)), parts(r(1), d(1))}, {parts(r(1), i("a"), r(1)), parts(d(1), r(1), d(1)), parts(i("a"), d(2))}, // Deletes on both sides of it
		{parts(r(1), i("a"), d(1), r(1), i("b"), d(1), r(1)), parts(r(2), d(1), r(1), i("x"), r(1)), parts(r(1), i("abx"), d(3), r(1))}, // a Retain between goes away
		{parts(r(2), i("é€"), r(2)), parts(r(3), i("x"), d(2), r(1)), parts(r(2), i("éx"), d(1), r(1))},
		{parts(r(1), d(1), r(2), d(1), r(1)), parts(i("1"), r(2), i("2"), d(1), r(1)), parts(i("1"), r(1), d(1), r(1), i("2"), d(2), r(1))},
		{parts(i("ab"), r(2), i("cd")), parts(r(6)), parts(i("ab"), r(2), i("cd"))}, {parts(r(2), i("x"), r(2)), parts(r(2), d(1), r(2)), parts(r(4))}, // Retains are one again
	} {
		if got, e := compose.Two(one.a, one.b); !slices.Equal(got, one.want) || e != api.OK {
			t.Errorf("P9.1: Two(%s; %s) is %s, %d, not %s", show(one.a), show(one.b), show(got), e, show(one.want))
		}
		asked(t, one.a, one.b)
	}
}

// TestAllShortLists asks pairs of lists good and bad.
func TestAllShortLists(t *testing.T) {
	l := lists(2, parts(r(1), r(2), i("x"), i("é€"), d(1), d(2), r(0), d(-1), i(""), i("\xff"), i("a\x00"), api.Comp{}, api.Comp{Kind: api.Insert, N: 1, Text: "x"}, api.Comp{Kind: api.Retain, N: 1, Text: "x"}, r(2001)))
	for _, a := range l {
		for _, b := range l {
			asked(t, a, b)
		}
	}
	for _, a := range normals(lists(4, parts(r(1), r(2), i("aé"), d(1), d(2)))) {
		for _, b := range normals(lists(4, parts(r(1), r(3), i("x"), d(1), d(2)))) {
			asked(t, a, b)
		}
	}
}

// TestEachPlace asks all edits of few code points, one behind the other.
func TestEachPlace(t *testing.T) {
	for n := range 4 {
		for _, a := range edits(n, "a") {
			if out := op.Out(a); out <= 5 {
				for _, b := range edits(out, "b") {
					asked(t, a, b)
				}
			}
		}
	}
}

func TestLongerOnes(t *testing.T) {
	x := dice(9)
	for range 3000 {
		a := x.edit(x.below(60), 1+x.below(9))
		asked(t, a, x.edit(op.Out(a), 1+x.below(9)))
	}
	for range 200 {
		a := x.edit(300+x.below(300), 30)
		asked(t, a, x.edit(op.Out(a), 30))
	}
}

// TestErrorsInOrder holds that of several errors the first one is told, and nothing beside it.
func TestErrorsInOrder(t *testing.T) {
	long := strings.Repeat("€", 2000)
	big, arg := append(turns(100), r(1)), parts(r(1), r(1))
	for _, one := range []struct {
		a, b []api.Comp
		want api.Errno
	}{
		{big, arg, api.ErrBig}, {big, nil, api.ErrBig}, {arg, big, api.ErrArg}, {arg, nil, api.ErrArg}, {arg, arg, api.ErrArg},
		{parts(r(2)), big, api.ErrBig}, {parts(r(2)), arg, api.ErrArg}, {parts(r(3)), arg, api.ErrArg}, {parts(r(3)), big, api.ErrBig}, // b's ahead of ErrText
		{parts(r(0)), parts(r(2001)), api.ErrArg}, {parts(r(2001)), parts(r(0)), api.ErrBig}, {parts(d(1), i("a")), parts(r(9)), api.ErrArg}, {parts(i("\xff")), parts(r(1)), api.ErrArg},
		{parts(i(long + "a")), parts(d(2001)), api.ErrBig}, {parts(d(2001)), nil, api.ErrBig}, {parts(r(2000)), parts(r(2000), i("a")), api.ErrBig}, {parts(r(1 << 62)), parts(r(1 << 62)), api.ErrBig},
		{parts(r(1)), parts(r(2)), api.ErrText}, {parts(r(2)), parts(r(1)), api.ErrText}, {nil, parts(d(1)), api.ErrText}, {parts(r(1)), nil, api.ErrText}, {parts(r(1)), parts(i("a")), api.ErrText},
		{parts(d(1)), parts(r(1)), api.ErrText}, {parts(i("é")), parts(r(2)), api.ErrText}, {parts(i("😀")), parts(d(4)), api.ErrText}, // the outcome's code points, not the base's, nor bytes
		{parts(i("a"), d(2)), parts(r(2)), api.ErrText}, {parts(i(long)), parts(r(1999)), api.ErrText},
	} {
		if l, e := compose.Two(one.a, one.b); len(l) != 0 || e != one.want {
			t.Errorf("P9.1: Two(%s; %s) is %s, %d, not %d", show(one.a), show(one.b), show(l), e, one.want)
		}
	}
}

// TestGreatOnes asks the greatest that Check takes, and those whose outcome it takes no more.
func TestGreatOnes(t *testing.T) {
	long := strings.Repeat("aé€😀", 500)
	many := turns(99)
	many[98] = r(2000 - 98)
	for _, a := range [][]api.Comp{parts(r(2000)), parts(i(long)), parts(i(long), d(2000)), parts(r(1000), i(long[:2500]), d(500), r(500)), parts(i(long[:2500]), r(1000))} {
		base := op.Out(a)
		for _, b := range [][]api.Comp{many, parts(r(base)), parts(d(base)), parts(i(long), d(base)), parts(r(base-1), i("x"), d(1))} {
			asked(t, a, b)
		}
	}
	a, b := rows(0, 50, 2, "a"), append(rows(2, 49, 3, "b"), d(1))
	if l := asked(t, a, b); len(l) != 199 || op.Check(l) != api.ErrBig {
		t.Errorf("P9.1: Two of 100 parts each has %d parts", len(l))
	}
	if l := asked(t, turns(100), parts(r(50), i("x"))); len(l) != 101 {
		t.Errorf("P9.1: Two of 100 parts and an Insert has %d parts", len(l))
	}
}

// TestAll holds All against Two of all.
func TestAll(t *testing.T) {
	for _, one := range []struct {
		base int
		l    [][]api.Comp
		want []api.Comp
		e    api.Errno
	}{
		{0, nil, nil, api.OK}, {3, nil, parts(r(3)), api.OK}, {-1, nil, nil, api.OK}, {math.MinInt, nil, nil, api.OK},
		{2001, nil, parts(r(2001)), api.OK}, {math.MaxInt, nil, parts(r(math.MaxInt)), api.OK}, // nothing asks for Check
		{0, [][]api.Comp{nil, {}}, nil, api.OK}, {-1, [][]api.Comp{parts(i("a"))}, parts(i("a")), api.OK},
		{3, [][]api.Comp{parts(r(1), i("é"), d(1), r(1))}, parts(r(1), i("é"), d(1), r(1)), api.OK},
		{3, [][]api.Comp{parts(r(1), i("ab"), r(2)), parts(r(2), d(2), r(1)), parts(i("x"), d(1), r(2)), parts(r(1), d(1), r(1))}, parts(i("x"), d(2), r(1)), api.OK},
		{2001, [][]api.Comp{parts(r(1))}, nil, api.ErrBig}, {2001, [][]api.Comp{parts(r(2001))}, nil, api.ErrBig}, {2001, [][]api.Comp{parts(r(0))}, nil, api.ErrBig}, {math.MaxInt, [][]api.Comp{nil}, nil, api.ErrBig},
		{2, [][]api.Comp{parts(r(3))}, nil, api.ErrText}, {2, [][]api.Comp{nil}, nil, api.ErrText}, {-1, [][]api.Comp{parts(r(1))}, nil, api.ErrText},
		{0, [][]api.Comp{parts(i("a")), parts(r(2)), parts(r(0))}, nil, api.ErrText}, {0, [][]api.Comp{parts(i("a")), parts(r(0)), parts(r(2))}, nil, api.ErrArg}, // the first error
		{1, [][]api.Comp{parts(r(1)), parts(r(1)), turns(101)}, nil, api.ErrBig}, {2, [][]api.Comp{parts(r(1)), turns(101)}, nil, api.ErrText}, {1, [][]api.Comp{parts(r(1)), parts(i("\x00"))}, nil, api.ErrArg},
		{100, [][]api.Comp{turns(100), parts(r(50), i("x"))}, append(turns(99), i("x"), d(1)), api.OK}, // the outcome's Check is not asked
		{100, [][]api.Comp{turns(100), parts(r(50), i("x")), parts(r(51))}, nil, api.ErrBig},           // till Two is asked of it
		{100, [][]api.Comp{turns(100), parts(r(50), i("x")), parts(r(0))}, nil, api.ErrBig},
	} {
		if l, e := compose.All(one.base, one.l...); !slices.Equal(l, one.want) || e != one.e {
			t.Errorf("P9.1: All(%d) of %d edits is %s, %d, not %s, %d", one.base, len(one.l), show(l), e, show(one.want), one.e)
		}
	}
}

// TestAllIsTwoOfAll asks rows of edits, some of them with a wrong one somewhere.
func TestAllIsTwoOfAll(t *testing.T) {
	x := dice(10)
	for range 3000 {
		base := x.below(20)
		want, e := op.Keep(base), api.OK
		var l [][]api.Comp
		for range x.below(8) {
			next := x.edit(op.Out(want), 5)
			if x.below(20) == 0 {
				next = append(next, parts(r(0), i("a"), d(1), r(1), r(2001))[x.below(5)])
			}
			l = append(l, next)
			if e == api.OK {
				want, e = twoOf(want, next)
			}
		}
		if got, f := compose.All(base, l...); !slices.Equal(got, want) || f != e {
			t.Errorf("P9.1: All(%d) of %d edits is %s, %d, not %s, %d", base, len(l), show(got), f, show(want), e)
		}
	}
}

// TestBrackets holds that it is all one which two of three are put together first.
func TestBrackets(t *testing.T) {
	three := func(a, b, c []api.Comp) {
		ab, _ := compose.Two(a, b)
		bc, _ := compose.Two(b, c)
		left, e := compose.Two(ab, c)
		right, f := compose.Two(a, bc)
		all, g := compose.All(op.Base(a), a, b, c)
		if !slices.Equal(left, right) || !slices.Equal(left, all) || e != api.OK || f != api.OK || g != api.OK {
			t.Errorf("P9.2: of %s; %s; %s: %s, or %s, or %s (%d, %d, %d)", show(a), show(b), show(c), show(left), show(right), show(all), e, f, g)
		}
	}
	for _, a := range edits(2, "a") {
		for _, b := range edits(op.Out(a), "b") {
			if out := op.Out(b); out <= 3 {
				for _, c := range edits(out, "c") {
					three(a, b, c)
				}
			}
		}
	}
	x := dice(11)
	for range 2000 {
		a := x.edit(x.below(15), 6)
		b := x.edit(op.Out(a), 6)
		three(a, b, x.edit(op.Out(b), 6))
	}
}

// TestIntentions holds that what was put in stands there once, that what was kept keeps its order, and that only what was deleted is gone.
func TestIntentions(t *testing.T) {
	l, _ := compose.Two(parts(i("1"), r(2), i("2é"), d(1), r(3)), parts(r(1), i("3"), r(2), d(1), r(1), i("4"), d(1), r(2)))
	out, e := apply.Do("abcdef", l)
	if out != "13abé4ef" || e != api.OK {
		t.Errorf("W4: Two is %s, which makes %q, %d", show(l), out, e)
	}
}

// TestHandedInStays holds that neither a list nor its spare room is changed, of what Check takes and of what it does not.
func TestHandedInStays(t *testing.T) {
	a := parts(i("xé"), d(1), r(1), i("€y"), d(2), r(3), i("z"), d(1))
	b := parts(r(1), i("1"), d(2), r(1), i("2"), r(2), d(1), i("3"), r(1))
	all := [][]api.Comp{a, b, b}
	wasA, wasB := slices.Clone(a), slices.Clone(b)
	for n := range len(a) + 1 {
		for m := range len(b) + 1 {
			compose.Two(a[:n], b[:m])
			all[0], all[1], all[2] = a[:n], b[:m], b
			compose.All(op.Base(a[:n]), all[:2]...)
			if len(all[0]) != n || len(all[1]) != m || len(all[2]) != len(b) {
				t.Fatalf("P9.2: All changed the row of lists")
			}
		}
	}
	if !slices.Equal(a, wasA) || !slices.Equal(b, wasB) {
		t.Errorf("P9.2: what was handed in is %s; %s now", show(a), show(b))
	}
}

// overlap tells whether two texts lie in one memory.
func overlap(a, b string) bool {
	from, other := uintptr(unsafe.Pointer(unsafe.StringData(a))), uintptr(unsafe.Pointer(unsafe.StringData(b)))
	return from < other+uintptr(len(b)) && other < from+uintptr(len(a))
}

func TestAnswersAreNewMemory(t *testing.T) {
	long, other := strings.Repeat("é", 40), strings.Repeat("€", 40)
	texts := []string{long, other}
	for range 2 {
		for _, two := range [][2][]api.Comp{
			{parts(i(long)), parts(r(40))}, {parts(i(long)), parts(d(10), r(30))}, {parts(i(long)), parts(r(20), d(20))},
			{nil, parts(i(other))}, {parts(r(3)), parts(r(1), i(other), r(2))}, {parts(d(1), r(1), i(long)), parts(i(other), r(41))},
		} {
			both, _ := compose.Two(two[0], two[1])
			all, _ := compose.All(op.Base(two[0]), two[0], two[1])
			for _, c := range append(both, all...) {
				texts = append(texts, c.Text)
			}
		}
	}
	for at, a := range texts {
		for with, b := range texts[:at] {
			if overlap(a, b) {
				t.Errorf("P9.2: texts %d and %d share their memory", at, with)
			}
		}
	}
	a, b := parts(r(2), d(1)), parts(r(2))
	for _, answer := range []func() []api.Comp{
		func() []api.Comp { l, _ := compose.Two(a, b); return l },
		func() []api.Comp { l, _ := compose.Two(b, b); return l },
		func() []api.Comp { l, _ := compose.All(2, b); return l },
		func() []api.Comp { l, _ := compose.All(2); return l },
	} {
		one, two := answer(), answer()
		one[0] = i("a")
		if a[0] != r(2) || b[0] != r(2) || two[0] != r(2) {
			t.Errorf("P9.2: two lists share their memory: %s, %s, %s", show(a), show(b), show(two))
		}
	}
}
