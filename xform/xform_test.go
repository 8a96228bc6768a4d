package xform_test

import (
	"fmt"
	"slices"
	"strings"
	"testing"
	"unsafe"

	"ropewalk/api"
	"ropewalk/apply"
	"ropewalk/compose"
	"ropewalk/op"
	"ropewalk/xform"
)

func r(n int) api.Comp       { return api.Comp{Kind: api.Retain, N: n} }
func i(text string) api.Comp { return api.Comp{Kind: api.Insert, Text: text} }
func d(n int) api.Comp       { return api.Comp{Kind: api.Delete, N: n} }

// parts is a short way to write a list of them, and rows one of those.
func parts(l ...api.Comp) []api.Comp    { return l }
func rows(l ...[]api.Comp) [][]api.Comp { return l }

// show is a list in words, or the beginning of a long one.
func show(l []api.Comp) string {
	s := fmt.Sprintf("%d parts", len(l))
	for _, c := range l[:min(len(l), 12)] {
		s += fmt.Sprintf(" {%d %d %.40q}", c.Kind, c.N, c.Text)
	}
	return s
}

// lists is all lists of up to n parts of the pool.
func lists(n int, pool ...api.Comp) [][]api.Comp {
	l, last := rows(nil), rows(nil)
	for range n {
		var longer [][]api.Comp
		for _, ahead := range last {
			for _, c := range pool {
				longer = append(longer, append(slices.Clone(ahead), c))
			}
		}
		l, last = append(l, longer...), longer
	}
	return l
}

// The words of the chapter, spelt out place by place.

// plan is an edit: what it puts in at each place of the base, and whether it deletes the code point behind that place.
type plan struct {
	put  []string // one more than code points
	gone []bool
}

// planOf is that of a normal edit.
func planOf(l []api.Comp) plan {
	p := plan{put: []string{""}}
	for _, c := range l {
		p.put[len(p.gone)] += c.Text
		for range c.N {
			p.put = append(p.put, "")
			p.gone = append(p.gone, c.Kind == api.Delete)
		}
	}
	return p
}

// edit is the normal edit of a plan.
func (p plan) edit() (l []api.Comp) {
	kept, text, gone := 0, "", 0
	end := func() {
		for _, c := range parts(r(kept), i(text), d(gone)) {
			if c.N > 0 || c.Text != "" {
				l = append(l, c)
			}
		}
		kept, text, gone = 0, "", 0
	}
	for at, put := range p.put {
		text += put
		switch {
		case at == len(p.gone):
			end()
		case p.gone[at]:
			gone++
		case text != "" || gone > 0:
			end()
			kept = 1
		default:
			kept++
		}
	}
	return l
}

// over is what p does behind q.
func (p plan) over(q plan, first bool) plan {
	out := plan{put: []string{""}}
	keep := func(gone bool) {
		out.put = append(out.put, "")
		out.gone = append(out.gone, gone)
	}
	for at := range p.put {
		if first {
			out.put[len(out.gone)] += p.put[at]
		}
		for range []rune(q.put[at]) {
			keep(false)
		}
		if !first {
			out.put[len(out.gone)] += p.put[at]
		}
		if at < len(p.gone) && !q.gone[at] {
			keep(p.gone[at])
		}
	}
	return out
}

// overOf is what the chapter asks of Over.
func overOf(a, b []api.Comp, first bool) ([]api.Comp, api.Errno) {
	if e := op.Check(a); e != api.OK {
		return nil, e
	}
	if e := op.Check(b); e != api.OK {
		return nil, e
	}
	if op.Base(a) != op.Base(b) {
		return nil, api.ErrText
	}
	return planOf(a).over(planOf(b), first).edit(), api.OK
}

// plans is all edits of n code points that put in a text, or nothing, at each place, and keep or delete each code point.
func plans(n int, text string) (l [][]api.Comp) {
	for mask := range 1 << (2*n + 1) {
		var p plan
		for at := range n + 1 {
			put := ""
			if mask>>at&1 == 1 {
				put = text + string(rune('0'+at))
			}
			p.put = append(p.put, put)
			if at < n {
				p.gone = append(p.gone, mask>>(n+1+at)&1 == 1)
			}
		}
		l = append(l, p.edit())
	}
	return l
}

// dice is a row of numbers without a rule that the program could follow.
type dice uint64

func (x *dice) below(n int) int {
	*x = *x*6364136223846793005 + 1442695040888963407
	return int(uint64(*x) >> 33 % uint64(n))
}

// edit is one of n code points that puts in a text at one place of some, and keeps or deletes rows of code points.
func (x *dice) edit(n, some int) []api.Comp {
	texts := []string{"a", "é€", "😀bc", "e\u0301", "\n"}
	p := plan{put: make([]string, n+1), gone: make([]bool, n)}
	gone := false
	for at := range p.put {
		if x.below(some) == 0 {
			p.put[at] = texts[x.below(len(texts))]
		}
		if x.below(some) == 0 {
			gone = !gone
		}
		if at < n {
			p.gone[at] = gone
		}
	}
	return p.edit()
}

// asked is all that the chapter says of two edits.
func asked(t *testing.T, a, b []api.Comp) {
	t.Helper()
	wasA, wasB := slices.Clone(a), slices.Clone(b)
	for _, first := range []bool{true, false} {
		want, f := overOf(a, b, first)
		got, e := xform.Over(a, b, first)
		if !slices.Equal(got, want) || e != f {
			t.Errorf("P10.1: Over(%s; %s; %v) is %s, %d, not %s, %d", show(a), show(b), first, show(got), e, show(want), f)
		}
		if n := op.Normal(got); !slices.Equal(n, got) {
			t.Errorf("P10.1: Over(%s; %s; %v) is not normal: %s", show(a), show(b), first, show(got))
		}
		if f == api.OK {
			meet(t, a, b, first)
		}
	}
	bothAsked(t, a, b)
	if !slices.Equal(a, wasA) || !slices.Equal(b, wasB) {
		t.Errorf("P10.2: %s; %s were changed to %s; %s", show(wasA), show(wasB), show(a), show(b))
	}
}

// bothAsked holds Both against Over of each.
func bothAsked(t *testing.T, a, b []api.Comp) {
	t.Helper()
	x, e := overOf(a, b, true)
	var y []api.Comp
	if e == api.OK {
		y, _ = overOf(b, a, false)
	}
	gotX, gotY, f := xform.Both(a, b)
	if !slices.Equal(gotX, x) || !slices.Equal(gotY, y) || f != e {
		t.Errorf("P10.1: Both(%s; %s) is %s; %s, %d, not %s; %s, %d", show(a), show(b), show(gotX), show(gotY), f, show(x), show(y), e)
	}
}

// meet holds that it is one text whichever of two is done first.
func meet(t *testing.T, a, b []api.Comp, first bool) {
	t.Helper()
	m, e := xform.Over(a, b, first)
	n, f := xform.Over(b, a, !first)
	if e != api.OK || f != api.OK {
		t.Errorf("P10.1: Over of %s; %s is %d, %d", show(a), show(b), e, f)
	}
	if op.Base(m) != op.Out(b) || op.Base(n) != op.Out(a) || op.Out(m) != op.Out(n) {
		t.Errorf("P10.2: Over(%s; %s; %v) is %s, and the other way %s", show(a), show(b), first, show(m), show(n))
	}
	if op.Check(m) != api.OK || op.Check(n) != api.OK { // neither Do nor Two takes them
		return
	}
	text := string([]rune(strings.Repeat("pé€😀q", 400))[:op.Base(a)])
	p, _ := apply.Do(text, a)
	q, _ := apply.Do(text, b)
	u, g := apply.Do(q, m)
	v, h := apply.Do(p, n)
	if u != v || g != api.OK || h != api.OK {
		t.Errorf("P10.2: %s; %s; %v: %.40q, or %.40q (%d, %d)", show(a), show(b), first, u, v, g, h)
	}
	x, g := compose.Two(b, m)
	y, h := compose.Two(a, n)
	if !slices.Equal(x, y) || g != api.OK || h != api.OK {
		t.Errorf("P10.2: %s; %s; %v: as one %s, or %s (%d, %d)", show(a), show(b), first, show(x), show(y), g, h)
	}
}

// turns is n parts, Retains and Deletes by turns.
func turns(n int) (l []api.Comp) {
	for k := range n {
		l = append(l, parts(r(1), d(1))[k%2])
	}
	return l
}

func TestExample(t *testing.T) {
	if l, e := xform.Over(parts(i("x")), parts(i("y")), true); !slices.Equal(l, parts(i("x"), r(1))) || e != api.OK {
		t.Errorf("P10.1: Over is %s, %d", show(l), e)
	}
}

func TestOver(t *testing.T) {
	for _, one := range []struct{ a, b, first, last []api.Comp }{
		{nil, nil, nil, nil}, {[]api.Comp{}, nil, nil, nil}, {nil, []api.Comp{}, nil, nil},
		{parts(r(3)), parts(r(3)), parts(r(3)), parts(r(3))}, {nil, parts(i("é€")), parts(r(2)), parts(r(2))}, {parts(i("é€")), nil, parts(i("é€")), parts(i("é€"))},
		{parts(i("x")), parts(i("y😀")), parts(i("x"), r(2)), parts(r(2), i("x"))}, {parts(r(1), i("x"), r(1)), parts(r(1), i("y"), r(1)), parts(r(1), i("x"), r(2)), parts(r(2), i("x"), r(1))},
		{parts(r(2), i("x")), parts(r(2), i("y")), parts(r(2), i("x"), r(1)), parts(r(3), i("x"))}, {parts(i("x"), r(2)), parts(r(2), i("y")), parts(i("x"), r(3)), parts(i("x"), r(3))}, {parts(r(2), i("x")), parts(i("y"), r(2)), parts(r(3), i("x")), parts(r(3), i("x"))},
		{parts(r(3)), parts(d(3)), nil, nil}, {parts(d(3)), parts(d(3)), nil, nil}, {parts(d(3)), parts(r(3)), parts(d(3)), parts(d(3))}, {parts(r(4)), parts(r(1), d(2), r(1)), parts(r(2)), parts(r(2))},
		{parts(r(1), d(2), r(1)), parts(r(2), d(2)), parts(r(1), d(1)), parts(r(1), d(1))}, {parts(d(1), r(3)), parts(r(1), d(2), r(1)), parts(d(1), r(1)), parts(d(1), r(1))}, {parts(r(1), d(1), r(1)), parts(d(1), r(1), d(1)), parts(d(1)), parts(d(1))},
		{parts(r(1), i("x"), r(2)), parts(d(3)), parts(i("x")), parts(i("x"))}, {parts(r(1), i("x"), r(2)), parts(i("y"), d(3)), parts(r(1), i("x")), parts(r(1), i("x"))}, // what stood between is gone: still at another place
		{parts(r(1), i("x"), r(1), i("z"), r(1)), parts(d(3)), parts(i("xz")), parts(i("xz"))},
		{parts(d(3)), parts(r(1), i("y"), r(2)), parts(d(1), r(1), d(2)), parts(d(1), r(1), d(2))}, {parts(d(2)), parts(i("y"), d(2)), parts(r(1)), parts(r(1))}, // b's Insert is kept within what a deletes
		{parts(i("x"), d(1)), parts(i("y"), d(1)), parts(i("x"), r(1)), parts(r(1), i("x"))}, {parts(i("x"), d(2), r(1)), parts(i("y"), d(1), r(2)), parts(i("x"), r(1), d(1), r(1)), parts(r(1), i("x"), d(1), r(1))},
		{parts(d(1), r(1), i("x"), d(1)), parts(r(1), d(1), r(1)), parts(i("x"), d(2)), parts(i("x"), d(2))}, {parts(d(1), r(1), i("x")), parts(r(1), i("y"), d(1)), parts(d(1), r(1), i("x")), parts(d(1), r(1), i("x"))},
		{parts(r(1), i("ab"), r(1), d(1)), parts(r(1), i("c"), d(2)), parts(r(1), i("ab"), r(1)), parts(r(2), i("ab"))},
	} {
		for _, first := range []bool{true, false} {
			want := one.last
			if first {
				want = one.first
			}
			if got, f := xform.Over(one.a, one.b, first); !slices.Equal(got, want) || f != api.OK {
				t.Errorf("P10.1: Over(%s; %s; %v) is %s, %d, not %s", show(one.a), show(one.b), first, show(got), f, show(want))
			}
		}
		asked(t, one.a, one.b)
		asked(t, one.b, one.a)
	}
}

func TestBoth(t *testing.T) {
	x, y, e := xform.Both(parts(r(1), i("x"), r(1)), parts(r(1), i("yé"), d(1)))
	if !slices.Equal(x, parts(r(1), i("x"), r(2))) || !slices.Equal(y, parts(r(2), i("yé"), d(1))) || e != api.OK {
		t.Errorf("P10.1: Both is %s; %s, %d", show(x), show(y), e)
	}
}

// TestAllShortLists asks pairs of lists good and bad.
func TestAllShortLists(t *testing.T) {
	l := lists(2, r(1), r(2), i("x"), i("é€"), d(1), d(2), r(0), d(-1), i(""), i("\xff"), i("a\x00"), api.Comp{}, api.Comp{Kind: 4, N: 1}, api.Comp{Kind: api.Insert, N: 1, Text: "x"}, api.Comp{Kind: api.Retain, N: 1, Text: "x"}, r(2001), r(1<<62))
	for _, a := range l {
		for _, b := range l {
			asked(t, a, b)
		}
	}
	bad := func(l []api.Comp) bool { return op.Check(l) != api.OK }
	for _, a := range slices.DeleteFunc(lists(4, r(1), r(2), i("aé"), d(1), d(2)), bad) {
		for _, b := range slices.DeleteFunc(lists(4, r(1), r(3), i("x"), d(1), d(2)), bad) {
			asked(t, a, b)
		}
	}
}

// TestEachPlace asks all pairs of edits of few code points.
func TestEachPlace(t *testing.T) {
	for n := range 4 {
		for _, a := range plans(n, "a") {
			for _, b := range plans(n, "é") {
				asked(t, a, b)
			}
		}
	}
}

func TestLongerOnes(t *testing.T) {
	x := dice(10)
	for range 3000 {
		n := x.below(60)
		asked(t, x.edit(n, 2+x.below(9)), x.edit(n, 2+x.below(9)))
	}
	for range 100 {
		n := 300 + x.below(300)
		asked(t, x.edit(n, 30), x.edit(n, 30))
	}
}

// TestErrorsInOrder holds that of several errors the first one is told, and nothing beside it.
func TestErrorsInOrder(t *testing.T) {
	long := strings.Repeat("€", 2000)
	big, arg := turns(101), parts(r(1), r(1))
	for _, one := range []struct {
		a, b []api.Comp
		want api.Errno
	}{
		{big, arg, api.ErrBig}, {big, nil, api.ErrBig}, {arg, big, api.ErrArg}, {arg, nil, api.ErrArg}, {nil, big, api.ErrBig}, {nil, arg, api.ErrArg}, // b's ahead of ErrText
		{parts(r(2)), big, api.ErrBig}, {parts(r(2)), arg, api.ErrArg}, {parts(r(0)), parts(r(2001)), api.ErrArg}, {parts(r(2001)), parts(r(0)), api.ErrBig},
		{parts(d(1), i("a")), parts(r(1)), api.ErrArg}, {parts(r(1)), parts(d(1), i("a")), api.ErrArg}, {parts(i("\xff")), nil, api.ErrArg}, {nil, parts(i("\x00")), api.ErrArg},
		{parts(i(long + "a")), nil, api.ErrBig}, {nil, parts(i(long + "a")), api.ErrBig}, {parts(d(2001)), parts(d(2001)), api.ErrBig}, {parts(r(1 << 62)), parts(r(1 << 62)), api.ErrBig},
		{parts(r(1)), parts(r(2)), api.ErrText}, {parts(d(2)), parts(r(1)), api.ErrText}, {nil, parts(d(1)), api.ErrText}, {parts(r(1)), nil, api.ErrText}, {parts(r(1)), parts(i("a")), api.ErrText}, {parts(i("a"), r(1)), parts(r(2)), api.ErrText}, // the Base is asked, not the Out
	} {
		for _, first := range []bool{true, false} {
			if l, e := xform.Over(one.a, one.b, first); len(l) != 0 || e != one.want {
				t.Errorf("P10.1: Over(%s; %s; %v) is %s, %d, not %d", show(one.a), show(one.b), first, show(l), e, one.want)
			}
			if l, e := xform.Many(one.a, rows(one.b), first); len(l) != 0 || e != one.want {
				t.Errorf("P10.1: Many(%s; %s; %v) is %s, %d, not %d", show(one.a), show(one.b), first, show(l), e, one.want)
			}
		}
		if x, y, e := xform.Both(one.a, one.b); len(x) != 0 || len(y) != 0 || e != one.want {
			t.Errorf("P10.1: Both(%s; %s) is %s; %s, %d, not %d", show(one.a), show(one.b), show(x), show(y), e, one.want)
		}
	}
}

// TestGreatOnes asks the greatest that Check takes, and those whose outcome it takes no more.
func TestGreatOnes(t *testing.T) {
	long, half := strings.Repeat("aé€😀", 500), strings.Repeat("aé€😀", 250)
	many := turns(99)
	many[98] = r(2000 - 98)
	all := rows(many, parts(r(2000)), parts(d(2000)), parts(i(long), d(2000)), parts(r(1999), i("x"), d(1)), parts(r(1000), i(half), d(1000)), parts(d(1000), r(1), i(half), d(999)))
	for _, a := range all {
		for _, b := range all {
			asked(t, a, b)
		}
	}
	asked(t, parts(i(long)), parts(i(long)))
	if l, e := xform.Over(parts(i(long)), parts(i(long)), true); !slices.Equal(l, parts(i(long), r(2000))) || e != api.OK || op.Check(l) != api.ErrBig {
		t.Errorf("P10.1: Over of 2000 code points put in by each is %s, %d", show(l), e)
	}
	even, odd, cut := []api.Comp{}, parts(r(1)), []api.Comp{}
	for range 49 {
		even, odd = append(even, i("é"), r(2)), append(odd, i("€"), r(2))
	}
	for range 25 {
		cut = append(cut, i("a"), d(3), r(1))
	}
	even, odd[98].N = append(even, r(2)), 3
	even = op.Normal(even)
	for _, l := range rows(even, odd, cut, turns(100), parts(d(100))) {
		for _, m := range rows(even, odd, cut, turns(100), parts(d(100))) {
			asked(t, l, m)
		}
	}
	if l, e := xform.Over(cut, odd, true); len(l) != 125 || e != api.OK {
		t.Errorf("P10.1: Over of 75 parts behind 99 has %d parts, %d", len(l), e)
	}
}

// TestManyTable asks rows of edits, some of them with a wrong one.
func TestManyTable(t *testing.T) {
	long := strings.Repeat("é", 2000)
	for _, one := range []struct {
		a     []api.Comp
		l     [][]api.Comp
		first bool
		want  []api.Comp
		e     api.Errno
	}{
		{nil, nil, true, nil, api.OK}, {nil, rows(nil, []api.Comp{}), false, nil, api.OK}, {parts(r(1), i("é"), d(1)), nil, true, parts(r(1), i("é"), d(1)), api.OK},
		{parts(r(2), r(0), i("\xff")), nil, true, parts(r(2), r(0), i("\xff")), api.OK}, {turns(101), [][]api.Comp{}, false, turns(101), api.OK}, // nothing is asked of it
		{parts(r(1), i("x"), r(1)), rows(parts(i("a"), r(2)), parts(r(3), i("b"))), false, parts(r(2), i("x"), r(2)), api.OK},
		{parts(i("x")), rows(parts(i("a")), parts(r(1), i("b"))), true, parts(i("x"), r(2)), api.OK}, {parts(i("x")), rows(parts(i("a")), parts(r(1), i("b")), parts(i("c"), r(2))), false, parts(r(3), i("x")), api.OK},
		{parts(i("x")), rows(parts(i("a")), parts(i("b"), r(1))), false, parts(r(2), i("x")), api.OK}, {parts(d(3)), rows(parts(r(1), i("ab"), r(2)), parts(d(2), r(3)), parts(r(2), d(1))), true, parts(r(1), d(1)), api.OK},
		{parts(r(1)), rows(parts(i("a"), r(1)), parts(r(1))), true, nil, api.ErrText}, {parts(r(1)), rows(parts(i("a"), r(1)), parts(r(2)), parts(r(0))), true, nil, api.ErrArg}, {parts(r(1)), rows(parts(r(2)), parts(r(0))), true, nil, api.ErrText}, {parts(r(1)), rows(parts(r(0)), parts(r(2))), true, nil, api.ErrArg}, // the first error
		{parts(r(0)), rows(parts(r(1))), true, nil, api.ErrArg}, {turns(101), rows(parts(r(0))), true, nil, api.ErrBig}, {parts(r(1)), rows(parts(d(1)), turns(101)), false, nil, api.ErrBig},
		{parts(i(long)), rows(parts(i("a"))), false, parts(r(1), i(long)), api.OK}, {parts(i(long)), rows(parts(i("a")), parts(r(1))), false, nil, api.ErrBig}, {parts(i(long)), rows(parts(i("a")), parts(r(0))), false, nil, api.ErrBig}, // the outcome's Check is not asked, till Over is of it
	} {
		if got, e := xform.Many(one.a, one.l, one.first); !slices.Equal(got, one.want) || e != one.e {
			t.Errorf("P10.1: Many(%s; %d edits; %v) is %s, %d, not %s, %d", show(one.a), len(one.l), one.first, show(got), e, show(one.want), one.e)
		}
	}
}

// TestManyIsOverOfEach asks rows of edits, one behind the other, some of them with a wrong one somewhere.
func TestManyIsOverOfEach(t *testing.T) {
	x := dice(11)
	for range 3000 {
		n, first := x.below(20), x.below(2) == 0
		a := x.edit(n, 4)
		want, e := a, api.OK
		var l [][]api.Comp
		for range x.below(8) {
			next := x.edit(n, 5)
			if x.below(20) == 0 {
				next = append(next, parts(r(0), i("a"), d(1), r(1), r(2001))[x.below(5)])
			}
			l, n = append(l, next), op.Out(next)
			if e == api.OK {
				want, e = overOf(want, next, first)
			}
		}
		if got, f := xform.Many(a, l, first); !slices.Equal(got, want) || f != e {
			t.Errorf("P10.1: Many(%s; %d edits; %v) is %s, %d, not %s, %d", show(a), len(l), first, show(got), f, show(want), e)
		}
	}
}

// TestAlike holds that one who has done an edit ahead of a row of others comes to the same text as one who does it behind them.
func TestAlike(t *testing.T) {
	x := dice(12)
	for range 2000 {
		text := string([]rune("abcdefghijklmnopqrstuvwxyz")[:x.below(27)])
		n := len(text)
		mine := x.edit(n, 4)
		ours, _ := apply.Do(text, mine)
		var l [][]api.Comp
		left := mine
		for range 1 + x.below(4) {
			next := x.edit(n, 6)
			l, n = append(l, next), op.Out(next)
			text, _ = apply.Do(text, next)
			theirs, e := xform.Over(next, left, true)
			left, _ = xform.Over(left, next, false)
			var f api.Errno
			ours, f = apply.Do(ours, theirs)
			if e != api.OK || f != api.OK {
				t.Errorf("P10.2: Over of %s is %s, %d, %d", show(next), show(theirs), e, f)
			}
		}
		behind, e := xform.Many(mine, l, false)
		text, f := apply.Do(text, behind)
		if text != ours || e != api.OK || f != api.OK {
			t.Errorf("W3: %s behind %d edits makes %q, not %q (%d, %d)", show(mine), len(l), text, ours, e, f)
		}
	}
}

// TestIntentions holds that what was put in stands there once, that what was kept keeps its order, and that only what somebody deleted is gone.
func TestIntentions(t *testing.T) {
	a := parts(r(1), i("1"), d(2), r(1), i("2"), r(2), i("3"))
	b := parts(i("4"), r(1), i("5"), r(1), i("6é"), d(2), r(2), i("7"))
	for _, one := range []struct {
		first bool
		want  string
	}{{true, "4a156é2ef37"}, {false, "4a516é2ef73"}} {
		l, _ := xform.Over(a, b, one.first)
		text, _ := apply.Do("abcdef", b)
		if text, e := apply.Do(text, l); text != one.want || e != api.OK {
			t.Errorf("W4: Over is %s, which makes %q, %d, not %q", show(l), text, e, one.want)
		}
	}
}

// TestHandedInStays holds that neither a list nor its spare room is changed, of what Check takes and of what it does not.
func TestHandedInStays(t *testing.T) {
	a := parts(i("xé"), d(1), r(1), i("€y"), d(2), r(3), i("z"), d(1))
	b := parts(r(1), i("1"), d(2), r(1), i("2"), r(2), d(1), i("3"), r(1))
	all := rows(a, b, b)
	wasA, wasB := slices.Clone(a), slices.Clone(b)
	for n := range len(a) + 1 {
		for m := range len(b) + 1 {
			all[0], all[1], all[2] = a[:n], b[:m], b
			xform.Over(a[:n], b[:m], true)
			xform.Over(a[:n], b[:m], false)
			xform.Both(a[:n], b[:m])
			xform.Many(a[:n], all[:0], true)
			xform.Many(a[:n], all[:2], false)
			if len(all[0]) != n || len(all[1]) != m || len(all[2]) != len(b) {
				t.Fatalf("P10.2: Many changed the row of lists")
			}
		}
	}
	if !slices.Equal(a, wasA) || !slices.Equal(b, wasB) {
		t.Errorf("P10.2: what was handed in is %s; %s now", show(a), show(b))
	}
}

// overlap tells whether two texts lie in one memory.
func overlap(a, b string) bool {
	from, other := uintptr(unsafe.Pointer(unsafe.StringData(a))), uintptr(unsafe.Pointer(unsafe.StringData(b)))
	return from < other+uintptr(len(b)) && other < from+uintptr(len(a))
}

func TestAnswersAreNewMemory(t *testing.T) {
	long, other := strings.Repeat("é", 40), strings.Repeat("€", 40)
	texts := []string{long, other}
	a, b := parts(r(1), i(long), r(1)), parts(r(1), i(other), d(1))
	for range 2 {
		x, _ := xform.Over(a, b, true)
		y, z, _ := xform.Both(a, b)
		u, _ := xform.Many(a, nil, true)
		v, _ := xform.Many(b, rows(a), true)
		w, _ := xform.Many(b, rows(parts(r(3)), parts(r(3))), true)
		for _, c := range slices.Concat(x, y, z, u, v, w) {
			texts = append(texts, c.Text)
		}
	}
	for at, one := range texts {
		for with, two := range texts[:at] {
			if overlap(one, two) {
				t.Errorf("P10.2: texts %d and %d share their memory", at, with)
			}
		}
	}
	keep := parts(r(2))
	for _, answer := range []func() []api.Comp{
		func() []api.Comp { l, _ := xform.Over(keep, keep, true); return l },
		func() []api.Comp { l, _, _ := xform.Both(keep, keep); return l },
		func() []api.Comp { _, l, _ := xform.Both(keep, keep); return l },
		func() []api.Comp { l, _ := xform.Many(keep, nil, true); return l },
		func() []api.Comp { l, _ := xform.Many(keep, rows(keep), true); return l },
	} {
		one, two := answer(), answer()
		one[0] = i("a")
		if keep[0] != r(2) || two[0] != r(2) {
			t.Errorf("P10.2: two lists share their memory: %s, %s", show(keep), show(two))
		}
	}
	x, y, _ := xform.Both(keep, keep)
	x[0] = i("a")
	if y[0] != r(2) {
		t.Errorf("P10.2: Both's lists share their memory: %s", show(y))
	}
}
