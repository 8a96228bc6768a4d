package txn_test

import (
	"fmt"
	"slices"
	"strings"
	"testing"

	"ropewalk/api"
	"ropewalk/tree"
	"ropewalk/txn"
)

// done holds Do against chapter 13's acts, one by one, and answers what it answered.
func done(t *testing.T, x *tree.Tree, l []api.Act) (*tree.Tree, api.Errno) {
	t.Helper()
	was := x.Copy()
	want, at, e := x.Copy(), len(l), check(l)
	if e != api.OK {
		at = -1
	}
	for k := 0; k < len(l) && e == api.OK; k++ {
		e = want.Do(l[k])
		if e != api.OK {
			at = k
		}
	}
	if e != api.OK {
		want = nil
	}
	got, n, f := txn.Do(x, l)
	if !tree.Same(got, want) || n != at || f != e {
		t.Fatalf("P14.2: Do(%v, %s) is %v, %d, %d, not %v, %d, %d", was.Nodes(), show(l), got.Nodes(), n, f, want.Nodes(), at, e)
	}
	if !tree.Same(x, was) {
		t.Fatalf("P14.3: Do(%v, %s) makes of the tree %v", was.Nodes(), show(l), x.Nodes())
	}
	return got, f
}

// TestExample is the chapter's: Create, then Edit of it.
func TestExample(t *testing.T) {
	x := tree.New()
	y, n, e := txn.Do(x, acts(create(1, 0, "a", false), edit(1, i("é"))))
	if l := y.Nodes(); !slices.Equal(l, []api.Node{file(1, 0, "a", "é")}) || n != 2 || e != api.OK {
		t.Errorf("P14.2: both: %v, %d, %d", l, n, e)
	}
	for _, l := range [][]api.Act{acts(create(1, 0, "a", false), edit(1, r(1))), acts(create(1, 0, "a", true), edit(1, i("é")))} {
		y, n, e = txn.Do(x, l)
		if y != nil || n != 1 || e == api.OK || len(x.Nodes()) != 0 {
			t.Errorf("P14.2: nothing: %v, %d, %d, and %v", y.Nodes(), n, e, x.Nodes())
		}
	}
}

// TestDoTold tells outright what comes of a tree.
func TestDoTold(t *testing.T) {
	nodes := []api.Node{dir(1, 0, "d"), file(2, 1, "f", "abc"), file(4, 0, "g", "")}
	for _, c := range []struct {
		l    []api.Act
		want []api.Node
		at   int
		e    api.Errno
	}{
		{nil, nodes, 0, api.OK}, {[]api.Act{}, nodes, 0, api.OK},
		{acts(remove(2), remove(1), remove(4)), nil, 3, api.OK},
		{acts(remove(1), remove(2)), nil, 0, api.ErrHeld}, {acts(remove(2), remove(2)), nil, 1, api.ErrNone}, {acts(remove(2), edit(2, r(3))), nil, 1, api.ErrNone},
		{acts(move(2, 0, "f"), move(4, 1, "f"), edit(2, r(1), d(1), r(1)), edit(4, i("x"))), []api.Node{dir(1, 0, "d"), file(2, 0, "f", "ac"), file(4, 1, "f", "x")}, 4, api.OK},
		{acts(move(2, 0, "f"), move(4, 1, "f"), edit(2, r(1), d(1)), edit(4, i("x"))), nil, 2, api.ErrText},
		{acts(edit(2, r(3)), create(3, 2, "a", false)), nil, 1, api.ErrKind}, {acts(create(3, 1, "e", true), move(1, 3, "e")), nil, 1, api.ErrCycle}, {acts(create(3, 1, "e", true), move(4, 3, "e"), create(5, 3, "e", false)), nil, 2, api.ErrThere},
		{acts(remove(4), create(4, 1, "g", true), move(2, 4, "f"), edit(2, d(3))), []api.Node{dir(1, 0, "d"), file(2, 4, "f", ""), dir(4, 1, "g")}, 4, api.OK},
		{acts(remove(2), create(2, 0, "h", false), edit(2, i("h"))), []api.Node{dir(1, 0, "d"), file(2, 0, "h", "h"), file(4, 0, "g", "")}, 3, api.OK},
		{acts(edit(2, r(3), i("é")), remove(2)), []api.Node{dir(1, 0, "d"), file(4, 0, "g", "")}, 2, api.OK},
		{acts(remove(9), remove(0)), nil, -1, api.ErrArg}, {acts(remove(9), edit(2, r(2001))), nil, -1, api.ErrBig}, {acts(edit(2, r(3)), edit(2, r(3))), nil, -1, api.ErrArg}, {acts(edit(2, r(9), some(1000)), edit(4, some(1001))), nil, -1, api.ErrBig}, {slices.Repeat(acts(remove(9)), 21), nil, -1, api.ErrBig}, {slices.Repeat(acts(remove(9)), 20), nil, 0, api.ErrNone},
		{acts(api.Act{Kind: api.Remove, ID: 2, Parent: 1}), nil, -1, api.ErrArg}, {acts(api.Act{}), nil, -1, api.ErrArg},
	} {
		x := load(t, nodes...)
		y, n, e := txn.Do(x, c.l)
		if !slices.Equal(y.Nodes(), c.want) || (y == nil) != (c.e != api.OK) || n != c.at || e != c.e {
			t.Errorf("P14.2: Do(%s) is %v, %d, %d, not %v, %d, %d", show(c.l), y.Nodes(), n, e, c.want, c.at, c.e)
		}
		if !slices.Equal(x.Nodes(), nodes) {
			t.Errorf("P14.3: behind Do(%s) the tree is %v", show(c.l), x.Nodes())
		}
		done(t, x, c.l)
	}
}

// TestDoShort does all lists of up to three acts with some trees.
func TestDoShort(t *testing.T) {
	pool := acts(
		create(1, 0, "a", true), create(2, 1, "b", false), create(3, 2, "a", false), create(3, 0, "b", true), remove(1), remove(2), remove(3), remove(0),
		move(1, 0, "b"), move(2, 0, "a"), move(1, 3, "a"), move(3, 1, "c"), move(3, 3, "c"), edit(2, i("é")), edit(2, r(1)), edit(2, d(1)), edit(2), edit(1, i("a")), edit(9), edit(2, r(0)),
	)
	for _, x := range []*tree.Tree{nil, tree.New(), new(tree.Tree), load(t, dir(1, 0, "a"), file(2, 1, "b", "é")), load(t, file(2, 0, "a", ""), dir(3, 0, "b")), load(t, dir(1, 3, "c"), dir(3, 0, "b"), file(4, 1, "a", "x"))} {
		lists(3, pool, func(l []api.Act) { done(t, x, l) })
	}
}

// TestDoLimits: 13's limits hold act by act, on the way too.
func TestDoLimits(t *testing.T) {
	var l []api.Node
	for id := 1; id <= 100; id++ {
		n := file(id, 0, fmt.Sprint("n", id), "")
		if id <= 5 {
			n.Text = strings.Repeat("é", 2000)
		}
		l = append(l, n)
	}
	full := load(t, l...)
	for _, c := range []struct {
		l  []api.Act
		at int
		e  api.Errno
	}{
		{acts(create(101, 0, "x", false)), 0, api.ErrFull}, {acts(create(101, 0, "x", false), remove(6)), 0, api.ErrFull}, {acts(remove(6), create(101, 0, "x", false)), 2, api.OK}, {acts(remove(6), create(101, 0, "x", true), create(102, 0, "y", true)), 2, api.ErrFull},
		{acts(edit(7, i("a"))), 0, api.ErrFull}, {acts(edit(7, i("a")), edit(1, r(1999), d(1))), 0, api.ErrFull}, {acts(edit(1, r(1999), d(1)), edit(7, i("a"))), 2, api.OK}, {acts(remove(1), edit(7, some(2000))), 2, api.OK}, {acts(edit(1, i("a"), d(1), r(1999)), edit(7, i("a"))), 1, api.ErrFull},
	} {
		y, n, e := txn.Do(full, c.l)
		if n != c.at || e != c.e || (y == nil) != (c.e != api.OK) {
			t.Errorf("P14.2: Do(%s) is %d, %d, not %d, %d", show(c.l), n, e, c.at, c.e)
		}
		done(t, full, c.l)
	}
}

// TestDoRefusedAtEach refuses an act at each place of 20.
func TestDoRefusedAtEach(t *testing.T) {
	var l []api.Act
	for id := 1; id <= 20; id++ {
		l = append(l, create(id, id-1, "d", true))
	}
	y, e := done(t, tree.New(), l)
	if e != api.OK || len(y.Nodes()) != 20 {
		t.Errorf("P14.2: %d of 20 are there", len(y.Nodes()))
	}
	for at := range l {
		bad := slices.Clone(l)
		bad[at] = remove(77)
		if y, n, e := txn.Do(tree.New(), bad); y != nil || n != at || e != api.ErrNone {
			t.Errorf("P14.2: act %d is refused: %v, %d, %d", at, y.Nodes(), n, e)
		}
	}
}

// TestDoNil: a nil tree has no nodes; what is done with it is refused, as chapter 13 says.
func TestDoNil(t *testing.T) {
	for _, c := range []struct {
		l  []api.Act
		at int
		e  api.Errno
	}{{nil, 0, api.OK}, {[]api.Act{}, 0, api.OK}, {acts(create(1, 0, "a", true), remove(1)), 0, api.ErrNone}, {acts(edit(1)), 0, api.ErrNone}, {acts(remove(1), remove(0)), -1, api.ErrArg}, {make([]api.Act, 21), -1, api.ErrBig}} {
		if y, n, e := txn.Do(nil, c.l); y != nil || n != c.at || e != c.e {
			t.Errorf("P14.2: Do(nil, %s) is %v, %d, %d", show(c.l), y.Nodes(), n, e)
		}
	}
}

// actBy is an act by the dice, mostly one that may be done; added is what was put in already.
func actBy(x *dice, t *tree.Tree, added int) api.Act {
	nodes := t.Nodes()
	id, parent, text := 1+x.below(40), 0, ""
	if len(nodes) > 0 {
		n := pick(x, nodes...)
		parent = pick(x, 0, pick(x, nodes...).ID, 1+x.below(40))
		if x.below(9) > 0 {
			id, text = n.ID, n.Text
		}
	}
	name := fmt.Sprint("n", x.below(60))
	switch x.below(7) {
	case 0, 1, 2:
		return create(1+x.below(40), parent, name, x.below(2) == 0)
	case 3:
		return remove(id)
	case 4:
		return move(id, parent, name)
	}
	n := len([]rune(text))
	put := strings.Repeat(pick(x, "é", "a", "😀"), 1+x.below(pick(x, 3, 50, 2001-min(added, 1999))))
	switch {
	case n == 0:
		return edit(id, i(put))
	case n == 1 || x.below(3) == 0:
		return edit(id, i(put), d(n))
	}
	return edit(id, r(1), i(put), d(n-1))
}

// TestLongRuns does many transactions, the next one with what came of the last one.
func TestLongRuns(t *testing.T) {
	told := map[api.Errno]int{}
	for seed := range 10 {
		throw := dice(seed)
		x := tree.New()
		for range 300 {
			var l []api.Act
			seen := x.Copy() // as acts are made for what those ahead of them made
			for range throw.below(throw.below(22) + 1) {
				a := actBy(&throw, seen, len(l)*50)
				seen.Do(a)
				l = append(l, a)
			}
			y, e := done(t, x, l)
			told[e]++
			if e == api.OK {
				x = y
			}
		}
	}
	for _, e := range []api.Errno{api.OK, api.ErrArg, api.ErrBig, api.ErrHeld, api.ErrKind, api.ErrNone, api.ErrThere} {
		if told[e] == 0 {
			t.Errorf("no run has told %d: %v", e, told)
		}
	}
}
