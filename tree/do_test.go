package tree_test

import (
	"fmt"
	"math"
	"strings"
	"testing"

	"ropewalk/api"
	"ropewalk/tree"
)

func TestExample(t *testing.T) {
	for _, c := range []struct {
		dir  bool
		want api.Errno
	}{{false, api.ErrKind}, {true, api.OK}} {
		x := tree.New()
		one, two := x.Do(create(1, 0, "a", c.dir)), x.Do(create(2, 1, "b", false))
		if one != api.OK || two != c.want {
			t.Errorf("P13.2: Create 1, Create 2 in 1 are %d, %d", one, two)
		}
	}
}

// smallActs is all acts on IDs 1 to 3, and wrong ones.
func smallActs() (l []api.Act) {
	ids := []int{-1, 0, 1, 2, 3, 4}
	for _, id := range ids {
		l = append(l, remove(id), edit(id, i("é")), edit(id, d(1)), edit(id, r(1)), edit(id), edit(id, r(-1)))
		for _, parent := range ids {
			for _, name := range []string{"a", "b", "", ".."} {
				l = append(l, move(id, parent, name))
				if id < 4 {
					l = append(l, create(id, parent, name, false), create(id, parent, name, true))
				}
			}
		}
	}
	return l
}

// smallTrees is how many trees there are of IDs 1 to 3, Names a and b, and one é at most.
func smallTrees() (n int) {
	var grow func(l []api.Node, id, left int)
	grow = func(l []api.Node, id, left int) {
		if id > 3 {
			if isTree(l) {
				n++
			}
			return
		}
		grow(l, id+1, left)
		for parent := range 4 {
			for _, name := range []string{"a", "b"} {
				grow(append(l, dir(id, parent, name)), id+1, left)
				grow(append(l, file(id, parent, name, "")), id+1, left)
				if left > 0 {
					grow(append(l, file(id, parent, name, "é")), id+1, left-1)
				}
			}
		}
	}
	grow(nil, 1, 1)
	return n
}

// TestAllActs goes to all of these, and does all acts with each one.
func TestAllActs(t *testing.T) {
	acts := smallActs()
	seen := map[string]model{fmt.Sprint(list()): {}}
	left := []model{{}}
	for len(left) > 0 {
		m := left[0]
		left = left[1:]
		for _, a := range acts {
			x, e := tree.Load(m.nodes())
			if e != api.OK {
				t.Fatalf("P13.3: Load of %s is %d", show(m.nodes()), e)
			}
			next := done(t, x, m, a)
			if key := fmt.Sprint(next.nodes()); seen[key] == nil && len(next[1].Text)+len(next[2].Text)+len(next[3].Text) <= 2 { // one é
				seen[key] = next
				left = append(left, next)
				asked(t, x, next.nodes())
				if !isTree(next.nodes()) {
					t.Fatalf("P13.3: %s is no tree", show(next.nodes()))
				}
			}
		}
	}
	if len(seen) != smallTrees() {
		t.Errorf("P13.2: %d trees of %d were come to", len(seen), smallTrees())
	}
}

// TestOrder asks that of two errors the first one is told.
func TestOrder(t *testing.T) {
	l := append(list(dir(1, 0, "d"), file(2, 0, "f", "abc"), dir(3, 1, "e"), file(4, 3, "g", ""), dir(5, 0, "h")), row(100, fileIn(5))[5:]...)
	for id := 6; id <= 9; id++ {
		l[id-1].Text = strings.Repeat("é", 2000)
	}
	l[9].Text = strings.Repeat("€", 1997) // all there may be
	bad := strings.Repeat("x", 21)
	for _, c := range []struct {
		a api.Act
		e api.Errno
	}{
		{create(0, 999, "a", true), api.ErrArg}, {create(most+1, 2, "d", true), api.ErrArg}, {create(1, 999, "", true), api.ErrArg}, {create(1, 2, "..", true), api.ErrArg}, {create(500, 0, bad, true), api.ErrArg},
		{create(1, 999, "a", true), api.ErrThere}, {create(1, 2, "a", true), api.ErrThere}, {create(1, 0, "d", true), api.ErrThere}, {create(2, 0, "z", false), api.ErrThere},
		{create(500, 999, "a", true), api.ErrNone}, {create(500, -1, "a", true), api.ErrNone}, {create(500, 500, "a", true), api.ErrNone},
		{create(500, 2, "a", true), api.ErrKind}, {create(500, 0, "d", true), api.ErrThere}, {create(500, 1, "e", false), api.ErrThere}, {create(500, 0, "z", true), api.ErrFull}, {create(500, 1, "z", false), api.ErrFull}, {create(most, 3, "z", false), api.ErrFull},
		{remove(0), api.ErrNone}, {remove(-1), api.ErrNone}, {remove(999), api.ErrNone}, {remove(most + 1), api.ErrNone}, {remove(1), api.ErrHeld}, {remove(3), api.ErrHeld}, {remove(4), api.OK},
		{move(999, 999, ""), api.ErrArg}, {move(1, 1, "."), api.ErrArg}, {move(1, 2, bad), api.ErrArg}, {move(0, 2, "a"), api.ErrNone}, {move(999, 2, "a"), api.ErrNone}, {move(-1, 0, "d"), api.ErrNone},
		{move(1, 999, "a"), api.ErrNone}, {move(1, -1, "a"), api.ErrNone}, {move(2, 999, "a"), api.ErrNone},
		{move(2, 2, "a"), api.ErrKind}, {move(1, 4, "a"), api.ErrKind}, {move(3, 4, "g"), api.ErrKind}, // within itself too
		{move(1, 1, "e"), api.ErrCycle}, {move(1, 3, "g"), api.ErrCycle}, {move(1, 3, "z"), api.ErrCycle}, {move(3, 3, "g"), api.ErrCycle}, // and the Name is there
		{move(3, 0, "d"), api.ErrThere}, {move(3, 0, "f"), api.ErrThere}, {move(4, 0, "f"), api.ErrThere}, {move(2, 1, "e"), api.ErrThere},
		{move(3, 1, "e"), api.OK}, {move(2, 0, "f"), api.OK}, {move(3, 1, "z"), api.OK}, {move(3, 0, "z"), api.OK}, {move(4, 1, "g"), api.OK},
		{edit(0, r(-1)), api.ErrNone}, {edit(999, r(-1)), api.ErrNone}, {edit(1, r(-1)), api.ErrKind}, {edit(1), api.ErrKind}, {edit(1, i("a")), api.ErrKind},
		{edit(2, make([]api.Comp, 101)...), api.ErrBig}, {edit(2, r(0)), api.ErrArg}, {edit(2, d(1), i("a")), api.ErrArg}, {edit(2, i("\xff"), r(3)), api.ErrArg}, {edit(2, r(2), i("\x00"), r(1)), api.ErrArg},
		{edit(2, r(2001)), api.ErrBig}, {edit(2, r(3), i(strings.Repeat("a", 1998))), api.ErrBig}, {edit(6, r(2000), i("a")), api.ErrBig}, {edit(2, r(4), i("a")), api.ErrText}, {edit(2, i("a")), api.ErrText}, {edit(2), api.ErrText},
		{edit(2, r(3), i("a")), api.ErrFull}, {edit(2, i("ab"), d(1), r(2)), api.ErrFull}, {edit(4, i("a")), api.ErrFull}, {edit(10, r(1997), i("é")), api.ErrFull}, {edit(2, r(3), i(strings.Repeat("a", 1997))), api.ErrFull},
		{edit(2, i("é"), d(1), r(2)), api.OK}, {edit(2, r(3)), api.OK}, {edit(2, d(3)), api.OK}, {edit(4), api.OK}, {edit(6, i("x"), d(1), r(1999)), api.OK},
	} {
		x := load(t, l)
		if e := x.Do(c.a); e != c.e {
			t.Errorf("P13.2: Do(%s) is %d, not %d", showAct(c.a), e, c.e)
		} else if e != api.OK {
			holds(t, "P13.2: behind a refused "+showAct(c.a), x, l)
		}
		done(t, load(t, l), modelOf(l), c.a)
	}
}

// TestKinds: another Kind is ErrArg, be the rest right or not, and of a nil Tree too.
func TestKinds(t *testing.T) {
	l := list(dir(1, 0, "d"), file(2, 1, "f", "abc"))
	for _, kind := range []int{0, -1, 5, 6, 9, 255, 256, 257, 1 << 32, 1<<32 + 1, math.MinInt, math.MaxInt} {
		for _, a := range []api.Act{{}, create(3, 0, "x", false), remove(2), move(2, 0, "x"), edit(2, r(3), i("x")), create(1, 9, "", true)} {
			a.Kind = kind
			x := load(t, l)
			if e := x.Do(a); e != api.ErrArg {
				t.Errorf("P13.2: Do(%s) is %d", showAct(a), e)
			}
			holds(t, "P13.2: behind it", x, l)
			if e := (*tree.Tree)(nil).Do(a); e != api.ErrArg {
				t.Errorf("P13.3: Do(%s) of nil is %d", showAct(a), e)
			}
		}
	}
}

// TestOtherFields: those that a Kind does not name are not asked.
func TestOtherFields(t *testing.T) {
	l := list(dir(1, 0, "d"), file(2, 1, "f", "abc"), dir(3, 0, "e"))
	ops := [][]api.Comp{nil, {r(-1)}, {i("\xff")}, make([]api.Comp, 200), {r(3), i("x")}}
	for _, plain := range []api.Act{create(4, 1, "x", true), create(4, 1, "x", false), create(4, 2, "x", false), remove(2), remove(1), move(2, 3, "x"), move(1, 1, "x"), edit(2, r(3), i("é")), edit(2, r(1)), edit(1)} {
		want, f := modelOf(l).do(plain)
		for _, parent := range []int{0, 1, 2, 3, 99, -1, math.MinInt} {
			for _, name := range []string{"", "d", "..", "\xff"} {
				for _, other := range ops {
					for _, isDir := range []bool{false, true} {
						a := plain
						switch a.Kind {
						case api.Create:
							a.Ops = other
						case api.Remove:
							a.Parent, a.Name, a.Dir, a.Ops = parent, name, isDir, other
						case api.Move:
							a.Dir, a.Ops = isDir, other
						case api.Edit:
							a.Parent, a.Name, a.Dir = parent, name, isDir
						}
						x := load(t, l)
						if e := x.Do(a); e != f {
							t.Errorf("P13.2: Do(%s) is %d, not %d", showAct(a), e, f)
						}
						holds(t, "P13.2: Do("+showAct(a)+")", x, want.nodes())
					}
				}
			}
		}
	}
}

// TestIDs asks the edges of a Create's ID.
func TestIDs(t *testing.T) {
	for _, id := range []int{math.MinInt, -most, -1, 0, 1, 2, 1 << 20, 1 << 32, most - 1, most, most + 1, 1 << 41, math.MaxInt} {
		x, m := tree.New(), model{}
		m = done(t, x, m, create(id, 0, "a", true))
		m = done(t, x, m, create(id, 0, "b", true))
		m = done(t, x, m, create(1, id, "c", false))
		m = done(t, x, m, move(1, id, "d"))
		m = done(t, x, m, edit(id, i("x")))
		m = done(t, x, m, remove(id))
		asked(t, x, m.nodes())
	}
}

// TestNames asks the names of a Create and of a Move.
func TestNames(t *testing.T) {
	for _, name := range []string{"", ".", "..", "...", "a", "z", "0", "9", "-", "_", "A", "a/b", "a b", "é", "\xff", "a\x00", strings.Repeat("a", 20), strings.Repeat("a", 21), strings.Repeat(".", 20)} {
		x, m := tree.New(), model{}
		m = done(t, x, m, create(1, 0, name, true))
		m = done(t, x, m, create(2, 0, "b", true))
		m = done(t, x, m, create(3, 2, name, false))
		m = done(t, x, m, move(2, 0, name))
		m = done(t, x, m, move(2, 1, name))
		asked(t, x, m.nodes())
	}
}

// TestFull fills a tree, by each way.
func TestFull(t *testing.T) {
	for name, parent := range map[string]func(id int) int{"flat": func(int) int { return 0 }, "deep": func(id int) int { return id - 1 }, "wide": func(id int) int { return id / 2 }} {
		x, m := tree.New(), model{}
		for id := 1; id <= 103; id++ {
			m = done(t, x, m, create(id, min(parent(id), 100), fmt.Sprint("n", id), true))
		}
		asked(t, x, m.nodes())
		if len(m) != 100 {
			t.Errorf("P13.2: %s: %d are there", name, len(m))
		}
		m = done(t, x, m, move(100, 0, "x")) // all that is no Create goes on
		m = done(t, x, m, create(200, 0, "y", false))
		m = done(t, x, m, remove(100))
		m = done(t, x, m, create(200, 0, "y", false))
		m = done(t, x, m, edit(200, i("a")))
		done(t, x, m, create(201, 0, "z", false))
	}
}

// TestMaxAll fills the texts, and goes to and fro about the limit.
func TestMaxAll(t *testing.T) {
	l := append(full(2000, 2000, 2000, 2000, 1999), file(6, 0, "x", ""), dir(7, 0, "y"), file(8, 7, "z", ""))
	x, m := load(t, l), modelOf(l)
	for _, a := range []api.Act{
		edit(6, i("é")), edit(8, i("a")), edit(5, r(1999), i("a")), edit(1, i("a"), r(2000)), edit(1, i("aé"), d(2), r(1998)), edit(6, i("bb"), d(1)), edit(6, i("€"), d(1)), edit(6, r(1)), edit(6, d(1)), edit(6, i("ab")), edit(8, i("😀")), edit(6, i("a")),
		edit(1, d(2000)), edit(6, i(strings.Repeat("é", 2000))), edit(8, r(1), i("x")), remove(6), edit(8, r(1), i(strings.Repeat("x", 1999))), create(6, 0, "x", false), edit(6, i("x")), edit(6), remove(8), edit(6, i("x")), move(6, 7, "q"), edit(6, r(1), i("y")),
		edit(5, d(1999)), edit(1, i(strings.Repeat("a", 2000))), edit(5, i(strings.Repeat("a", 2000))), edit(5, i(strings.Repeat("a", 1999))), edit(6, d(1)), edit(5, r(1999), i("a")), edit(6, i("a")),
	} {
		m = done(t, x, m, a)
	}
	if !isTree(m.nodes()) {
		t.Error("P13.3: it is no tree")
	}
}

// TestDeepMoves asks each move of a deep tree.
func TestDeepMoves(t *testing.T) {
	l := append(row(12, deep), dir(20, 6, "side"), dir(21, 20, "low"), file(22, 12, "f", ""))
	for _, n := range l {
		for _, parent := range append(l, dir(0, 0, "")) {
			for _, name := range []string{"new", n.Name, "d2", "side"} {
				x := load(t, l)
				m := done(t, x, modelOf(l), move(n.ID, parent.ID, name))
				asked(t, x, m.nodes())
			}
		}
	}
}

// actBy is an act by the dice, mostly one that may be done.
func actBy(x *dice, m model) api.Act {
	ids := []int{x.below(130), 1 + x.below(120), 1 + x.below(120)}
	for _, n := range m.nodes() {
		ids = append(ids, n.ID)
	}
	id, parent := pick(x, ids...), pick(x, append(ids, 0, 0, 0)...)
	name := pick(x, "a", "b", "c", "d-1", fmt.Sprint("n", x.below(40)), "..", "", fmt.Sprint("n.", x.below(40)))
	switch x.below(8) {
	case 0, 1, 2:
		return create(1+x.below(120), parent, name, x.below(2) == 0)
	case 3:
		return remove(id)
	case 4, 5:
		return move(id, parent, name)
	}
	n := len([]rune(m[id].Text))
	from := x.below(n + 1)
	gone := min(x.below(40), n-from)
	var l []api.Comp
	for _, c := range []api.Comp{r(from), i(strings.Repeat(pick(x, "é", "a", "", "😀"), pick(x, 1, 3, 1500, 2000))), d(gone), r(n - from - gone + x.below(20)/19)} {
		if c.N > 0 || c.Text != "" {
			l = append(l, c)
		}
	}
	return edit(id, l...)
}

// TestLongRuns does many acts, one behind the other, and asks all of what comes of them.
func TestLongRuns(t *testing.T) {
	told := map[api.Errno]int{}
	for seed := range 12 {
		throw := dice(seed)
		x, m := tree.New(), model{}
		for step := range 1500 {
			a := actBy(&throw, m)
			_, e := m.do(a)
			told[e]++
			m = done(t, x, m, a)
			if step%250 == 249 {
				asked(t, x, m.nodes())
				y := load(t, m.nodes())
				if !isTree(m.nodes()) || !tree.Same(x, y) || !tree.Same(x.Copy(), y) {
					t.Fatalf("P13.3: %s is no tree, or not the same", show(m.nodes()))
				}
			}
		}
	}
	for _, e := range []api.Errno{api.OK, api.ErrArg, api.ErrBig, api.ErrCycle, api.ErrFull, api.ErrHeld, api.ErrKind, api.ErrNone, api.ErrText, api.ErrThere} {
		if told[e] == 0 {
			t.Errorf("no run has told %d", e)
		}
	}
}
