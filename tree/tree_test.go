package tree_test

import (
	"fmt"
	"math"
	"slices"
	"strings"
	"testing"

	"ropewalk/api"
	"ropewalk/tree"
)

func TestName(t *testing.T) {
	var all [256]string
	for c := range all {
		all[c] = string([]byte{byte(c)})
	}
	named := func(s string) {
		if got := tree.Name(s); got != isName(s) {
			t.Errorf("P13.1: Name(%q) is %t", s, got)
		}
	}
	named("")
	for _, a := range all {
		named(a)
		for _, b := range all {
			named(a + b)
			named("a" + a + "0" + b + "z")
		}
		for n := range 20 { // a wrong byte at each place
			s := strings.Repeat("a", n) + a
			named(s + strings.Repeat("z", 19-n))
		}
	}
	for n := range 70 {
		for _, s := range []string{"a", "z", "0", "9", ".", "-", "_", "é", "x.-_9"} {
			named(strings.Repeat(s, n))
		}
	}
	for _, s := range []string{"...", ".a", "a.", "..a", "-", "_", "--", "0", "a/b", "/", "a/", "/a", "a b", "a\n", "\na", "é", "ａ", "а", "ſ", "K", "a\x00", "\xff", "a.b-c_9"} {
		named(s)
	}
}

func TestNew(t *testing.T) {
	asked(t, tree.New(), nil)
	asked(t, new(tree.Tree), nil)
	x, e := tree.Load(nil)
	if e != api.OK {
		t.Fatalf("P13.1: Load of none is %d", e)
	}
	asked(t, x, nil)
	if !tree.Same(x, tree.New()) || !tree.Same(tree.New(), tree.New()) {
		t.Error("P13.1: two that have none are not the same")
	}
}

// loaded holds Load against the word tree.
func loaded(t *testing.T, l []api.Node) (*tree.Tree, bool) {
	t.Helper()
	x, e := tree.Load(l)
	if !isTree(l) {
		if e != api.ErrArg || x != nil {
			t.Errorf("P13.1: Load of %s is %d", show(l), e)
		}
		return nil, false
	}
	if e != api.OK || x == nil {
		t.Errorf("P13.1: Load of %s is %d", show(l), e)
		return nil, false
	}
	return x, true
}

// TestLoadAllShort asks all lists of up to three nodes, in all orders.
func TestLoadAllShort(t *testing.T) {
	pool := list(file(4, 1, "a", ""), dir(4, 2, "b"), file(2, 2, "b", ""), dir(0, 0, "a"), file(-1, 0, "b", ""))
	for id := 1; id <= 3; id++ {
		for parent := range 4 {
			pool = append(pool, file(id, parent, "a", ""), file(id, parent, "b", "é"), dir(id, parent, "a"), dir(id, parent, "b"))
		}
	}
	var grow func(l []api.Node)
	grow = func(l []api.Node) {
		if x, ok := loaded(t, l); ok {
			asked(t, x, l)
		}
		if len(l) < 3 {
			for _, n := range pool {
				grow(append(slices.Clone(l), n))
			}
		}
	}
	grow(nil)
}

// TestLoadAllParents asks all ways in which up to five directories may stand in one another: they may go round, also further up.
func TestLoadAllParents(t *testing.T) {
	for n := 1; n <= 5; n++ {
		ways := 1
		for range n {
			ways *= n + 1
		}
		for way := range ways {
			var l []api.Node
			for id := 1; id <= n; id++ {
				l = append(l, dir(id, way%(n+1), string(rune('a'+id))))
				way /= n + 1
			}
			if x, ok := loaded(t, l); ok {
				asked(t, x, l)
			}
		}
	}
}

// TestLoadOneFault asks a tree with one node turned, at each place.
func TestLoadOneFault(t *testing.T) {
	sound := list(dir(3, 0, "a"), file(7, 3, "b", "aé\n"), dir(9, 12, "c"), file(10, 0, "b", ""), dir(12, 3, "a"), file(most, 9, "b", "x"))
	asked(t, load(t, sound), sound)
	turned := func(turn func(n *api.Node)) {
		for k := range sound {
			l := slices.Clone(sound)
			turn(&l[k])
			loaded(t, l)
		}
	}
	for _, id := range []int{math.MinInt, -most, -1, 0, 1, 2, 3, 4, 7, 8, 9, 10, 11, 12, 13, most - 1, most, most + 1, 1 << 41, math.MaxInt} {
		turned(func(n *api.Node) { n.ID = id })
		turned(func(n *api.Node) { n.Parent = id })
	}
	for _, name := range []string{"", ".", "..", "...", "a", "b", "c", "A", "a/b", "/", "é", "\xff", "a\x00", strings.Repeat("a", 20), strings.Repeat("a", 21), strings.Repeat("é", 10)} {
		turned(func(n *api.Node) { n.Name = name })
	}
	for _, text := range []string{"", "\x01", "é", "\n", "\x00", "a\x00", "\xff", "\xc3", "\xed\xa0\x80", "\xc0\x80", strings.Repeat("😀", 2000), strings.Repeat("a", 2000), strings.Repeat("a", 2001), strings.Repeat("a", 2000) + "\xff", strings.Repeat("€", 99999)} {
		turned(func(n *api.Node) { n.Text = text })
		turned(func(n *api.Node) { n.Text, n.Dir = text, false })
		turned(func(n *api.Node) { n.Text, n.Dir = text, true })
	}
	turned(func(n *api.Node) { n.Dir = !n.Dir })
	for k := range sound { // one left out, and one twice
		loaded(t, slices.Delete(slices.Clone(sound), k, k+1))
		loaded(t, slices.Insert(slices.Clone(sound), k, sound[k]))
	}
}

// row is n nodes without a text; one is what makes each of its ID.
func row(n int, one func(id int) api.Node) (l []api.Node) {
	for id := 1; id <= n; id++ {
		l = append(l, one(id))
	}
	return l
}

func fileIn(parent int) func(id int) api.Node {
	return func(id int) api.Node { return file(id, parent, fmt.Sprint("n", id), "") }
}

// deep is a directory in the one ahead of it.
func deep(id int) api.Node { return dir(id, id-1, fmt.Sprint("d", id)) }

// deeper is one in the one behind it.
func deeper(n int) func(id int) api.Node {
	return func(id int) api.Node { return dir(id, (id+1)%(n+1), fmt.Sprint("d", id)) }
}

func TestLoadHowMany(t *testing.T) {
	for _, n := range []int{1, 2, 99, 100, 101, 102, 1000} {
		for _, l := range [][]api.Node{row(n, fileIn(0)), row(n, deep), row(n, deeper(n)), append(row(n-1, deep), file(n, n-1, "x", "")), append(list(dir(1, 0, "x")), row(n, fileIn(1))[1:]...)} {
			if x, ok := loaded(t, l); ok != (n <= 100) {
				t.Errorf("P13.1: Load of %s is %t", show(l), ok)
			} else if ok {
				asked(t, x, l)
			}
		}
	}
	l := row(100, deep)
	l[0].Parent = 100 // round all of them
	if _, ok := loaded(t, l); ok {
		t.Error("P13.1: all stand within themselves")
	}
	l[0].Parent = 99 // the last one stands in what goes round
	loaded(t, l)
}

// full is five files of so many code points, which may be ones of four bytes.
func full(counts ...int) (l []api.Node) {
	for k, n := range counts {
		l = append(l, file(k+1, 0, fmt.Sprint("n", k), strings.Repeat([]string{"a", "é", "€", "😀", "\n"}[k%5], n)))
	}
	return l
}

func TestLoadHowMuch(t *testing.T) {
	for _, counts := range [][]int{{2000}, {2001}, {2000, 2000, 2000, 2000, 2000}, {2000, 2000, 2000, 2000, 2001}, {2001, 0}, {2000, 2000, 2000, 2000, 2000, 1}, {2000, 2000, 2000, 2000, 1999, 1}, {2000, 2000, 2000, 2000, 1999, 2}, {2000, 2000, 2000, 2000, 2000, 0}, {1, 2000, 2000, 2000, 2000, 2000}, {2000, 2000, 2000, 2000, 2000, 2000}} {
		l := full(counts...)
		if x, ok := loaded(t, l); ok {
			holds(t, "P13.1: Nodes", x, l)
		}
	}
	var l []api.Node
	for id := 1; id <= 100; id++ {
		l = append(l, file(id, 0, fmt.Sprint("n", id), strings.Repeat("é", 100)))
	}
	if _, ok := loaded(t, l); !ok {
		t.Error("P13.1: 100 files of 100 code points are none")
	}
	l[50].Text += "x"
	if _, ok := loaded(t, l); ok {
		t.Error("P13.1: 10001 code points are a tree")
	}
}

// TestChildrenByNames: by bytes, neither by IDs nor as a dictionary has it.
func TestChildrenByNames(t *testing.T) {
	names := []string{"b", "a", "a-", "a.", "a0", "aa", "a_", "10", "9", "-", "_", "...", "z", "ab"}
	var l []api.Node
	for k, name := range names {
		l = append(l, file(k+1, 99, name, ""))
	}
	l = append(l, dir(99, 0, "x"))
	x := load(t, l)
	got := x.Children(99)
	slices.Sort(names)
	for k, id := range got {
		if n, _ := x.Get(id); n.Name != names[k] {
			t.Errorf("P13.1: child %d of %q is %q", k, names, n.Name)
		}
	}
	if len(got) != len(names) {
		t.Errorf("P13.1: Children are %v", got)
	}
	asked(t, x, l)
}

// TestLongPaths: those of deep ones are found, those that only begin so are not.
func TestLongPaths(t *testing.T) {
	name := strings.Repeat("n", 20)
	l := row(100, func(id int) api.Node { return dir(id, id-1, name) })
	x := load(t, l)
	for id := range 101 {
		want := strings.TrimPrefix(strings.Repeat("/"+name, id), "/")
		if got, ok := x.Path(id); got != want || !ok {
			t.Errorf("P13.1: Path(%d) is %q, %t", id, got, ok)
		}
		if got, ok := x.Find(want); got != id || !ok {
			t.Errorf("P13.1: Find of %d is %d, %t", id, got, ok)
		}
	}
	for _, path := range []string{strings.Repeat("/", 1<<20), strings.Repeat("n", 1<<20), strings.Repeat(name+"/", 1<<16), strings.Repeat("/"+name, 101), strings.TrimPrefix(strings.Repeat("/"+name, 101), "/")} {
		if got, ok := x.Find(path); got != 0 || ok {
			t.Errorf("P13.1: Find of %d bytes is %d, %t", len(path), got, ok)
		}
	}
}

// TestSame asks each field of each node.
func TestSame(t *testing.T) {
	l := list(dir(1, 0, "a"), file(2, 1, "b", "x"), dir(3, 1, "c"), file(4, 0, "b", ""))
	x := load(t, l)
	if !tree.Same(x, x) || !tree.Same(x, load(t, l)) || !tree.Same(load(t, l), x) {
		t.Error("P13.1: the same ones are not")
	}
	for k := range l {
		for _, turn := range []func(n *api.Node){
			func(n *api.Node) { n.ID = 9 }, func(n *api.Node) { n.Parent = 3 - n.Parent*3 }, func(n *api.Node) { n.Name += "z" }, func(n *api.Node) { n.Dir = !n.Dir }, func(n *api.Node) { n.Text += "z" },
		} {
			other := slices.Clone(l)
			turn(&other[k])
			slices.SortFunc(other, func(a, b api.Node) int { return a.ID - b.ID })
			if y, e := tree.Load(other); e == api.OK && (tree.Same(x, y) || tree.Same(y, x)) {
				t.Errorf("P13.1: %s are the same as %s", show(l), show(other))
			}
		}
		if y, e := tree.Load(slices.Delete(slices.Clone(l), k, k+1)); e == api.OK && (tree.Same(x, y) || tree.Same(y, x)) {
			t.Errorf("P13.1: without node %d it is the same", k)
		}
	}
	if tree.Same(x, tree.New()) || tree.Same(tree.New(), x) {
		t.Error("P13.1: one of nodes and one of none are the same")
	}
}

// TestSameHoweverMade: the nodes count, not the way to them.
func TestSameHoweverMade(t *testing.T) {
	x := tree.New()
	for _, a := range []api.Act{create(5, 0, "d", true), create(9, 5, "f", false), create(2, 0, "e", true), edit(9, i("abc")), move(9, 2, "g"), edit(9, r(1), d(1), r(1)), move(5, 2, "x"), move(5, 0, "y"), create(7, 5, "q", false), remove(7)} {
		if e := x.Do(a); e != api.OK {
			t.Fatalf("P13.2: Do(%s) is %d", showAct(a), e)
		}
	}
	l := list(dir(2, 0, "e"), dir(5, 0, "y"), file(9, 2, "g", "ac"))
	asked(t, x, l)
	if !tree.Same(x, load(t, l)) {
		t.Error("P13.1: they are not the same")
	}
}
