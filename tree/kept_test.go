package tree_test

import (
	"math"
	"slices"
	"strings"
	"testing"
	"unsafe"

	"ropewalk/api"
	"ropewalk/tree"
)

func TestNil(t *testing.T) {
	var none *tree.Tree
	for _, id := range []int{math.MinInt, -1, 0, 1, most, math.MaxInt} {
		if n, ok := none.Get(id); n != (api.Node{}) || ok {
			t.Errorf("P13.3: Get(%d) is %v, %t", id, n, ok)
		}
		if s, ok := none.Path(id); s != "" || ok {
			t.Errorf("P13.3: Path(%d) is %q, %t", id, s, ok)
		}
		if l := none.Children(id); len(l) != 0 {
			t.Errorf("P13.3: Children(%d) are %v", id, l)
		}
		for _, name := range []string{"", "a", "a/b", "/"} {
			if got, ok := none.Child(id, name); got != 0 || ok {
				t.Errorf("P13.3: Child(%d, %q) is %d, %t", id, name, got, ok)
			}
			if got, ok := none.Find(name); got != 0 || ok {
				t.Errorf("P13.3: Find(%q) is %d, %t", name, got, ok)
			}
		}
	}
	if l := none.Nodes(); len(l) != 0 {
		t.Errorf("P13.3: Nodes are %s", show(l))
	}
	if none.Copy() != nil {
		t.Error("P13.3: Copy is not nil")
	}
	if x := load(t, list(dir(1, 0, "a"))); !tree.Same(none, nil) || tree.Same(none, x) || tree.Same(x, none) || tree.Same(none, tree.New()) || tree.Same(tree.New(), none) {
		t.Error("P13.3: two nil ones are the same, and no others")
	}
	for _, a := range append(smallActs(), create(1, 0, "", true), move(0, 0, "."), edit(1, make([]api.Comp, 200)...)) {
		if e := none.Do(a); e != api.ErrNone {
			t.Errorf("P13.3: Do(%s) is %d", showAct(a), e)
		}
	}
}

// copies is other trees of the same nodes, by each way.
func copies(t *testing.T, x *tree.Tree) map[string]*tree.Tree {
	t.Helper()
	assigned := *x
	return map[string]*tree.Tree{"Copy": x.Copy(), "Copy of it": x.Copy().Copy(), "Load": load(t, x.Nodes()), "assigned": &assigned}
}

// TestCopiesGoTheirOwnWay does all acts with one of two.
func TestCopiesGoTheirOwnWay(t *testing.T) {
	l := list(dir(1, 0, "a"), file(2, 1, "b", "é"), dir(4, 0, "c"))
	for _, a := range append(smallActs(), create(3, 1, "z", true), create(9, 4, "z", false), remove(4), move(2, 4, "q"), edit(2, i("x"), d(1))) {
		x := load(t, l)
		x.Do(create(8, 0, "y", true)) // there may be spare room behind what is left
		x.Do(remove(8))
		for way, y := range copies(t, x) {
			if !tree.Same(x, y) {
				t.Fatalf("P13.1: %s is not the same", way)
			}
			want := done(t, y, modelOf(l), a).nodes()
			holds(t, "P13.3: behind Do("+showAct(a)+") of what came of it by "+way, x, l)
			x.Do(create(7, 0, "x", true))
			holds(t, "P13.3: what came of it by "+way+", behind Do of the first", y, want)
			x.Do(remove(7))
		}
	}
}

// TestHandedIn: what is handed in is neither changed nor kept, its spare room neither.
func TestHandedIn(t *testing.T) {
	want := list(dir(1, 0, "a"), file(2, 1, "b", "é"), dir(4, 0, "c"))
	room := append(slices.Clone(want), file(77, 0, "spare", ""))
	was := slices.Clone(room)
	x, other := load(t, room[:3]), slices.Clone(want)
	y := load(t, other)
	clear(other)
	holds(t, "P13.3: behind a change of what Load was given", y, want)
	for _, a := range []api.Act{create(5, 0, "d", false), remove(5), create(3, 0, "d", false), remove(3), move(4, 1, "e"), move(4, 0, "c"), edit(2, i("x"), d(1)), edit(2, i("é"), d(1))} {
		if e := x.Do(a); e != api.OK {
			t.Fatalf("P13.2: Do(%s) is %d", showAct(a), e)
		}
	}
	if !slices.Equal(room, was) {
		t.Errorf("P13.3: Load or Do changed what was handed in: %s", show(room))
	}
	clear(room)
	holds(t, "P13.3: behind a change of what was handed in", x, want)
	ops := []api.Comp{r(1), i("x"), i("spare")}
	x.Do(edit(2, ops[:2]...))
	if !slices.Equal(ops, []api.Comp{r(1), i("x"), i("spare")}) {
		t.Errorf("P13.3: Do changed what was handed in: %v", ops)
	}
	clear(ops)
	if n, _ := x.Get(2); n.Text != "éx" {
		t.Errorf("P13.3: the text is %q", n.Text)
	}
}

// TestAnswersAreNewMemory writes into all that is answered.
func TestAnswersAreNewMemory(t *testing.T) {
	want := list(dir(1, 0, "a"), file(2, 1, "b", "é"), file(3, 1, "c", ""))
	x := load(t, want)
	one, two := x.Nodes(), x.Nodes()
	clear(one)
	_ = append(one[:1], one...)
	if !slices.Equal(two, want) {
		t.Errorf("P13.3: two answers of Nodes share their memory: %s", show(two))
	}
	ids, again := x.Children(1), x.Children(1)
	clear(ids)
	_ = append(ids[:1], 9)
	if !slices.Equal(again, []int{2, 3}) || !slices.Equal(x.Children(1), []int{2, 3}) {
		t.Errorf("P13.3: two answers of Children share their memory: %v", again)
	}
	asked(t, x, want)
}

// overlap tells whether two texts lie in one memory.
func overlap(a, b string) bool {
	from, other := uintptr(unsafe.Pointer(unsafe.StringData(a))), uintptr(unsafe.Pointer(unsafe.StringData(b)))
	return from < other+uintptr(len(b)) && other < from+uintptr(len(a))
}

func TestTextsAreNewMemory(t *testing.T) {
	name, moved, text := strings.Repeat("n", 20), strings.Repeat("m", 20), strings.Repeat("é", 40)
	texts := []string{name, moved, text}
	x := load(t, list(file(1, 0, name, text)))
	answer := func() {
		for range 2 {
			n, _ := x.Get(1)
			path, _ := x.Path(1)
			texts = append(texts, n.Name, n.Text, x.Nodes()[0].Name, x.Nodes()[0].Text, x.Copy().Nodes()[0].Name, x.Copy().Nodes()[0].Text, path)
		}
	}
	answer()
	x.Do(move(1, 0, moved))
	answer()
	x.Do(edit(1, i(text), d(40)))
	answer()
	x.Do(edit(1, r(40)))
	answer()
	x.Do(remove(1))
	x.Do(create(1, 0, name, false))
	answer()
	for at, a := range texts {
		for with, b := range texts[:at] {
			if overlap(a, b) {
				t.Errorf("P13.3: texts %d and %d share their memory", at, with)
			}
		}
	}
}
