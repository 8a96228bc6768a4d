package history_test

import (
	"reflect"
	"slices"
	"strings"
	"testing"
	"unsafe"

	"ropewalk/api"
	"ropewalk/history"
	"ropewalk/tree"
)

// TestFirstTree: the tree that New was given, and the History, go their own ways.
func TestFirstTree(t *testing.T) {
	nodes := []api.Node{dir(1, 0, "d"), file(2, 1, "f", "abc")}
	for _, a := range []api.Act{remove(2), move(2, 0, "g"), edit(2, i("x"), r(3)), create(3, 1, "h"), mkdir(3, 0, "h")} {
		x := load(t, nodes...)
		x.Do(create(8, 0, "z")) // there may be spare room behind what is left
		x.Do(remove(8))
		h := begun(t, 0, x, 4)
		x.Do(a)
		if l := h.Tree().Nodes(); !slices.Equal(l, nodes) {
			t.Errorf("P17.3: behind %v with what New was given Tree is %s", a, show(l))
		}
		x = load(t, nodes...)
		h = begun(t, 0, x, 4)
		added(t, h, commit(1, 1, 1, a))
		if l := x.Nodes(); !slices.Equal(l, nodes) {
			t.Errorf("P17.3: behind Add of %v what New was given is %s", a, show(l))
		}
	}
}

// TestTreeGoesItsOwnWay: what Tree answered, and the History, too.
func TestTreeGoesItsOwnWay(t *testing.T) {
	h := begun(t, 0, tree.New(), 4)
	added(t, h, commit(1, 1, 1, mkdir(1, 0, "d"), create(2, 1, "f"), edit(2, i("abc"))))
	x, y := h.Tree(), h.Tree()
	if x == y {
		t.Error("P17.3: Tree answers one tree twice")
	}
	want := x.Nodes()
	x.Do(edit(2, d(3)))
	x.Do(remove(2))
	if !slices.Equal(y.Nodes(), want) || !slices.Equal(h.Tree().Nodes(), want) {
		t.Errorf("P17.3: behind acts with what Tree answered it is %s and %s", show(y.Nodes()), show(h.Tree().Nodes()))
	}
	added(t, h, commit(2, 1, 2, edit(2, r(3), i("x")), move(2, 0, "g")))
	if !slices.Equal(y.Nodes(), want) {
		t.Errorf("P17.3: behind Add what Tree answered is %s", show(y.Nodes()))
	}
	if l := h.Tree().Nodes(); !slices.Equal(l, []api.Node{dir(1, 0, "d"), file(2, 0, "g", "abcx")}) {
		t.Errorf("P17.3: Tree is %s", show(l))
	}
}

// TestHandedIn: what is handed in is neither changed nor kept, its spare room neither.
func TestHandedIn(t *testing.T) {
	made := func() []api.Act {
		ops := []api.Comp{i("x"), r(1), i("spare"), r(9)}
		return acts(create(2, 0, "g"), edit(1, ops[:2]...), move(2, 0, "h"), remove(77), create(78, 0, "spare"))
	}
	room := made()
	h := begun(t, 0, load(t, file(1, 0, "f", "é")), 4)
	added(t, h, commit(1, 1, 1, room[:3]...))
	if e := h.Add(commit(2, 1, 2, room[:4]...)); e == api.OK {
		t.Error("P17.1: what may not be done was added")
	}
	h.Add(commit(1, 1, 1, room[:3]...))
	if !reflect.DeepEqual(room, made()) {
		t.Errorf("P17.3: what was handed in is %s", show(room))
	}
	clear(room[1].Ops)
	clear(room)
	want := []api.Commit{commit(1, 1, 1, made()[:3]...)}
	if l, m := since(t, h, 0), h.Of(1); !same(l, want) || !same(m, want) {
		t.Errorf("P17.3: behind a change of what was handed in Since is %s, Of %s", show(l), show(m))
	}
	if l := h.Tree().Nodes(); !slices.Equal(l, []api.Node{file(1, 0, "f", "xé"), file(2, 0, "h", "")}) {
		t.Errorf("P17.3: behind a change of what was handed in Tree is %s", show(l))
	}
}

// lot is a History of commits all of which were handed in with one list of Ops, and one of acts.
func lot(t *testing.T) (*history.History, []api.Commit) {
	t.Helper()
	ops := []api.Comp{i("é"), d(1)}
	l := acts(edit(1, ops...), edit(2, ops...))
	all := []api.Commit{commit(1, 1, 1, l...), commit(2, 2, 1, l...), commit(3, 1, 2, l...)}
	h := begun(t, 0, load(t, file(1, 0, "f", "é"), file(2, 0, "g", "é")), 3)
	added(t, h, all...)
	return h, all
}

// TestListsAreNewMemory writes into each list that is answered, and behind it.
func TestListsAreNewMemory(t *testing.T) {
	for what, answer := range map[string]func(h *history.History) []api.Commit{
		"Since": func(h *history.History) []api.Commit { l, _ := h.Since(0); return l },
		"Of":    func(h *history.History) []api.Commit { return h.Of(1) },
		"both":  func(h *history.History) []api.Commit { l, _ := h.Since(1); return append(l[:1:1], h.Of(1)...) },
	} {
		h, all := lot(t)
		want := answer(h)
		for at := range want {
			for in := range want[at].Acts {
				got := answer(h)
				clear(got[at].Acts[in].Ops)
				_ = append(got[at].Acts[in].Ops, d(7), d(7))
				got[at].Acts[in] = want[at].Acts[in]
				if !same(got, want) || !same(answer(h), want) {
					t.Errorf("P17.3: behind a change of the Ops of act %d of %d that %s answered, there are %s and %s", in, at, what, show(got), show(answer(h)))
				}
			}
			got := answer(h)
			clear(got[at].Acts)
			_ = append(got[at].Acts, remove(7), remove(7))
			got[at] = want[at]
			if !same(got, want) || !same(answer(h), want) {
				t.Errorf("P17.3: behind a change of the Acts of %d that %s answered, there are %s and %s", at, what, show(got), show(answer(h)))
			}
		}
		got := answer(h)
		clear(got)
		_ = append(got[:0], commit(7, 7, 7), commit(7, 7, 7), commit(7, 7, 7), commit(7, 7, 7))
		if !same(answer(h), want) || !same(since(t, h, 0), all) {
			t.Errorf("P17.3: behind a change of what %s answered, it is %s, and Since %s", what, show(answer(h)), show(since(t, h, 0)))
		}
	}
}

// TestAnswersStay: what was answered stays as it was, whatever is added.
func TestAnswersStay(t *testing.T) {
	h, all := lot(t)
	l, m := since(t, h, 0), h.Of(1)
	for k := 4; k < 20; k++ {
		added(t, h, commit(k, 9, k, edit(1, i("x"), d(1))))
		if !same(l, all) || !same(m, []api.Commit{all[0], all[2]}) {
			t.Fatalf("P17.3: behind Add what Since answered is %s, what Of did %s", show(l), show(m))
		}
	}
}

// overlap tells whether two texts lie in one memory.
func overlap(a, b string) bool {
	from, other := uintptr(unsafe.Pointer(unsafe.StringData(a))), uintptr(unsafe.Pointer(unsafe.StringData(b)))
	return from < other+uintptr(len(b)) && other < from+uintptr(len(a))
}

// TestTextsAreNewMemory asks where the texts lie.
func TestTextsAreNewMemory(t *testing.T) {
	name, moved, text := strings.Repeat("n", 20), strings.Repeat("m", 20), strings.Repeat("é", 40)
	texts := []string{name, moved, text}
	h := begun(t, 0, load(t, file(9, 0, "z", text)), 9)
	added(t, h, commit(1, 1, 1, create(1, 0, name), edit(1, i(text))), commit(2, 1, 2, move(1, 0, moved)))
	for range 2 {
		for _, l := range [][]api.Commit{since(t, h, 0), h.Of(1)} {
			texts = append(texts, l[0].Acts[0].Name, l[0].Acts[1].Ops[0].Text, l[1].Acts[0].Name)
		}
		for _, n := range h.Tree().Nodes() {
			texts = append(texts, n.Name, n.Text)
		}
	}
	for at, a := range texts {
		for with, b := range texts[:at] {
			if overlap(a, b) {
				t.Errorf("P17.3: texts %d and %d share their memory", at, with)
			}
		}
	}
	if len(texts) != 3+2*(3+3+4) {
		t.Errorf("P17.3: there are %d texts", len(texts))
	}
}

// TestTextsAreNotKept: texts that lie in bytes which are written over stay as they were.
func TestTextsAreNotKept(t *testing.T) {
	b := []byte("gname" + "éé")
	view := unsafe.String(&b[0], len(b))
	h := begun(t, 0, tree.New(), 9)
	added(t, h, commit(1, 1, 1, create(1, 0, view[:5]), edit(1, i(view[5:]))), commit(2, 1, 2, move(1, 0, view[:4])))
	clear(b)
	want := []api.Commit{commit(1, 1, 1, create(1, 0, "gname"), edit(1, i("éé"))), commit(2, 1, 2, move(1, 0, "gnam"))}
	if l := since(t, h, 0); !same(l, want) || !same(h.Of(1), want) {
		t.Errorf("P17.3: behind a change of the texts' bytes Since is %s, Of %s", show(l), show(h.Of(1)))
	}
	if l := h.Tree().Nodes(); !slices.Equal(l, []api.Node{file(1, 0, "gnam", "éé")}) {
		t.Errorf("P17.3: behind a change of the texts' bytes Tree is %s", show(l))
	}
}

// TestObjectsApart: two made of one tree, and one assigned from another one, have nothing in common.
func TestObjectsApart(t *testing.T) {
	x := load(t, file(1, 0, "f", ""))
	for _, keep := range []int{1, 2, 3, 5, 1000} {
		a, b := begun(t, 0, x, keep), begun(t, 0, x, keep)
		m, n := &model{keep: keep, first: x}, &model{keep: keep, first: x}
		addAsked(t, a, m, commit(1, 1, 1, edit(1, i("a"))))
		asked(t, "the other one", b, n)
		addAsked(t, b, n, commit(1, 2, 1, edit(1, i("b"))))
		for k := 2; k < 12; k++ {
			assigned, other := *a, *m
			addAsked(t, a, m, commit(k, 1, k, edit(1, i("c"), d(1))))
			asked(t, "the assigned one", &assigned, &other)
			other.all = slices.Clone(other.all)
			addAsked(t, &assigned, &other, commit(k, 3, k, remove(1)))
			asked(t, "that which it was assigned from", a, m)
		}
		asked(t, "the other one", b, n)
	}
}
