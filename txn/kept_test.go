package txn_test

import (
	"reflect"
	"slices"
	"strings"
	"testing"
	"unsafe"

	"ropewalk/api"
	"ropewalk/tree"
	"ropewalk/txn"
)

// TestTreeStays: what comes of a tree, and the tree, go their own ways.
func TestTreeStays(t *testing.T) {
	nodes := []api.Node{dir(1, 0, "d"), file(2, 1, "f", "abc")}
	for _, l := range [][]api.Act{nil, acts(create(3, 0, "x", true)), acts(remove(2)), acts(move(2, 0, "y")), acts(edit(2, i("x"), r(3)))} {
		x := load(t, nodes...)
		x.Do(create(8, 0, "z", true)) // there may be spare room behind what is left
		x.Do(remove(8))
		y, _, e := txn.Do(x, l)
		if e != api.OK || y == x {
			t.Fatalf("P14.3: Do(%s) is %d, or the tree itself", show(l), e)
		}
		want := y.Nodes()
		x.Do(create(9, 0, "new", true))
		x.Do(move(1, 9, "moved"))
		if !slices.Equal(y.Nodes(), want) {
			t.Errorf("P14.3: behind an act with the tree, what Do(%s) answered is %v", show(l), y.Nodes())
		}
		x = load(t, nodes...)
		y, _, _ = txn.Do(x, l)
		y.Do(create(9, 0, "new", true))
		y.Do(move(1, 9, "moved"))
		if !slices.Equal(x.Nodes(), nodes) {
			t.Errorf("P14.3: behind an act with what Do(%s) answered, the tree is %v", show(l), x.Nodes())
		}
	}
}

// TestTwiceAlike: one Do is as the other, refused ones between.
func TestTwiceAlike(t *testing.T) {
	x := load(t, dir(1, 0, "d"), file(2, 1, "f", "abc"))
	l := acts(create(3, 1, "g", false), edit(3, i("é")), edit(2, d(3)), move(2, 0, "h"))
	y, _, _ := txn.Do(x, l)
	for k := range l {
		txn.Do(x, append(slices.Clone(l[:k]), remove(1)))
		txn.Do(x, append(slices.Clone(l[:k]), remove(0)))
		if z, n, e := txn.Do(x, l); !tree.Same(y, z) || n != 4 || e != api.OK {
			t.Errorf("P14.3: behind a refused one Do is %v, %d, %d", z.Nodes(), n, e)
		}
	}
}

// TestHandedIn: what is handed in is neither changed nor kept, its spare room neither.
func TestHandedIn(t *testing.T) {
	made := func() []api.Act {
		ops := []api.Comp{r(1), i("x"), d(2), i("spare")}
		return acts(move(2, 9, "g"), edit(2, ops[:3]...), create(9, 0, "b", true), api.Act{Kind: 7, ID: 1, Ops: ops}, remove(77), create(78, 0, "spare", true))
	}
	room := made()
	l := room[1:3]
	x := load(t, dir(1, 0, "d"), file(2, 1, "f", "abc"))
	txn.Check(room[:5])
	txn.Check(l)
	txn.Same(room[:5], l)
	one := txn.Plain(l[0])
	whom := txn.Touches(room[:5])
	y, _, e := txn.Do(x, l)
	txn.Do(x, room[:5])
	if !reflect.DeepEqual(room, made()) {
		t.Errorf("P14.3: what was handed in is %v", room)
	}
	clear(l[0].Ops)
	clear(room)
	if e != api.OK || !slices.Equal(y.Nodes(), []api.Node{dir(1, 0, "d"), file(2, 1, "f", "ax"), dir(9, 0, "b")}) {
		t.Errorf("P14.3: behind a change of what was handed in the tree is %v", y.Nodes())
	}
	if !slices.Equal(one.Ops, []api.Comp{r(1), i("x"), d(2)}) || !slices.Equal(whom, []int{1, 2, 9, 77}) {
		t.Errorf("P14.3: behind a change of what was handed in Plain is %v, Touches %v", one, whom)
	}
}

// overlap tells whether two texts lie in one memory.
func overlap(a, b string) bool {
	from, other := uintptr(unsafe.Pointer(unsafe.StringData(a))), uintptr(unsafe.Pointer(unsafe.StringData(b)))
	return from < other+uintptr(len(b)) && other < from+uintptr(len(a))
}

// TestAnswersAreNewMemory writes into what is answered, and asks where the texts lie.
func TestAnswersAreNewMemory(t *testing.T) {
	name, text := strings.Repeat("n", 20), strings.Repeat("é", 40)
	l := acts(create(1, 0, name, false), edit(1, i(text)))
	texts := []string{name, text}
	for range 2 {
		y, _, _ := txn.Do(tree.New(), l)
		n, _ := y.Get(1)
		texts = append(texts, txn.Plain(l[0]).Name, txn.Plain(move(1, 0, name)).Name, txn.Plain(l[1]).Ops[0].Text, n.Name, n.Text)
	}
	for at, a := range texts {
		for with, b := range texts[:at] {
			if overlap(a, b) {
				t.Errorf("P14.3: texts %d and %d share their memory", at, with)
			}
		}
	}
	one, two := txn.Plain(l[1]), txn.Plain(l[1])
	clear(one.Ops)
	if two.Ops[0] != i(text) || l[1].Ops[0] != i(text) {
		t.Error("P14.3: answers of Plain share their memory")
	}
	ids, again := txn.Touches(l), txn.Touches(l)
	clear(ids)
	_ = append(ids[:0], 8, 9)
	if !slices.Equal(again, []int{1}) || !slices.Equal(txn.Touches(l), []int{1}) {
		t.Error("P14.3: answers of Touches share their memory")
	}
}
