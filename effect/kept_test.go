package effect_test

import (
	"reflect"
	"slices"
	"strings"
	"testing"
	"unsafe"

	"ropewalk/api"
	"ropewalk/effect"
)

// TestHandedIn: what is handed in is neither changed nor kept, its spare room neither.
func TestHandedIn(t *testing.T) {
	madeActs := func() []api.Act {
		ops := parts(i("a"), r(2), i("spare"), r(9))
		return acts(move(2, 9, "g"), edit(2, ops[:2]...), create(1, 0, "b", true), edit(2, r(3)), remove(-1), create(78, 0, "spare", true))
	}
	madeOnes := func() []effect.One {
		ops := parts(r(2), i("x"), d(1), i("spare"))
		return ones(edited(9, ops[:1]), edited(2, ops[:2]), edited(1, ops[1:2]), effect.One{ID: 2, Name: "twice"}, effect.One{ID: 78, Name: "spare"})
	}
	l, these := madeActs(), madeOnes()
	of := effect.Of(l[:5])
	over := effect.Over(these[:4], l[:5])
	one, ok := effect.Get(these[1:3], 2)
	effect.Get(these[:3], 78)
	effect.Same(these[:3], these[1:4])
	effect.Same(of, over)
	if !reflect.DeepEqual(l, madeActs()) || !reflect.DeepEqual(these, madeOnes()) {
		t.Errorf("P15.3: what was handed in is %v, %v", l, these)
	}
	clear(l[1].Ops)
	clear(these[1].Ops)
	clear(l)
	clear(these)
	if want := ones(effect.One{ID: -1, Removed: true}, effect.One{ID: 1, Created: true, Name: "b"}, effect.One{ID: 2, Moved: true, Edited: true, Parent: 9, Name: "g", Ops: parts(r(3))}); !same(of, want) {
		t.Errorf("P15.3: behind a change of what was handed in Of is %s", show(of))
	}
	if want := ones(edited(9, parts(r(2))), edited(2, parts(r(3), i("x"))), edited(1, parts(i("x"))), effect.One{ID: 2, Name: "twice"}); !same(over, want) {
		t.Errorf("P15.3: behind a change of what was handed in Over is %s", show(over))
	}
	if !ok || !same(ones(one), ones(edited(2, parts(r(2), i("x"))))) {
		t.Errorf("P15.3: behind a change of what was handed in Get is %v", one)
	}
}

// TestSameNotChanged: Same with itself, and with lists that share memory.
func TestSameNotChanged(t *testing.T) {
	l := variants()
	for range 2 {
		if !effect.Same(l, l) || effect.Same(l[:3], l[1:4]) || !same(l, variants()) {
			t.Errorf("P15.3: behind Same there is %s", show(l))
		}
	}
}

// TestTwiceAlike: what a call answers hangs on nothing done before.
func TestTwiceAlike(t *testing.T) {
	l := acts(edit(2, r(2), i("x")), move(1, 0, "a"), edit(1, d(2)), remove(3))
	by := acts(edit(1, i("b"), r(2)), edit(2, d(1), r(1)))
	of := effect.Of(l)
	over := effect.Over(of, by)
	for k := range l {
		effect.Over(effect.Of(l[k:]), l)
		effect.Over(effect.Of(by), acts(edit(1, r(0)), edit(2, r(2001))))
		if got := effect.Over(effect.Of(l), by); !same(got, over) || !same(of, effect.Of(l)) {
			t.Errorf("P15.3: once it is %s, then %s", show(over), show(got))
		}
	}
}

// overlap tells whether two texts lie in one memory.
func overlap(a, b string) bool {
	from, other := uintptr(unsafe.Pointer(unsafe.StringData(a))), uintptr(unsafe.Pointer(unsafe.StringData(b)))
	return from < other+uintptr(len(b)) && other < from+uintptr(len(a))
}

// TestTextsAreNewMemory asks where the texts lie.
func TestTextsAreNewMemory(t *testing.T) {
	name, text := strings.Repeat("n", 20), strings.Repeat("é", 40)
	l := acts(create(1, 0, name, false), edit(1, i(text)), edit(2, r(1)))
	texts := []string{name, text}
	put := func(x effect.One) {
		texts = append(texts, x.Name)
		for _, c := range x.Ops {
			if c.Text != "" {
				texts = append(texts, c.Text)
			}
		}
	}
	for range 2 {
		of := effect.Of(l)
		put(of[0])
		x, _ := effect.Get(of, 1)
		put(x)
		for _, by := range [][]api.Act{nil, acts(edit(1, i("ab"))), acts(edit(1, r(9)))} {
			put(effect.Over(of, by)[0])
		}
	}
	for at, a := range texts {
		for with, b := range texts[:at] {
			if overlap(a, b) {
				t.Errorf("P15.3: texts %d and %d share their memory", at, with)
			}
		}
	}
	if len(texts) != 22 {
		t.Errorf("P15.3: there are %d texts", len(texts))
	}
}

// TestListsAreNewMemory writes into what is answered, and behind it.
func TestListsAreNewMemory(t *testing.T) {
	ops := parts(r(1), i("x"))
	l := acts(edit(1, ops...), edit(2, ops...)) // two acts with one list
	want := ones(edited(1, parts(r(1), i("x"))), edited(2, parts(r(1), i("x"))))
	for what, answer := range map[string]func(of []effect.One) []effect.One{
		"Of":   func([]effect.One) []effect.One { return effect.Of(l) },
		"Over": func(of []effect.One) []effect.One { return effect.Over(of, acts(edit(1, r(5)), edit(3, r(1)))) },
		"Get": func(of []effect.One) []effect.One {
			x, _ := effect.Get(of, 1)
			y, _ := effect.Get(of, 2)
			return ones(x, y)
		},
		"Get of one twice": func(of []effect.One) []effect.One {
			x, _ := effect.Get(of, 1)
			y, _ := effect.Get(of, 1)
			y.ID = 2
			return ones(x, y)
		},
		"Over of one list": func([]effect.One) []effect.One { return effect.Over(ones(edited(1, ops), edited(2, ops)), nil) },
	} {
		of := effect.Of(l)
		got, again := answer(of), answer(of)
		clear(got[0].Ops)
		_ = append(got[0].Ops, d(7), d(7))
		if !same(got[1:], want[1:]) || !same(again, want) || !same(of, want) || !slices.Equal(ops, parts(r(1), i("x"))) {
			t.Errorf("P15.3: behind a change of the Ops that %s answered, there are %s, %s, %s and %v", what, show(got), show(again), show(of), ops)
		}
		clear(got)
		_ = append(got[:0], effect.One{ID: 7}, effect.One{ID: 7})
		if !same(again, want) || !same(of, want) {
			t.Errorf("P15.3: behind a change of what %s answered, there are %s and %s", what, show(again), show(of))
		}
	}
}
