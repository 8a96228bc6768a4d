package effect_test

import (
	"slices"
	"testing"

	"ropewalk/api"
	"ropewalk/effect"
)

// TestExample is the chapter's: a Move of 1 and an Edit of it.
func TestExample(t *testing.T) {
	want := ones(effect.One{ID: 1, Moved: true, Edited: true, Parent: 2, Name: "a", Ops: parts(i("x"))})
	for _, l := range [][]api.Act{acts(move(1, 2, "a"), edit(1, i("x"))), acts(edit(1, i("x")), move(1, 2, "a"))} {
		if got := effect.Of(l); !same(got, want) {
			t.Errorf("P15.1: Of(%s) is %s", show(l), show(got))
		}
	}
}

// TestOfTold tells outright what comes of acts.
func TestOfTold(t *testing.T) {
	for _, c := range []struct {
		what string
		l    []api.Act
		want []effect.One
	}{
		{"no acts", nil, nil},
		{"an empty list", []api.Act{}, nil},
		{"a Create", acts(create(3, 1, "a", false)), ones(effect.One{ID: 3, Created: true, Parent: 1, Name: "a"})},
		{"a Create of a directory", acts(create(3, 0, "a", true)), ones(effect.One{ID: 3, Created: true, Name: "a"})},
		{"a Remove", acts(remove(3)), ones(effect.One{ID: 3, Removed: true})},
		{"a Move", acts(move(3, 1, "a")), ones(effect.One{ID: 3, Moved: true, Parent: 1, Name: "a"})},
		{"an Edit", acts(edit(3, r(1), i("é"))), ones(edited(3, parts(r(1), i("é"))))},
		{"an Edit without Ops", acts(edit(3)), ones(edited(3, nil))},
		{"an Edit that is not normal", acts(edit(3, d(1), i("a"), r(0), api.Comp{Kind: 9, N: -1, Text: "\xff"})), ones(edited(3, parts(d(1), i("a"), r(0), api.Comp{Kind: 9, N: -1, Text: "\xff"})))},
		{"a Move behind a Create", acts(create(3, 1, "a", false), move(3, 2, "b")), ones(effect.One{ID: 3, Created: true, Moved: true, Parent: 2, Name: "b"})},
		{"a Create behind a Move", acts(move(3, 2, "b"), create(3, 1, "a", false)), ones(effect.One{ID: 3, Created: true, Moved: true, Parent: 1, Name: "a"})},
		{"a Move to none behind one", acts(move(3, 2, "b"), move(3, 0, "")), ones(effect.One{ID: 3, Moved: true})},
		{"two Creates", acts(create(3, 2, "b", true), create(3, 1, "a", false)), ones(effect.One{ID: 3, Created: true, Parent: 1, Name: "a"})},
		{"a Remove behind a Move", acts(move(3, 2, "b"), remove(3)), ones(effect.One{ID: 3, Moved: true, Removed: true, Parent: 2, Name: "b"})},
		{"a Remove behind an Edit", acts(edit(3, d(1)), remove(3)), ones(effect.One{ID: 3, Edited: true, Removed: true, Ops: parts(d(1))})},
		{"two Edits", acts(edit(3, r(1)), edit(3, r(2))), ones(edited(3, parts(r(2))))},
		{"an Edit without Ops behind one", acts(edit(3, r(1)), edit(3)), ones(edited(3, nil))},
		{"all four", acts(remove(3), edit(3, i("x")), create(3, 1, "a", false), move(3, 2, "b")), ones(effect.One{ID: 3, Removed: true, Edited: true, Created: true, Moved: true, Parent: 2, Name: "b", Ops: parts(i("x"))})},
		{"what a Remove does not name", acts(full(api.Remove, 3, 1, "a", r(1))), ones(effect.One{ID: 3, Removed: true})},
		{"what an Edit does not name", acts(full(api.Edit, 3, 1, "a", r(1))), ones(edited(3, parts(r(1))))},
		{"what a Create does not name", acts(full(api.Create, 3, 1, "a", r(1))), ones(effect.One{ID: 3, Created: true, Parent: 1, Name: "a"})},
		{"what a Move does not name", acts(full(api.Move, 3, 1, "a", r(1))), ones(effect.One{ID: 3, Moved: true, Parent: 1, Name: "a"})},
		{"what others name behind it", acts(full(api.Move, 3, 1, "a"), full(api.Edit, 3, 2, "b", r(1)), full(api.Remove, 3, 4, "c", r(2)), full(7, 3, 5, "d", r(3))), ones(effect.One{ID: 3, Moved: true, Edited: true, Removed: true, Parent: 1, Name: "a", Ops: parts(r(1))})},
		{"no Kind", acts(api.Act{}), ones(effect.One{})},
		{"other Kinds", acts(full(5, 2, 1, "a", r(1)), full(-1, 1, 1, "a", r(1)), full(0, 3, 1, "a", r(1))), ones(effect.One{ID: 1}, effect.One{ID: 2}, effect.One{ID: 3})},
		{"IDs falling", acts(remove(9), edit(5, r(1)), remove(1)), ones(effect.One{ID: 1, Removed: true}, edited(5, parts(r(1))), effect.One{ID: 9, Removed: true})},
		{"IDs that none has", acts(remove(most), remove(0), remove(least), remove(-1), remove(1<<40+1)), ones(effect.One{ID: least, Removed: true}, effect.One{ID: -1, Removed: true}, effect.One{Removed: true}, effect.One{ID: 1<<40 + 1, Removed: true}, effect.One{ID: most, Removed: true})},
		{"acts of one apart", acts(move(2, 7, "b"), edit(1, r(1)), move(1, 4, "a"), remove(2), create(1, 5, "c", false)), ones(effect.One{ID: 1, Edited: true, Moved: true, Created: true, Parent: 5, Name: "c", Ops: parts(r(1))}, effect.One{ID: 2, Moved: true, Removed: true, Parent: 7, Name: "b"})},
		{"a Parent is none of them", acts(create(1, 2, "a", false)), ones(effect.One{ID: 1, Created: true, Parent: 2, Name: "a"})},
	} {
		if got := effect.Of(c.l); !same(got, c.want) {
			t.Errorf("P15.1: %s: Of is %s, not %s", c.what, show(got), show(c.want))
		}
		ofAsked(t, c.l)
	}
}

// TestOfShortLists asks all lists of few acts.
func TestOfShortLists(t *testing.T) {
	pool := acts(create(2, 1, "a", false), create(2, 3, "b", true), remove(2), move(2, 0, ""), move(2, 4, "c"), edit(2), edit(2, r(1)), edit(2, i("é")), remove(1), edit(1, d(1)), full(0, 2, 5, "d", r(5)), full(api.Remove, 3, 6, "e", r(6)))
	lists(4, pool, func(l []api.Act) { ofAsked(t, l) })
}

// TestOfLongLists asks lists longer than a transaction may be, of few IDs or of many.
func TestOfLongLists(t *testing.T) {
	x := dice(15)
	for range 300 {
		var l []api.Act
		n := 1 + x.below(200)
		for range x.below(200) {
			id := x.below(n) - n/2
			l = append(l, full(x.below(6), id, x.below(9), pick(&x, "", "a", "b", long(5)), x.edit(x.below(5))...))
		}
		ofAsked(t, l)
	}
	var l []api.Act
	for n := range 50000 {
		l = append(l, move(50000-n, n, "a"), full(api.Edit, n, 0, "", r(n)))
	}
	got := effect.Of(l)
	if len(got) != 50001 {
		t.Fatalf("P15.1: Of 100000 acts of 50001 IDs is %d", len(got))
	}
	for id, x := range got {
		if x.ID != id || x.Moved != (id > 0) || x.Edited != (id < 50000) || id > 0 && x.Parent != 50000-id {
			t.Fatalf("P15.1: Of 100000 acts has %v at %d", x, id)
		}
	}
}

// TestGet asks lists that Of does not make, too.
func TestGet(t *testing.T) {
	all := effect.One{ID: 5, Ops: parts(d(1), i("a"), r(-1)), Edited: true, Removed: true, Created: true, Moved: true, Parent: 7, Name: "n"}
	l := ones(effect.One{ID: 9, Name: "nine"}, all, effect.One{ID: -3, Moved: true}, effect.One{ID: 5, Name: "second"}, effect.One{}, effect.One{ID: 9}, effect.One{Removed: true}, effect.One{ID: most}, effect.One{ID: least})
	for id, want := range map[int]effect.One{9: l[0], 5: all, -3: l[2], 0: l[4], most: l[7], least: l[8]} {
		if got, ok := effect.Get(l, id); !ok || !same(ones(got), ones(want)) {
			t.Errorf("P15.1: Get of %d is %v, %v, not %v", id, got, ok, want)
		}
	}
	for _, id := range []int{1, 4, 6, 7, -5, -9, 10, most - 1, least + 1, 1<<32 + 5} {
		if got, ok := effect.Get(l, id); ok || !same(ones(got), ones(effect.One{})) {
			t.Errorf("P15.1: Get of %d, which there is none of, is %v, %v", id, got, ok)
		}
	}
	for _, l := range [][]effect.One{nil, []effect.One{}} {
		if got, ok := effect.Get(l, 0); ok || !same(ones(got), ones(effect.One{})) {
			t.Errorf("P15.1: Get of nothing is %v, %v", got, ok)
		}
	}
	for k, x := range l {
		got, ok := effect.Get(l[k:], x.ID)
		if !ok || !same(ones(got), ones(x)) {
			t.Errorf("P15.1: Get of %d from place %d on is %v, %v", x.ID, k, got, ok)
		}
	}
}

// variants is one with another value in each field by turns, the first as it is.
func variants() []effect.One {
	x := effect.One{ID: 1, Ops: parts(r(1), i("a")), Parent: 2, Name: "n"}
	l := ones(x)
	for _, turn := range []func(*effect.One){
		func(x *effect.One) { x.ID = 2 }, func(x *effect.One) { x.ID = 1<<32 + 1 }, func(x *effect.One) { x.Edited = true }, func(x *effect.One) { x.Removed = true }, func(x *effect.One) { x.Created = true }, func(x *effect.One) { x.Moved = true },
		func(x *effect.One) { x.Parent = 1 }, func(x *effect.One) { x.Name = "" }, func(x *effect.One) { x.Name = "m" }, func(x *effect.One) { x.Name = "nn" },
		func(x *effect.One) { x.Ops = nil }, func(x *effect.One) { x.Ops = x.Ops[:1] }, func(x *effect.One) { x.Ops = parts(r(1), i("a"), r(1)) }, func(x *effect.One) { x.Ops = parts(i("a"), r(1)) },
		func(x *effect.One) { x.Ops = parts(r(2), i("a")) }, func(x *effect.One) { x.Ops = parts(d(1), i("a")) }, func(x *effect.One) { x.Ops = parts(r(1), i("b")) }, func(x *effect.One) { x.Ops = parts(r(1), api.Comp{Kind: api.Insert, N: 1, Text: "a"}) },
	} {
		y := x
		turn(&y)
		l = append(l, y)
	}
	return l
}

// TestSame holds each against each, alone, and ahead of and behind another one.
func TestSame(t *testing.T) {
	l := variants()
	for k, x := range l {
		for n, y := range l {
			y.Ops = slices.Clone(y.Ops)
			for _, c := range [][2][]effect.One{{ones(x), ones(y)}, {ones(x, l[0]), ones(y, l[0])}, {ones(l[0], x), ones(l[0], y)}} {
				if got := effect.Same(c[0], c[1]); got != (k == n) {
					t.Errorf("P15.1: Same(%s; %s) is %v", show(c[0]), show(c[1]), got)
				}
			}
		}
	}
	none, empty := ones(edited(1, nil)), ones(edited(1, []api.Comp{}))
	for _, c := range []struct {
		a, b []effect.One
		want bool
	}{
		{nil, nil, true}, {nil, []effect.One{}, true}, {[]effect.One{}, nil, true}, {none, empty, true}, {empty, none, true},
		{nil, ones(effect.One{}), false}, {ones(effect.One{}), nil, false}, {l, l[1:], false}, {l[1:], l, false}, {l, l[:len(l)-1], false}, {l[:len(l)-1], l, false},
		{l, slices.Clone(l), true}, {ones(l[1], l[2]), ones(l[2], l[1]), false}, {ones(l[0], l[0]), ones(l[0]), false}, // one by one, not as sets
	} {
		if got := effect.Same(c.a, c.b); got != c.want {
			t.Errorf("P15.1: Same(%s; %s) is %v", show(c.a), show(c.b), got)
		}
	}
}
