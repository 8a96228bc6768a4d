package effect_test

import (
	"slices"
	"testing"

	"ropewalk/api"
	"ropewalk/apply"
	"ropewalk/effect"
	"ropewalk/op"
	"ropewalk/xform"
)

// TestOverTold tells outright what comes of one's Ops.
func TestOverTold(t *testing.T) {
	ops := parts(r(2), i("x"), r(1))
	for _, c := range []struct {
		what string
		by   []api.Act
		want []api.Comp
	}{
		{"none", nil, ops},
		{"an empty list", []api.Act{}, ops},
		{"an Edit ahead of it", acts(edit(1, i("é€"), r(3))), parts(r(4), i("x"), r(1))},
		{"an Edit behind it", acts(edit(1, r(3), i("é€"))), parts(r(2), i("x"), r(3))},
		{"one at its place, which it stands ahead of", acts(edit(1, r(2), i("é€"), r(1))), parts(r(2), i("x"), r(3))},
		{"what it stood between is gone", acts(edit(1, r(1), d(2))), parts(r(1), i("x"))},
		{"all is gone", acts(edit(1, d(3))), parts(i("x"))},
		{"two, one behind the other", acts(edit(1, i("a"), r(3)), edit(1, i("b"), d(1), r(3))), parts(r(3), i("x"), r(1))},
		{"the second one is of another text", acts(edit(1, i("a"), r(3)), edit(1, i("b"), d(1), r(2))), parts(r(3), i("x"), r(1))},
		{"the first one is of another text", acts(edit(1, r(4)), edit(1, i("b"), r(3))), parts(r(3), i("x"), r(1))},
		{"one that may not be, between", acts(edit(1, i("a"), r(3)), edit(1, r(1), r(3)), edit(1, d(1), i("a"), r(3)), edit(1, r(2001)), edit(1, d(1), r(3))), parts(r(2), i("x"), r(1))},
		{"an Edit without Ops", acts(edit(1)), ops},
		{"others' Edits", acts(edit(2, i("a"), r(3)), edit(0, i("a"), r(3)), edit(-1, i("a"), r(3)), edit(1<<32+1, i("a"), r(3))), ops},
		{"acts that are no Edits", acts(full(api.Create, 1, 0, "a", i("a"), r(3)), full(api.Remove, 1, 0, "a", i("a"), r(3)), full(api.Move, 1, 0, "a", i("a"), r(3)), full(0, 1, 0, "a", i("a"), r(3)), full(5, 1, 0, "a", i("a"), r(3)), full(-4, 1, 0, "a", i("a"), r(3))), ops},
		{"an Edit with fields that it does not name", acts(full(api.Edit, 1, 7, "a", i("a"), r(3))), parts(r(3), i("x"), r(1))},
		{"its own Edit", acts(edit(1, ops...)), parts(r(2), i("x"), r(2))},
	} {
		l := ones(effect.One{ID: 1, Ops: ops, Edited: true, Removed: true, Created: true, Moved: true, Parent: 5, Name: "n"})
		want := slices.Clone(l)
		want[0].Ops = c.want
		if got := effect.Over(l, c.by); !same(got, want) {
			t.Errorf("P15.2: behind %s: Over is %s, not %s", c.what, show(got), show(want))
		}
		overAsked(t, l, c.by)
	}
}

// TestOverNoneLeft: none stays none, and what is gone does not come back.
func TestOverNoneLeft(t *testing.T) {
	for _, c := range []struct {
		what      string
		ops, want []api.Comp
		by        []api.Act
	}{
		{"none, behind an Insert", nil, nil, acts(edit(1, i("a")))},
		{"an empty list, behind an Insert", []api.Comp{}, nil, acts(edit(1, i("a")), edit(1, r(1)))},
		{"all that it keeps is gone", parts(r(3)), nil, acts(edit(1, d(3)))},
		{"all that it deletes is gone, then an Insert", parts(d(3)), nil, acts(edit(1, d(3)), edit(1, i("a")))},
		{"all is gone, then one of another text", parts(r(1), d(2)), nil, acts(edit(1, d(3)), edit(1, r(7)))},
		{"an Insert is left, then an Insert", parts(r(1), i("x"), r(2)), parts(i("x"), r(1)), acts(edit(1, d(3)), edit(1, i("a")))},
	} {
		for _, is := range []bool{true, false} { // whether it is Edited is not asked
			l := ones(effect.One{ID: 1, Ops: c.ops, Edited: is})
			if got, want := effect.Over(l, c.by), ones(effect.One{ID: 1, Ops: c.want, Edited: is}); !same(got, want) {
				t.Errorf("P15.2: %s: Over is %s, not %s", c.what, show(got), show(want))
			}
		}
	}
}

// TestOverFails: Ops that no step takes stay as they are, normal or not.
func TestOverFails(t *testing.T) {
	for _, ops := range [][]api.Comp{parts(r(0)), parts(r(1), r(2)), parts(d(1), i("a"), r(2)), parts(i("\xff"), r(3)), parts(api.Comp{Kind: 9, N: 3}), parts(r(3), api.Comp{}), parts(i(long(2001)), r(3)), parts(r(2001)), parts(r(1<<62), r(1<<62)), make([]api.Comp, 101)} {
		l := ones(edited(1, ops))
		if got := effect.Over(l, acts(edit(1, i("a"), r(3)), edit(1), edit(1, ops...))); !same(got, l) {
			t.Errorf("P15.2: Over of %s is %s", show(l), show(got))
		}
	}
}

// TestOverTooGreat: what a step makes may be greater than an Edit may be; the next step does not take it.
func TestOverTooGreat(t *testing.T) {
	var ops, cut []api.Comp
	for range 50 {
		ops, cut = append(ops, r(1), d(2)), append(cut, r(1), d(2))
	}
	cut = append(parts(r(1), d(1), r(1), d(1)), cut[2:]...)
	by := acts(edit(1, r(2), i("a"), r(148)), edit(1, i("b"), r(151)))
	got := effect.Over(ones(edited(1, ops)), by)
	if !same(got, ones(edited(1, cut))) || len(cut) != 102 {
		t.Errorf("P15.2: Over is %s, not %s", show(got), show(ones(edited(1, cut))))
	}
	texts := ones(edited(1, parts(i(long(1500)))))
	got = effect.Over(texts, acts(edit(1, i(long(1500))), edit(1, d(1500)), edit(1, i("a"), r(1500))))
	if want := ones(edited(1, parts(i(long(1500)), r(1500)))); !same(got, want) {
		t.Errorf("P15.2: Over is %s, not %s", show(got), show(want))
	}
}

// TestOverEach: each of a list on its own, in its order, one ID twice too.
func TestOverEach(t *testing.T) {
	l := ones(edited(9, parts(i("x"), r(2))), effect.One{ID: 4, Removed: true}, edited(1, parts(r(1), i("y"))), edited(9, parts(r(2), i("z"))), effect.One{}, edited(9, parts(r(5))), effect.One{ID: 1, Ops: parts(d(1))})
	by := acts(edit(9, r(1), i("ab"), r(1)), edit(1, d(1)), edit(4, i("c")), edit(9, r(5)), edit(0, i("d")))
	want := ones(edited(9, parts(i("x"), r(4))), effect.One{ID: 4, Removed: true}, edited(1, parts(i("y"))), edited(9, parts(r(4), i("z"))), effect.One{}, edited(9, parts(r(5))), effect.One{ID: 1})
	if got := effect.Over(l, by); !same(got, want) {
		t.Errorf("P15.2: Over is %s, not %s", show(got), show(want))
	}
	for _, none := range [][]effect.One{nil, []effect.One{}} {
		if got := effect.Over(none, by); len(got) != 0 {
			t.Errorf("P15.2: Over of none is %s", show(got))
		}
	}
}

// TestOverShortLists asks all lists of few acts, of each of few Ops.
func TestOverShortLists(t *testing.T) {
	l := ones(edited(1, parts(r(2))), edited(2, parts(i("x"), r(1))), effect.One{ID: 1, Ops: parts(r(1), i("y"), d(1))}, edited(1, nil), effect.One{ID: 2, Ops: parts(d(1)), Removed: true})
	pool := acts(edit(1, i("a"), r(2)), edit(1, r(1), d(1)), edit(1, d(2)), edit(1, r(3)), edit(1, i("é")), edit(1, r(0)), edit(2, r(1), i("b")), edit(2, d(1)), edit(2), full(api.Move, 1, 3, "m", d(2)), remove(2))
	lists(4, pool, func(by []api.Act) { overAsked(t, l, by) })
}

// TestOverStepByStep asks long lists, cut in two at each place.
func TestOverStepByStep(t *testing.T) {
	x := dice(152)
	for range 400 {
		n := x.below(6)
		l := effect.Of(acts(edit(1, x.edit(n)...), edit(2, x.edit(n)...), remove(x.below(5)), move(1, 2, "a")))
		var by []api.Act
		for range x.below(12) {
			by = append(by, edit(1+x.below(2), x.edit(x.below(8))...))
		}
		overAsked(t, l, by)
		all := effect.Over(l, by)
		for at := range by {
			if got := effect.Over(effect.Over(l, by[:at]), by[at:]); !same(got, all) {
				t.Fatalf("P15.2: Over(%s; %s) is %s, but cut at %d it is %s", show(l), show(by), show(all), at, show(got))
			}
		}
	}
}

// TestOverMeets: what one did, and then others seen from behind it, is one text with others, and then that one seen from behind them.
func TestOverMeets(t *testing.T) {
	x, met := dice(153), 0
	for range 2000 {
		n := 1 + x.below(9)
		text := "abcdefghé"[:n+n/9]
		a, b := x.edit(n), x.edit(n)
		if op.Check(a) != api.OK || op.Check(b) != api.OK {
			continue
		}
		left := effect.Over(effect.Of(acts(edit(1, a...))), acts(edit(1, b...)))
		one, _ := apply.Do(text, b)
		one, e := apply.Do(one, left[0].Ops)
		if e != api.OK {
			t.Fatalf("P15.2: %s; %s: Do behind is %d", show(a), show(b), e)
		}
		met++
		other, _ := apply.Do(text, a)
		last, _ := xform.Over(b, a, false)
		if other, e = apply.Do(other, last); one != other || e != api.OK {
			t.Fatalf("P15.2: %s; %s: %q, or %q (%d)", show(a), show(b), one, other, e)
		}
	}
	if met < 200 {
		t.Errorf("P15.2: only %d of 2000 met", met)
	}
}

// TestOverMany asks many of many.
func TestOverMany(t *testing.T) {
	var l []effect.One
	var by []api.Act
	for id := range 50000 {
		l = append(l, edited(id, parts(r(1), i("x"))))
		by = append(by, edit(50000-id, r(1), i("a")))
	}
	for id, x := range effect.Over(l, by) {
		want := parts(r(1), i("x"), r(1))
		if id == 0 {
			want = parts(r(1), i("x"))
		}
		if x.ID != id || !slices.Equal(x.Ops, want) {
			t.Fatalf("P15.2: Over of 50000 has %v at %d", x, id)
		}
	}
}
