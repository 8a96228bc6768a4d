package rebase_test

import (
	"slices"
	"testing"

	"ropewalk/api"
	"ropewalk/effect"
	"ropewalk/rebase"
	"ropewalk/txn"
)

// TestOverTold tells outright what comes of acts behind others.
func TestOverTold(t *testing.T) {
	for _, c := range []struct {
		what  string
		l, by []api.Act
		want  []api.Act
		e     api.Errno
	}{
		{"none", nil, nil, nil, api.OK},
		{"empty lists", acts(), acts(), nil, api.OK},
		{"none behind all", nil, acts(remove(1), edit(2, r(1)), move(3, 0, "a"), create(4, 0, "b")), nil, api.OK},
		{"all behind none", acts(create(1, 0, "a"), edit(1, i("x")), move(2, 1, "b"), remove(3)), nil, acts(create(1, 0, "a"), edit(1, i("x")), move(2, 1, "b"), remove(3)), api.OK},
		{"nothing in common", acts(mkdir(1, 0, "a"), edit(2, r(1), i("x")), move(3, 4, "b"), remove(5), edit(6)), acts(edit(7, i("y")), remove(8), move(9, 4, "b"), create(10, 0, "a")), acts(mkdir(1, 0, "a"), edit(2, r(1), i("x")), move(3, 4, "b"), remove(5), edit(6)), api.OK},
		{"both edit", acts(edit(1, r(2), i("x"), r(1))), acts(edit(1, i("ab"), r(2), d(1))), acts(edit(1, r(4), i("x"))), api.OK},
		{"both put in at one place", acts(edit(1, r(1), i("x"))), acts(edit(1, r(1), i("yé"))), acts(edit(1, r(3), i("x"))), api.OK},
		{"both delete", acts(edit(1, r(1), d(2), r(1))), acts(edit(1, d(2), r(2))), acts(edit(1, d(1), r(1))), api.OK},
		{"both delete the same", acts(edit(1, d(2))), acts(edit(1, d(2))), acts(edit(1)), api.OK},
		{"an Edit without Ops behind an Insert", acts(edit(1)), acts(edit(1, i("ab"))), acts(edit(1, r(2))), api.OK},
		{"an Edit without Ops behind one of a text", acts(edit(1)), acts(edit(1, r(1))), nil, api.ErrText},
		{"an Edit behind one without Ops", acts(edit(1, r(1), i("x"))), acts(edit(1)), acts(edit(1, r(1), i("x"))), api.OK},
		{"two Edits behind two", acts(edit(2, i("x"), r(1)), edit(1, i("y"), r(2))), acts(edit(1, i("a"), r(2)), edit(2, d(1))), acts(edit(2, i("x")), edit(1, r(1), i("y"), r(2))), api.OK},
		{"an Edit of another text", acts(edit(1, r(1))), acts(edit(1, r(2))), nil, api.ErrText},
		{"an Edit behind a Move", acts(edit(1, r(1), i("x"))), acts(move(1, 5, "m")), acts(edit(1, r(1), i("x"))), api.OK},
		{"an Edit behind an Edit and a Move", acts(edit(1, r(1), i("x"))), acts(move(1, 5, "m"), edit(1, i("a"), r(1))), acts(edit(1, r(2), i("x"))), api.OK},
		{"an Edit behind a Remove", acts(edit(1, r(1))), acts(remove(1)), nil, api.ErrGone},
		{"an Edit behind an Edit of another text, and a Remove", acts(edit(1, r(1))), acts(edit(1, r(2)), remove(1)), nil, api.ErrGone},
		{"a Move behind an Edit", acts(move(1, 5, "m")), acts(edit(1, r(1), i("x"))), acts(move(1, 5, "m")), api.OK},
		{"a Move and an Edit behind an Edit", acts(move(1, 5, "m"), edit(1, r(1))), acts(edit(1, r(1), i("x"))), acts(move(1, 5, "m"), edit(1, r(2))), api.OK},
		{"both move it there", acts(move(1, 5, "m")), acts(move(1, 5, "m")), nil, api.OK},
		{"both move it there, and one edits it", acts(edit(1, r(1)), move(1, 5, "m"), edit(2, r(1))), acts(move(1, 5, "m"), edit(1, r(1), i("x"))), acts(edit(1, r(2)), edit(2, r(1))), api.OK},
		{"it was moved there at last", acts(move(1, 5, "m"), remove(2)), acts(move(1, 5, "n"), move(1, 5, "m")), acts(remove(2)), api.OK},
		{"it was created there", acts(move(1, 5, "m")), acts(create(1, 5, "m")), acts(move(1, 5, "m")), api.OK},
		{"it is moved twice, once to there", acts(move(1, 5, "m"), move(1, 5, "n")), acts(move(1, 5, "m")), nil, api.ErrClash},
		{"it is moved there twice", acts(move(1, 5, "m"), move(2, 5, "n"), move(1, 5, "m")), acts(move(1, 5, "m")), acts(move(2, 5, "n")), api.OK},
		{"it was moved to another Parent", acts(move(1, 5, "m")), acts(move(1, 6, "m")), nil, api.ErrClash},
		{"it was moved to another Name", acts(move(1, 5, "m")), acts(move(1, 5, "n")), nil, api.ErrClash},
		{"others were moved there", acts(move(1, 5, "m")), acts(move(2, 5, "m"), create(3, 5, "m")), acts(move(1, 5, "m")), api.OK},
		{"a Move of what was removed", acts(move(1, 5, "m")), acts(remove(1)), nil, api.ErrGone},
		{"a Move of what was moved there, and removed", acts(move(1, 5, "m")), acts(move(1, 5, "m"), remove(1)), nil, api.ErrGone},
		{"a Move into what was removed", acts(move(1, 5, "m")), acts(remove(5)), nil, api.ErrGone},
		{"a Move to where it was moved, which was removed", acts(move(1, 5, "m")), acts(move(1, 5, "m"), remove(5)), nil, api.ErrGone},
		{"both remove", acts(remove(1)), acts(remove(1)), nil, api.OK},
		{"both remove, and more", acts(edit(2, r(1)), remove(1), remove(3)), acts(remove(1), edit(1, r(7)), move(1, 5, "m")), acts(edit(2, r(1)), remove(3)), api.OK},
		{"a Remove twice", acts(remove(1), remove(1)), acts(remove(1)), nil, api.OK},
		{"a Remove of what was edited", acts(remove(1)), acts(edit(1, r(1))), nil, api.ErrClash},
		{"a Remove of what was edited without Ops", acts(remove(1)), acts(edit(1)), nil, api.ErrClash},
		{"a Remove of what was moved", acts(remove(1)), acts(move(1, 5, "m")), nil, api.ErrClash},
		{"a Remove of what was created", acts(remove(1)), acts(create(1, 5, "m")), acts(remove(1)), api.OK},
		{"a Remove of where others went", acts(remove(5)), acts(create(1, 5, "m"), move(2, 5, "n")), acts(remove(5)), api.OK},
		{"a Create of what was created", acts(create(1, 5, "m")), acts(create(1, 5, "m")), nil, api.ErrClash},
		{"a Create of what was removed", acts(create(1, 5, "m")), acts(remove(1)), acts(create(1, 5, "m")), api.OK},
		{"a Create in what was removed", acts(create(1, 5, "m")), acts(remove(5)), nil, api.ErrGone},
		{"a Create where another one was", acts(create(1, 5, "m")), acts(create(2, 5, "m"), move(3, 5, "m")), acts(create(1, 5, "m")), api.OK},
		{"a Create in the root", acts(create(1, 0, "m")), acts(remove(5)), acts(create(1, 0, "m")), api.OK},
		{"a Remove that is left out, then a Create of it", acts(remove(1), create(1, 0, "m"), edit(1, i("x"))), acts(remove(1)), nil, api.ErrGone},
	} {
		by := effect.Of(c.by)
		out, left, e := rebase.Over(c.l, by)
		want := by
		if c.e == api.OK {
			want = effect.Over(by, c.l)
		}
		if e != c.e || !sameActs(out, c.want) || !sameOnes(left, want) {
			t.Errorf("P16.2: %s: Over is %s; %s; %d", c.what, show(out), show(left), e)
		}
		overAsked(t, c.l, by)
	}
}

// TestOverLeft tells outright what is left of what was done.
func TestOverLeft(t *testing.T) {
	by := ones(edited(1, i("ab"), r(2)), effect.One{ID: 2, Edited: true, Moved: true, Parent: 5, Name: "m", Ops: parts(r(1), d(1))}, effect.One{ID: 3, Removed: true}, effect.One{ID: 1, Ops: parts(d(2))})
	for _, c := range []struct {
		what string
		l    []api.Act
		want []effect.One
		e    api.Errno
	}{
		{"none", nil, by, api.OK},
		{"others", acts(edit(4, i("x"), r(2)), move(1, 0, "a"), create(5, 0, "b")), by, api.OK},
		{"one Edit", acts(edit(1, r(2), i("x"))), ones(edited(1, i("ab"), r(3)), by[1], by[2], effect.One{ID: 1, Ops: parts(d(2), r(1))}), api.OK},
		{"an Edit at one place, behind which it is put", acts(edit(1, i("x"), r(2))), ones(edited(1, i("ab"), r(3)), by[1], by[2], effect.One{ID: 1, Ops: parts(r(1), d(2))}), api.OK},
		{"two Edits, a Remove and a Move that are left out", acts(remove(3), edit(2, d(2)), move(2, 5, "m"), edit(1, d(1), r(1))), ones(edited(1, i("ab"), r(1)), effect.One{ID: 2, Edited: true, Moved: true, Parent: 5, Name: "m"}, by[2], effect.One{ID: 1, Ops: parts(d(1))}), api.OK},
		{"an Edit, then a clash", acts(edit(1, r(2), i("x")), remove(2)), by, api.ErrClash},
		{"an Edit, then what is gone", acts(edit(1, r(2), i("x")), edit(3)), by, api.ErrGone},
		{"an Edit, then one of another text", acts(edit(1, r(2), i("x")), edit(2, r(3))), by, api.ErrText},
		{"an Edit, then what may not be", acts(edit(1, r(2), i("x")), remove(0)), by, api.ErrArg},
		{"an Edit, then one too great", acts(edit(1, r(2), i("x")), edit(2, r(2001))), by, api.ErrBig},
	} {
		_, left, e := rebase.Over(c.l, by)
		if e != c.e || !sameOnes(left, c.want) {
			t.Errorf("P16.2: behind %s: left is %s, %d, not %s", c.what, show(left), e, show(c.want))
		}
		overAsked(t, c.l, by)
	}
}

// TestOverOps: Ops count only of what is Edited, and what is Edited only with Ops.
func TestOverOps(t *testing.T) {
	l := acts(edit(1, r(1), i("x")))
	for _, c := range []struct {
		what string
		by   []effect.One
		want []api.Act
		e    api.Errno
	}{
		{"Edited, with Ops", ones(edited(1, i("a"), r(1))), acts(edit(1, r(2), i("x"))), api.OK},
		{"not Edited, with Ops", ones(effect.One{ID: 1, Ops: parts(i("a"), r(1))}), l, api.OK},
		{"not Edited, with Ops that may not be", ones(effect.One{ID: 1, Ops: parts(r(0))}), l, api.OK},
		{"not Edited, but Moved and Created, with Ops", ones(effect.One{ID: 1, Moved: true, Created: true, Ops: parts(i("a"), r(1))}), l, api.OK},
		{"Edited, without Ops", ones(edited(1)), l, api.OK},
		{"Edited, with an empty list", ones(effect.One{ID: 1, Edited: true, Ops: []api.Comp{}}), l, api.OK},
		{"Edited twice", ones(edited(1, i("a"), r(1)), edited(1, i("b"), r(1))), acts(edit(1, r(2), i("x"))), api.OK},
		{"Edited, behind one that is not", ones(effect.One{ID: 1}, edited(1, i("b"), r(1))), l, api.OK},
		{"not normal", ones(edited(1, d(1), i("a"))), nil, api.ErrArg},
		{"of no Kind", ones(edited(1, api.Comp{N: 1})), nil, api.ErrArg},
		{"not Valid", ones(edited(1, i("\xff"), r(1))), nil, api.ErrArg},
		{"of 101 parts", ones(edited(1, make([]api.Comp, 101)...)), nil, api.ErrBig},
		{"of 2001", ones(edited(1, r(2001))), nil, api.ErrBig},
		{"of a text too long", ones(edited(1, r(1), some(2000))), nil, api.ErrBig},
		{"of 2000", ones(edited(1, r(2000))), nil, api.ErrText},
		{"of 0", ones(edited(1, i("a"))), nil, api.ErrText},
	} {
		out, _, e := rebase.Over(l, c.by)
		if e != c.e || !sameActs(out, c.want) {
			t.Errorf("P16.2: behind one %s: Over is %s, %d, not %s, %d", c.what, show(out), e, show(c.want), c.e)
		}
		overAsked(t, l, c.by)
	}
}

// cut is an edit of n code points that puts something in ahead of each.
func cut(n int) (l []api.Comp) {
	for range n {
		l = append(l, i("y"), r(1))
	}
	return l
}

// TestOverTooGreat: what comes of it is asked again.
func TestOverTooGreat(t *testing.T) {
	for _, c := range []struct {
		what string
		l    []api.Act
		by   []effect.One
		e    api.Errno
	}{
		{"100 parts", acts(edit(1, d(50))), ones(edited(1, cut(50)...)), api.OK},
		{"101 parts", acts(edit(1, i("x"), d(50))), ones(edited(1, cut(50)...)), api.ErrBig},
		{"101 parts of the second Edit", acts(edit(2, r(1)), edit(1, i("x"), d(50))), ones(edited(1, cut(50)...)), api.ErrBig},
		{"a text of 2000", acts(edit(1, r(1000), some(500))), ones(edited(1, some(500), r(1000))), api.OK},
		{"a text of 2001", acts(edit(1, r(1000), some(501))), ones(edited(1, some(500), r(1000))), api.ErrBig},
		{"a base of 2000", acts(edit(1, d(1000))), ones(edited(1, r(1000), some(1000))), api.OK},
		{"Inserts of two Edits, 2000 in all", acts(edit(1, some(1000)), edit(2, some(1000))), ones(edited(1, some(1000)), edited(2, some(1000))), api.OK},
		{"an Edit too great, then a clash", acts(edit(1, i("x"), d(50)), remove(2)), ones(edited(1, cut(50)...), edited(2)), api.ErrClash},
		{"an Edit too great, then one of another text", acts(edit(1, i("x"), d(50)), edit(2, r(1))), ones(edited(1, cut(50)...), edited(2, r(2))), api.ErrText},
	} {
		if e := overAsked(t, c.l, c.by); e != c.e {
			t.Errorf("P16.2: %s: Over is %d, not %d", c.what, e, c.e)
		}
	}
}

// TestOverOrder: of two errors, which is told.
func TestOverOrder(t *testing.T) {
	by := ones(effect.One{ID: 1, Removed: true}, edited(2, r(5)), edited(3, r(0)), edited(4, r(2001)), effect.One{ID: 6, Removed: true, Edited: true, Ops: parts(r(0))})
	for _, c := range []struct {
		what string
		l    []api.Act
		e    api.Errno
	}{
		{"too many acts, of what is gone", slices.Repeat(acts(edit(1)), 21), api.ErrBig},
		{"gone, then an act that may not be", acts(edit(1), remove(0)), api.ErrArg},
		{"gone, and not normal", acts(edit(1, r(0))), api.ErrArg},
		{"gone, and too great", acts(edit(1, r(2001))), api.ErrBig},
		{"gone, then a second Edit of one", acts(edit(1), edit(1)), api.ErrArg},
		{"gone, then a clash", acts(edit(1), remove(2)), api.ErrGone},
		{"a clash, then gone", acts(remove(2), edit(1)), api.ErrClash},
		{"another text, then gone", acts(edit(2, r(4)), edit(1)), api.ErrText},
		{"gone, then another text", acts(edit(1), edit(2, r(4))), api.ErrGone},
		{"gone, and Ops that may not be", acts(edit(6)), api.ErrGone},
		{"Ops that may not be, then another text", acts(edit(3), edit(2, r(4))), api.ErrArg},
		{"another text, then Ops that may not be", acts(edit(2, r(4)), edit(3)), api.ErrText},
		{"Ops too great, then Ops that may not be", acts(edit(4), edit(3)), api.ErrBig},
		{"Ops that may not be, then Ops too great", acts(edit(3), edit(4)), api.ErrArg},
		{"a Remove that is left out, then gone", acts(remove(1), edit(6)), api.ErrGone},
	} {
		if e := overAsked(t, c.l, by); e != c.e {
			t.Errorf("P16.2: %s: Over is %d, not %d", c.what, e, c.e)
		}
	}
}

// pool is acts that may be, and some that may not.
func pool() []api.Act {
	return acts(
		create(1, 0, "a"), mkdir(2, 1, "b"), create(1, 2, "b"), remove(1), remove(2), move(1, 0, "a"), move(1, 2, "b"), move(2, 0, "b"), move(2, 1, "b"),
		edit(1, r(2)), edit(1, i("é"), d(1), r(1)), edit(1, r(2), i("x")), edit(1, r(3)), edit(1), edit(2, d(2)), edit(2, r(1), i("y"), r(1)),
		remove(0), edit(2, r(0)), edit(1, r(2001)), api.Act{Kind: 5, ID: 1},
	)
}

// TestOverShortLists asks all short lists, behind all short lists.
func TestOverShortLists(t *testing.T) {
	told := map[api.Errno]int{}
	lists(2, pool(), func(l []api.Act) {
		lists(2, pool(), func(by []api.Act) { told[overAsked(t, l, effect.Of(by))]++ })
	})
	good := pool()[:16]
	for _, by := range [][]api.Act{acts(remove(1)), acts(move(1, 2, "b"), edit(1, r(1), i("z"), r(1))), acts(edit(2, i("z"), r(2)), edit(1, d(2))), acts(move(2, 1, "b"), create(1, 0, "a")), acts(remove(2), edit(1, r(1), d(1)))} {
		lists(3, good, func(l []api.Act) { told[overAsked(t, l, effect.Of(by))]++ })
	}
	for _, e := range []api.Errno{api.OK, api.ErrGone, api.ErrClash, api.ErrText, api.ErrArg, api.ErrBig} {
		if told[e] == 0 {
			t.Errorf("P16.2: Over has told %v", told)
		}
	}
}

// row is a long list of acts that may be, of few IDs.
func (x *dice) row(n int) (l []api.Act) {
	for range n {
		id, parent, name := 1+x.below(9), x.below(4), pick(x, "a", "b")
		a := pick(x, create(id, parent, name), remove(id), move(id, parent, name), edit(id, x.edit(3+x.below(9)/8)...), edit(id, x.edit(3)...))
		if txn.Check(append(l, a)) == api.OK {
			l = append(l, a)
		}
	}
	return l
}

// TestOverLongRuns asks longer lists, behind others.
func TestOverLongRuns(t *testing.T) {
	x, told := dice(161), map[api.Errno]int{}
	for range 20000 {
		told[overAsked(t, x.row(x.below(9)), effect.Of(x.row(x.below(7))))]++
	}
	if told[api.OK] < 1000 || told[api.ErrGone] < 100 || told[api.ErrClash] < 100 || told[api.ErrText] < 100 {
		t.Errorf("P16.2: Over has told %v", told)
	}
}

// TestOverNothingInCommon: l stays as it is, and so does by.
func TestOverNothingInCommon(t *testing.T) {
	x := dice(162)
	for range 2000 {
		l, by := x.row(x.below(20)), effect.Of(x.row(x.below(20)))
		for at := range by {
			by[at].ID += 10
		}
		if out, left, e := rebase.Over(l, by); e != api.OK || !sameActs(out, l) || !sameOnes(left, by) {
			t.Fatalf("P16.4: Over(%s; %s) is %s; %s; %d", show(l), show(by), show(out), show(left), e)
		}
	}
}

// TestOverMany asks few acts behind very many.
func TestOverMany(t *testing.T) {
	var by []effect.One
	for id := range 100000 {
		by = append(by, edited(id, i("a"), r(1)))
	}
	by = append(by, effect.One{ID: 100000, Removed: true})
	l := acts(edit(99999, r(1), i("x")), remove(100000), edit(100001, r(5)))
	out, left, e := rebase.Over(l, by)
	if e != api.OK || !sameActs(out, acts(edit(99999, r(2), i("x")), edit(100001, r(5)))) || len(left) != len(by) {
		t.Errorf("P16.2: Over is %s, %d of %d, %d", show(out), len(left), len(by), e)
	}
	for at, x := range left {
		want := by[at]
		if at == 99999 {
			want = edited(at, i("a"), r(2))
		}
		if !sameOnes(ones(x), ones(want)) {
			t.Fatalf("P16.2: left is %v at %d", x, at)
		}
	}
}
