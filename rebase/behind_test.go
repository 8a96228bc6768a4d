package rebase_test

import (
	"testing"

	"ropewalk/api"
	"ropewalk/effect"
	"ropewalk/rebase"
	"ropewalk/tree"
	"ropewalk/txn"
)

// TestBehindTold tells outright what comes of acts behind commits.
func TestBehindTold(t *testing.T) {
	all := commits(acts(edit(1, i("a"), r(1))), acts(edit(1, r(2), i("b")), move(3, 5, "m")), acts(remove(2)))
	for _, c := range []struct {
		what string
		n    int // of all these
		l    []api.Act
		want []api.Act
		e    api.Errno
	}{
		{"none behind none", 0, nil, nil, api.OK},
		{"none behind all", 3, nil, nil, api.OK},
		{"behind none", 0, acts(edit(1, r(1), i("x")), remove(2)), acts(edit(1, r(1), i("x")), remove(2)), api.OK},
		{"behind one", 1, acts(edit(1, r(1), i("x")), remove(2)), acts(edit(1, r(2), i("x")), remove(2)), api.OK},
		{"behind two", 2, acts(edit(1, r(1), i("x")), remove(2)), acts(edit(1, r(3), i("x")), remove(2)), api.OK},
		{"behind three", 3, acts(edit(1, r(1), i("x")), remove(2)), acts(edit(1, r(3), i("x"))), api.OK},
		{"all is left out on the way", 3, acts(move(3, 5, "m")), nil, api.OK},
		{"gone behind the third", 3, acts(edit(1, r(1)), edit(2, r(9))), nil, api.ErrGone},
		{"not yet gone behind the second", 2, acts(edit(1, r(1)), edit(2, r(9))), acts(edit(1, r(3)), edit(2, r(9))), api.OK},
		{"a clash behind the first, gone behind the third", 3, acts(remove(1), edit(2)), nil, api.ErrClash},
		{"a clash behind the second", 3, acts(move(3, 5, "n")), nil, api.ErrClash},
		{"another text", 1, acts(edit(1, r(2))), nil, api.ErrText},
		{"may not be, behind none", 0, acts(edit(1, r(0), r(5)), api.Act{Kind: 9, ID: -1, Parent: -2, Name: "/", Dir: true, Ops: parts(r(-1))}), acts(edit(1, r(0), r(5)), api.Act{Kind: 9, ID: -1, Parent: -2, Name: "/", Dir: true, Ops: parts(r(-1))}), api.OK},
		{"may not be, behind one", 1, acts(edit(9, r(0))), nil, api.ErrArg},
		{"too great, behind one", 1, acts(edit(9, r(2001))), nil, api.ErrBig},
	} {
		if out, e := rebase.Behind(c.l, all[:c.n]); e != c.e || !sameActs(out, c.want) {
			t.Errorf("P16.3: %s: Behind is %s, %d", c.what, show(out), e)
		}
		behindAsked(t, c.l, all[:c.n])
	}
}

// TestBehindAnyCommits: of a commit only its Acts are asked, and these need not be what may be.
func TestBehindAnyCommits(t *testing.T) {
	l := acts(edit(1, r(1), i("x")), create(2, 3, "a"))
	for _, c := range []struct {
		what string
		c    []api.Commit
		want []api.Act
		e    api.Errno
	}{
		{"of no Acts", commits(nil, acts()), l, api.OK},
		{"of other numbers", []api.Commit{{Rev: 9, Client: 4, Seq: 7, Acts: acts(edit(1, i("a"), r(1)))}, {Rev: -9, Acts: acts(edit(1, i("b"), r(2)))}, {}}, acts(edit(1, r(3), i("x")), create(2, 3, "a")), api.OK},
		{"of acts of no Kind", commits(acts(api.Act{ID: 1, Ops: parts(d(1))}, api.Act{Kind: 5, ID: 3})), l, api.OK},
		{"of Ops that may not be", commits(acts(edit(1, i("a"), r(1))), acts(edit(1, r(0)))), nil, api.ErrArg},
		{"of Ops too great", commits(acts(edit(1, r(1), some(2000)))), nil, api.ErrBig},
		{"of two Edits of one, the last of which counts", commits(acts(edit(1, r(9)), edit(1, i("a"), r(1)))), acts(edit(1, r(2), i("x")), create(2, 3, "a")), api.OK},
		{"of very many acts", commits(append(make([]api.Act, 5000), edit(1, i("a"), r(1)))), acts(edit(1, r(2), i("x")), create(2, 3, "a")), api.OK},
		{"of a text that is of the first one, not of the outcome", commits(acts(edit(1, i("a"), r(1))), acts(edit(1, i("a"), r(1)))), nil, api.ErrText},
	} {
		if out, e := rebase.Behind(l, c.c); e != c.e || !sameActs(out, c.want) {
			t.Errorf("P16.3: behind commits %s: Behind is %s, %d", c.what, show(out), e)
		}
		behindAsked(t, l, c.c)
	}
	if out, e := rebase.Behind(make([]api.Act, 30), nil); e != api.OK || !sameActs(out, make([]api.Act, 30)) {
		t.Errorf("P16.3: Behind none of 30 acts is %s, %d", show(out), e)
	}
	for _, none := range [][]api.Commit{nil, {}} {
		if out, e := rebase.Behind(l, none); e != api.OK || !sameActs(out, l) {
			t.Errorf("P16.3: Behind none is %s, %d", show(out), e)
		}
	}
}

// TestBehindShortLists asks all short lists, behind up to three commits.
func TestBehindShortLists(t *testing.T) {
	told := map[api.Errno]int{}
	few := [][]api.Act{nil, acts(edit(1, i("a"), r(2))), acts(edit(1, r(3), i("b"))), acts(remove(1)), acts(move(2, 1, "b"), edit(1, d(2))), acts(create(1, 0, "a")), acts(remove(2), edit(1, r(2)))}
	lists(2, pool(), func(l []api.Act) {
		lists(3, few, func(c [][]api.Act) { told[behindAsked(t, l, commits(c...))]++ })
	})
	for _, e := range []api.Errno{api.OK, api.ErrGone, api.ErrClash, api.ErrText, api.ErrArg, api.ErrBig} {
		if told[e] == 0 {
			t.Errorf("P16.3: Behind has told %v", told)
		}
	}
}

// TestBehindStepByStep: behind some, then behind the rest, is behind all.
func TestBehindStepByStep(t *testing.T) {
	x, told := dice(163), map[api.Errno]int{}
	for range 4000 {
		var c [][]api.Act
		for range x.below(5) {
			c = append(c, x.row(x.below(3)))
		}
		l, all := x.row(x.below(6)), commits(c...)
		told[behindAsked(t, l, all)]++
		out, e := rebase.Behind(l, all)
		for at := range all {
			mid, e2 := rebase.Behind(l, all[:at])
			if e2 == api.OK {
				mid, e2 = rebase.Behind(mid, all[at:])
			}
			if e2 != e || !sameActs(mid, out) {
				t.Fatalf("P16.3: Behind(%s; %s) is %s, %d, but cut at %d it is %s, %d", show(l), show(all), show(out), e, at, show(mid), e2)
			}
		}
	}
	if told[api.OK] < 500 || told[api.ErrGone] < 50 || told[api.ErrClash] < 50 || told[api.ErrText] == 0 {
		t.Errorf("P16.3: Behind has told %v", told)
	}
}

// shelf is a tree of a directory 1 and files 2 to 4, of "abé" each, and what is done behind it.
func shelf(t *testing.T, l ...[]api.Act) *tree.Tree {
	t.Helper()
	all := [][]api.Act{acts(mkdir(1, 0, "d"), create(2, 0, "a"), create(3, 1, "b"), create(4, 1, "c"), edit(2, i("abé")), edit(3, i("abé")), edit(4, i("abé")))}
	out := tree.New()
	for _, a := range append(all, l...) {
		next, at, e := txn.Do(out, a)
		if e != api.OK {
			t.Fatalf("P16.2: %s: act %d is %d", show(a), at, e)
		}
		out = next
	}
	return out
}

func text(t *tree.Tree, id int) string {
	n, _ := t.Get(id)
	return n.Text
}

// TestExample is the chapter's: both edit a file, and one removes what the other one edits.
func TestExample(t *testing.T) {
	l, by := acts(edit(2, r(3), i("x"))), acts(edit(2, i("y"), d(1), r(2)))
	out, e := rebase.Behind(l, commits(by))
	if got := text(shelf(t, by, out), 2); e != api.OK || got != "ybéx" {
		t.Errorf("P16.2: both edit: %q, %d", got, e)
	}
	l, by = acts(edit(2, i("x"), r(3))), acts(edit(2, i("y"), r(3)))
	out, e = rebase.Behind(l, commits(by))
	if got := text(shelf(t, by, out), 2); e != api.OK || got != "yxabé" {
		t.Errorf("P16.2: both put in at one place: %q, %d", got, e)
	}
	if out, e = rebase.Behind(l, commits(acts(remove(2)))); len(out) != 0 || e != api.ErrGone {
		t.Errorf("P16.2: one removes it: %s, %d", show(out), e)
	}
	if out, e = rebase.Behind(acts(remove(2)), commits(l)); len(out) != 0 || e != api.ErrClash {
		t.Errorf("P16.2: the other one edits it: %s, %d", show(out), e)
	}
}

// edits is the Edits of what is left.
func edits(l []effect.One) (out []api.Act) {
	for _, x := range l {
		if x.Edited {
			out = append(out, edit(x.ID, x.Ops...))
		}
	}
	return out
}

// work is a transaction of Edits of files whose lengths are given, and maybe of a Create and a Move.
func (x *dice) work(long map[int]int, fresh int) (l []api.Act) {
	for id := 2; id <= 4; id++ {
		if x.below(2) == 0 {
			l = append(l, edit(id, x.edit(long[id])...))
		}
	}
	if x.below(2) == 0 {
		l = append(l, create(fresh, pick(x, 0, 1), string(rune('e'+fresh))), move(pick(x, 2, 4), 1, "m"))
	}
	if txn.Check(l) != api.OK {
		return nil
	}
	return l
}

// lengths is how long the files are.
func lengths(t *tree.Tree) map[int]int {
	out := map[int]int{}
	for id := 2; id <= 4; id++ {
		out[id] = len([]rune(text(t, id)))
	}
	return out
}

// TestAlike: others' Edits, and then two transactions, one behind the other, behind these, make the texts that the two make, and then what is left of the others' behind both.
func TestAlike(t *testing.T) {
	x, met := dice(164), 0
	start := lengths(shelf(t))
	for range 3000 {
		one := x.work(start, 5)
		two := x.work(lengths(shelf(t, one)), 6)
		var by []api.Act
		for _, a := range x.work(start, 7) {
			if a.Kind == api.Edit {
				by = append(by, a)
			}
		}
		if _, _, e := txn.Do(shelf(t, one), two); e != api.OK {
			continue // both move one
		}
		behindOne, left, e := rebase.Over(one, effect.Of(by))
		behindTwo, last, e2 := rebase.Over(two, left)
		if e != api.OK || e2 != api.OK {
			t.Fatalf("P16.2: %s, then %s, behind %s: %d, %d", show(one), show(two), show(by), e, e2)
		}
		met++
		a, b := shelf(t, by, behindOne, behindTwo), shelf(t, one, two, edits(last))
		if !tree.Same(a, b) {
			t.Fatalf("P16.2: %s, then %s, behind %s: %s, or %s", show(one), show(two), show(by), show(a.Nodes()), show(b.Nodes()))
		}
	}
	if met < 1000 {
		t.Errorf("P16.2: only %d of 3000 met", met)
	}
}
