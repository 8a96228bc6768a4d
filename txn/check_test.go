package txn_test

import (
	"fmt"
	"slices"
	"strings"
	"testing"

	"ropewalk/api"
	"ropewalk/txn"
)

// TestCheckFields asks one act, each field right, wrong or none.
func TestCheckFields(t *testing.T) {
	fields(func(a api.Act) { checked(t, acts(a)) })
}

// TestCheckKinds asks of each Kind the edges, told outright.
func TestCheckKinds(t *testing.T) {
	long := strings.Repeat("n", 20)
	for _, c := range []struct {
		a    api.Act
		want api.Errno
	}{
		{create(1, 0, "a", false), api.OK}, {create(most, most, long, true), api.OK}, {create(1, 1, "a", true), api.OK}, {create(0, 0, "a", true), api.ErrArg}, {create(most+1, 0, "a", true), api.ErrArg}, {create(1, -1, "a", true), api.ErrArg}, {create(1, most+1, "a", true), api.ErrArg}, {create(1, 0, "", true), api.ErrArg}, {create(1, 0, "..", true), api.ErrArg}, {create(1, 0, long+"n", true), api.ErrArg},
		{remove(1), api.OK}, {remove(most), api.OK}, {remove(0), api.ErrArg}, {remove(-1), api.ErrArg}, {remove(most + 1), api.ErrArg},
		{move(1, 0, "a"), api.OK}, {move(most, most, long), api.OK}, {move(1, 1, "a"), api.OK}, {move(0, 0, "a"), api.ErrArg}, {move(most+1, 0, "a"), api.ErrArg}, {move(1, -1, "a"), api.ErrArg}, {move(1, most+1, "a"), api.ErrArg}, {move(1, 0, ""), api.ErrArg}, {move(1, 0, "."), api.ErrArg}, {move(1, 0, long+"n"), api.ErrArg},
		{edit(1), api.OK}, {edit(most, r(1999), i("é"), d(1)), api.OK}, {edit(0), api.ErrArg}, {edit(most + 1), api.ErrArg}, {edit(-1, r(2001)), api.ErrArg}, {edit(1, r(2001)), api.ErrBig}, {edit(1, d(2001)), api.ErrBig}, {edit(1, r(0)), api.ErrArg}, {edit(1, d(1), i("a")), api.ErrArg}, {edit(1, i("\xff")), api.ErrArg}, {edit(1, api.Comp{}), api.ErrArg}, {edit(1, make([]api.Comp, 101)...), api.ErrBig}, {edit(1, make([]api.Comp, 100)...), api.ErrArg}, {edit(1, r(1000), some(1001)), api.ErrBig},
		{api.Act{}, api.ErrArg}, {api.Act{ID: 1}, api.ErrArg}, {api.Act{Kind: -1, ID: 1}, api.ErrArg}, {api.Act{Kind: 5}, api.ErrArg}, {api.Act{Kind: 5, ID: 1}, api.ErrArg},
		{api.Act{Kind: api.Create, ID: 1, Name: "a", Ops: []api.Comp{r(1)}}, api.ErrArg}, {api.Act{Kind: api.Create, ID: 1, Name: "a", Ops: []api.Comp{}}, api.OK}, {api.Act{Kind: api.Create, ID: 1, Name: "a", Ops: make([]api.Comp, 101)}, api.ErrArg},
		{api.Act{Kind: api.Remove, ID: 1, Parent: 1}, api.ErrArg}, {api.Act{Kind: api.Remove, ID: 1, Name: "a"}, api.ErrArg}, {api.Act{Kind: api.Remove, ID: 1, Dir: true}, api.ErrArg}, {api.Act{Kind: api.Remove, ID: 1, Ops: []api.Comp{r(1)}}, api.ErrArg},
		{api.Act{Kind: api.Move, ID: 1, Name: "a", Dir: true}, api.ErrArg}, {api.Act{Kind: api.Move, ID: 1, Name: "a", Ops: []api.Comp{r(1)}}, api.ErrArg},
		{api.Act{Kind: api.Edit, ID: 1, Parent: 1}, api.ErrArg}, {api.Act{Kind: api.Edit, ID: 1, Name: "a"}, api.ErrArg}, {api.Act{Kind: api.Edit, ID: 1, Dir: true}, api.ErrArg}, {api.Act{Kind: api.Edit, ID: 1, Dir: true, Ops: []api.Comp{r(2001)}}, api.ErrArg},
	} {
		if got := txn.Check(acts(c.a)); got != c.want {
			t.Errorf("P14.1: Check of %s is %d, not %d", show(acts(c.a)), got, c.want)
		}
	}
}

// pool is acts that may be, that may be alone, and that may not.
func pool() []api.Act {
	return acts(
		create(1, 0, "a", false), create(2, 1, "b", true), create(1, 0, "", false), create(1, -1, "a", true),
		remove(1), remove(2), remove(0), api.Act{Kind: api.Remove, ID: 1, Parent: 2},
		move(1, 2, "b"), move(2, 0, "c"), move(1, 0, "A"), api.Act{Kind: api.Move, ID: 1, Name: "a", Dir: true},
		edit(1), edit(1, i("a")), edit(2), edit(2, r(1), i("b"), d(2)), edit(1, some(2000)), edit(2, some(1)), edit(2, r(2000)), edit(3, some(1000), d(2000)),
		edit(1, r(2001)), edit(1, r(0)), edit(2, some(2001)), edit(0, r(2001)), edit(2, d(1), i("a")), api.Act{Kind: api.Edit, ID: 3, Name: "a"},
		api.Act{}, api.Act{Kind: 5, ID: 1}, api.Act{Kind: -1, ID: 1},
	)
}

// TestCheckShort asks all lists of up to three of these.
func TestCheckShort(t *testing.T) {
	told := map[api.Errno]int{}
	lists(3, pool(), func(l []api.Act) {
		checked(t, l)
		told[txn.Check(l)]++
	})
	if len(told) != 3 || told[api.OK] == 0 {
		t.Errorf("P14.1: Check has told %v", told)
	}
}

// TestCheckOrder: of two errors, which is told.
func TestCheckOrder(t *testing.T) {
	many := slices.Repeat(acts(remove(1)), 21)
	for _, c := range []struct {
		what string
		l    []api.Act
		want api.Errno
	}{
		{"too many, all bad", make([]api.Act, 21), api.ErrBig},
		{"too many, a bad one ahead", slices.Insert(slices.Clone(many[:20]), 0, api.Act{}), api.ErrBig},
		{"20, the last one bad", append(slices.Clone(many[:19]), api.Act{}), api.ErrArg},
		{"a great edit, then a bad act", acts(edit(1, r(2001)), remove(0)), api.ErrBig},
		{"a bad act, then a great edit", acts(remove(0), edit(1, r(2001))), api.ErrArg},
		{"a great edit of an ID that is none", acts(edit(0, r(2001))), api.ErrArg},
		{"a second Edit, itself too great", acts(edit(1), edit(1, r(2001))), api.ErrBig},
		{"a second Edit, then one too great", acts(edit(1), edit(1), edit(2, r(2001))), api.ErrArg},
		{"one too great, then a second Edit", acts(edit(1), edit(2, r(2001)), edit(1)), api.ErrBig},
		{"too much in all, and a second Edit", acts(edit(1, some(2000)), edit(1, some(1))), api.ErrArg},
		{"too much in all, then a bad act", acts(edit(1, some(2000)), edit(2, some(1)), create(3, 0, "", false)), api.ErrArg},
		{"too much in all", acts(edit(1, some(2000)), edit(2, some(1)), create(3, 0, "a", false)), api.ErrBig},
	} {
		if got := txn.Check(c.l); got != c.want {
			t.Errorf("P14.1: %s: Check is %d, not %d", c.what, got, c.want)
		}
		checked(t, c.l)
	}
}

// TestCheckHowMany asks about 20 acts, with a bad one at each place.
func TestCheckHowMany(t *testing.T) {
	for _, n := range []int{0, 1, 2, 19, 20, 21, 22, 40, 1000} {
		var l []api.Act
		for id := range n {
			l = append(l, pick(new(dice(id)), remove(1), edit(id+1, i("a")), move(1, 0, "a"), create(2, 0, "b", true)))
		}
		want := api.OK
		if n > 20 {
			want = api.ErrBig
		}
		if got := txn.Check(l); got != want {
			t.Errorf("P14.1: Check of %d acts is %d", n, got)
		}
		for at := range min(n, 25) {
			bad := slices.Clone(l)
			for _, a := range acts(api.Act{}, remove(0), edit(1, r(2001)), edit(1, r(0)), edit(n+1)) {
				bad[at] = a
				checked(t, bad)
			}
		}
	}
}

// TestCheckSecondEdit: only Edits of one ID are held against each other, however far apart.
func TestCheckSecondEdit(t *testing.T) {
	var l []api.Act
	for id := 1; id <= 20; id++ {
		l = append(l, edit(id))
	}
	if got := txn.Check(l); got != api.OK {
		t.Errorf("P14.1: Check of 20 Edits of unlike IDs is %d", got)
	}
	for one := range l {
		for other := range l[:one] {
			twice := slices.Clone(l)
			twice[one] = edit(other+1, r(3))
			if got := txn.Check(twice); got != api.ErrArg {
				t.Errorf("P14.1: Check, where acts %d and %d are Edits of one ID, is %d", other, one, got)
			}
		}
	}
	for _, a := range acts(create(1, 0, "a", false), remove(1), move(1, 0, "a")) {
		for _, l := range [][]api.Act{{a, a}, {a, edit(1)}, {edit(1), a}, {a, edit(1), a}, {a, edit(2), a, edit(1)}} {
			if got := txn.Check(l); got != api.OK {
				t.Errorf("P14.1: Check of %s is %d", show(l), got)
			}
		}
	}
}

// spread is n code points put in by Edits of so many files, each by so many Inserts.
func spread(c string, n, files, inserts int) (l []api.Act) {
	left := files * inserts
	for id := 1; id <= files; id++ {
		var ops []api.Comp
		for range inserts {
			ops = append(ops, i(strings.Repeat(c, n/left)), r(1))
			n -= n / left
			left--
		}
		l = append(l, edit(id, ops[:len(ops)-1]...))
	}
	return l
}

// TestCheckInserts asks about 2000 code points, put in by one or by many.
func TestCheckInserts(t *testing.T) {
	for _, c := range []string{"a", "é", "€", "😀", "\n"} {
		for n, want := range map[int]api.Errno{1999: api.OK, 2000: api.OK, 2001: api.ErrBig, 2002: api.ErrBig} {
			for _, by := range [][2]int{{1, 1}, {2, 1}, {3, 1}, {7, 1}, {20, 1}, {2, 2}, {2, 33}, {5, 9}, {20, 50}} {
				l := spread(c, n, by[0], by[1])
				if got := txn.Check(l); got != want {
					t.Errorf("P14.1: Check of %d code points %q in %d Edits of %d Inserts is %d", n, c, by[0], by[1], got)
				}
			}
		}
	}
	l := acts(edit(1, some(2000), d(2000)), edit(2, d(2000)), edit(3, r(2000)), create(4, 0, strings.Repeat("n", 20), false), move(5, 0, strings.Repeat("n", 20)))
	if got := txn.Check(l); got != api.OK {
		t.Errorf("P14.1: what is kept, what is deleted, or Names count: Check is %d", got)
	}
	l = acts(edit(1, some(2000)), edit(2, d(2000)), remove(1), edit(3, some(1)))
	if got := txn.Check(l); got != api.ErrBig {
		t.Errorf("P14.1: what is deleted, or whose file is removed, does not count: Check is %d", got)
	}
}

// TestPlain asks each Kind, each field right, wrong or none.
func TestPlain(t *testing.T) {
	fields(func(a api.Act) {
		want := plain(a)
		got := txn.Plain(a)
		if !same(acts(got), acts(want)) {
			t.Fatalf("P14.1: Plain of %s is %s", show(acts(a)), show(acts(got)))
		}
		if !txn.Same(acts(got), acts(want)) || txn.Same(acts(got), acts(a)) != same(acts(want), acts(a)) {
			t.Fatalf("P14.1: Plain of %s, and Same", show(acts(a)))
		}
	})
	full := api.Act{ID: 1, Parent: 2, Name: "n", Dir: true, Ops: []api.Comp{{Kind: 9, N: -1, Text: "\xff"}, i("x")}}
	for _, c := range []struct{ kind, id, parent, ops int }{{api.Create, 1, 2, 0}, {api.Remove, 1, 0, 0}, {api.Move, 1, 2, 0}, {api.Edit, 1, 0, 2}, {0, 0, 0, 0}, {5, 0, 0, 0}, {-1, 0, 0, 0}} {
		full.Kind = c.kind
		got := txn.Plain(full)
		name := strings.Repeat("n", c.parent/2)
		if got.Kind != c.kind || got.ID != c.id || got.Parent != c.parent || got.Name != name || got.Dir != (c.kind == api.Create) || len(got.Ops) != c.ops || c.ops == 2 && !slices.Equal(got.Ops, full.Ops) {
			t.Errorf("P14.1: Plain of %v is %v", full, got)
		}
	}
}

// TestSame asks all pairs of short lists, and each field of an act.
func TestSame(t *testing.T) {
	var all [][]api.Act
	lists(2, append(pool()[:12:12], edit(1), edit(1, r(1)), edit(1, i("a")), edit(1, r(1), r(1)), edit(1, d(1)), api.Act{}, api.Act{Kind: api.Edit, ID: 1, Ops: []api.Comp{}}), func(l []api.Act) { all = append(all, l) })
	for _, a := range all {
		for _, b := range all {
			if got := txn.Same(a, b); got != same(a, b) {
				t.Fatalf("P14.1: Same of %s and %s is %t", show(a), show(b), got)
			}
		}
	}
	full := api.Act{Kind: 9, ID: 8, Parent: 7, Name: "n", Dir: true, Ops: []api.Comp{{Kind: 9, N: -1, Text: "\xff"}, i("x")}}
	for k, turn := range []func(a *api.Act){
		func(a *api.Act) {}, func(a *api.Act) { a.Kind++ }, func(a *api.Act) { a.ID++ }, func(a *api.Act) { a.Parent++ }, func(a *api.Act) { a.Name += "n" }, func(a *api.Act) { a.Dir = false },
		func(a *api.Act) { a.Ops[0].Kind++ }, func(a *api.Act) { a.Ops[0].N++ }, func(a *api.Act) { a.Ops[0].Text += "x" }, func(a *api.Act) { a.Ops[1].N++ }, func(a *api.Act) { a.Ops = a.Ops[:1] }, func(a *api.Act) { a.Ops = append(a.Ops, a.Ops[0]) }, func(a *api.Act) { a.Ops[0], a.Ops[1] = a.Ops[1], a.Ops[0] },
	} {
		other := full
		other.Ops = slices.Clone(full.Ops)
		turn(&other)
		for _, at := range []int{0, 1, 40} { // Same is of lists that Check does not take, too
			a, b := slices.Repeat(acts(full), 41), slices.Repeat(acts(full), 41)
			b[at] = other
			if txn.Same(a, b) != (k == 0) || txn.Same(b, a) != (k == 0) {
				t.Errorf("P14.1: Same, act %d turned by %d, is %t", at, k, k != 0)
			}
		}
	}
	if !txn.Same(nil, nil) || !txn.Same(nil, []api.Act{}) || !txn.Same([]api.Act{}, nil) || txn.Same(nil, acts(api.Act{})) || txn.Same(acts(remove(1), remove(2)), acts(remove(1))) {
		t.Error("P14.1: Same of none, or of more")
	}
}

// touches is Touches, by what each act names.
func touches(l []api.Act) (ids []int) {
	for _, a := range l {
		ids = append(ids, a.ID)
		if (a.Kind == 1 || a.Kind == 3) && a.Parent != 0 {
			ids = append(ids, a.Parent)
		}
	}
	var out []int
	for len(ids) > 0 {
		least := slices.Min(ids)
		out = append(out, least)
		ids = slices.DeleteFunc(ids, func(id int) bool { return id == least })
	}
	return out
}

func TestTouches(t *testing.T) {
	asked := func(l []api.Act) {
		if got := txn.Touches(l); !slices.Equal(got, touches(l)) {
			t.Fatalf("P14.2: Touches of %s is %v, not %v", show(l), got, touches(l))
		}
	}
	fields(func(a api.Act) { asked(acts(a)) })
	lists(3, append(pool(), move(9, 5, "a"), create(7, 7, "a", true), api.Act{Kind: api.Edit, ID: 4, Parent: 6}, api.Act{Kind: 7, ID: 4, Parent: 8}), asked)
	var x dice
	for range 300 { // more acts than Check takes, too
		var l []api.Act
		for range x.below(60) {
			l = append(l, api.Act{Kind: x.below(6), ID: x.below(90) - 9, Parent: x.below(90) - 9})
		}
		asked(l)
	}
	for _, c := range []struct {
		got  []int
		want string
	}{
		{txn.Touches(nil), "[]"}, {txn.Touches(acts(create(2, 0, "a", true), edit(2, i("a")))), "[2]"}, {txn.Touches(acts(move(3, 1, "a"), remove(2))), "[1 2 3]"},
		{txn.Touches(acts(api.Act{Kind: api.Remove, ID: 2, Parent: 1}, api.Act{Kind: api.Edit, ID: 5, Parent: 4})), "[2 5]"},
		{txn.Touches(acts(move(most, most-1, ""), create(-1, -2, "", false))), fmt.Sprint([]int{-2, -1, most - 1, most})}, {txn.Touches(acts(remove(0), create(1, 0, "a", false))), "[0 1]"},
	} {
		if fmt.Sprint(c.got) != c.want {
			t.Errorf("P14.2: Touches is %v, not %v", c.got, c.want)
		}
	}
}
