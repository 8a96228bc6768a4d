package rebase_test

import (
	"testing"

	"ropewalk/api"
	"ropewalk/effect"
	"ropewalk/rebase"
)

// TestWhyTold tells outright what is said to an act of 1 in 2 under "a".
func TestWhyTold(t *testing.T) {
	const gone, clash, ok = api.ErrGone, api.ErrClash, api.OK
	for _, c := range []struct {
		by                         []api.Act
		create, remove, move, edit api.Errno
	}{
		{nil, ok, ok, ok, ok},
		{acts(), ok, ok, ok, ok},
		{acts(edit(1)), ok, clash, ok, ok},
		{acts(edit(1, r(1))), ok, clash, ok, ok},
		{acts(remove(1)), ok, ok, gone, gone},
		{acts(create(1, 2, "a")), clash, ok, ok, ok},
		{acts(create(1, 3, "b")), clash, ok, ok, ok},
		{acts(mkdir(1, 3, "b")), clash, ok, ok, ok},
		{acts(move(1, 2, "a")), ok, clash, ok, ok},
		{acts(move(1, 2, "b")), ok, clash, clash, ok},
		{acts(move(1, 3, "a")), ok, clash, clash, ok},
		{acts(move(1, 0, "a")), ok, clash, clash, ok},
		{acts(move(1, 3, "b"), move(1, 2, "a")), ok, clash, ok, ok},
		{acts(move(1, 2, "a"), move(1, 3, "b")), ok, clash, clash, ok},
		{acts(edit(1), move(1, 2, "a")), ok, clash, ok, ok},
		{acts(edit(1), remove(1)), ok, ok, gone, gone},
		{acts(move(1, 2, "a"), remove(1)), ok, ok, gone, gone},
		{acts(move(1, 3, "b"), edit(1), remove(1)), ok, ok, gone, gone},
		{acts(create(1, 3, "b"), move(1, 2, "a")), clash, clash, ok, ok},
		{acts(create(1, 3, "b"), edit(1)), clash, clash, ok, ok},
		{acts(create(1, 3, "b"), remove(1)), clash, ok, gone, gone},
		{acts(remove(2)), gone, ok, gone, ok},
		{acts(move(2, 3, "b"), remove(2)), gone, ok, gone, ok},
		{acts(edit(2), create(2, 0, "b"), move(2, 3, "b")), ok, ok, ok, ok},
		{acts(remove(2), edit(1)), gone, clash, gone, ok},
		{acts(remove(2), remove(1)), gone, ok, gone, gone},
		{acts(remove(2), create(1, 2, "a")), clash, ok, gone, ok},
		{acts(remove(2), move(1, 2, "a")), gone, clash, gone, ok},
		{acts(remove(2), move(1, 2, "b")), gone, clash, clash, ok},
		{acts(remove(2), move(1, 3, "a"), remove(1)), gone, ok, gone, gone},
		{acts(remove(3), remove(0), edit(4, r(1)), move(5, 2, "a"), create(6, 1, "a")), ok, ok, ok, ok},
		{acts(remove(-1), remove(1<<32+1), remove(1<<32+2), remove(-1<<63+1)), ok, ok, ok, ok},
	} {
		by := effect.Of(c.by)
		for _, x := range []struct {
			a    api.Act
			want api.Errno
		}{
			{create(1, 2, "a"), c.create}, {mkdir(1, 2, "a"), c.create}, {remove(1), c.remove}, {move(1, 2, "a"), c.move}, {edit(1), c.edit}, {edit(1, r(1), i("é")), c.edit},
			{api.Act{Kind: 0, ID: 1, Parent: 2, Name: "a"}, ok}, {api.Act{Kind: 5, ID: 1, Parent: 2, Name: "a"}, ok}, {api.Act{Kind: -1, ID: 1, Parent: 2, Name: "a"}, ok}, {api.Act{Kind: 1<<32 + api.Edit, ID: 1, Parent: 2, Name: "a"}, ok},
			{api.Act{Kind: api.Edit, ID: 1, Parent: 2, Name: "b", Dir: true}, c.edit}, {api.Act{Kind: api.Remove, ID: 1, Parent: 2, Name: "b", Dir: true}, c.remove}, // which name no Parent
		} {
			if got := rebase.Why(x.a, by); got != x.want {
				t.Errorf("P16.1: Why(%v, %s) is %d, not %d", x.a, show(c.by), got, x.want)
			}
		}
	}
}

// flagged is one of which is known what the bits of n say.
func flagged(id, n int) effect.One {
	return effect.One{ID: id, Edited: n&1 != 0, Removed: n&2 != 0, Created: n&4 != 0, Moved: n&8 != 0}
}

// TestWhyAll asks all Kinds, of all that can be known of one and of its Parent.
func TestWhyAll(t *testing.T) {
	told := map[api.Errno]int{}
	ask := func(a api.Act, by []effect.One) {
		got, want := rebase.Why(a, by), why(a, by)
		if got != want {
			t.Fatalf("P16.1: Why(%v, %s) is %d, not %d", a, show(by), got, want)
		}
		told[got]++
	}
	for kind := -1; kind <= 6; kind++ {
		for n := range 256 {
			for _, parent := range []int{2, 3, 0, 1, -1} {
				for _, name := range []string{"a", "b", "", "aa"} {
					x, y := flagged(1, n/16), flagged(2, n%16)
					x.Parent, x.Name = parent, name
					for _, a := range []api.Act{{Kind: kind, ID: 1, Parent: 2, Name: "a"}, {Kind: kind, ID: 2, Parent: 1}, {Kind: kind, ID: 1, Parent: 1, Name: "a"}, {Kind: kind, ID: 2, Name: "a"}, {Kind: kind, ID: 3, Parent: 2}, {Kind: kind, Parent: 2}} {
						for _, by := range [][]effect.One{{x, y}, {y, x}, {x}, {y}} {
							ask(a, by)
						}
					}
				}
			}
		}
	}
	if len(told) != 3 || told[api.OK] == 0 || told[api.ErrGone] == 0 || told[api.ErrClash] == 0 {
		t.Errorf("P16.1: Why has told %v", told)
	}
}

// TestWhyAnyList: by rising ID or not, one ID twice (the first one counts), IDs that none has.
func TestWhyAnyList(t *testing.T) {
	pool := ones(flagged(1, 0), flagged(1, 1), flagged(1, 2), flagged(1, 4), effect.One{ID: 1, Moved: true, Parent: 2, Name: "a"}, effect.One{ID: 1, Moved: true, Parent: 2, Name: "b"}, flagged(2, 0), flagged(2, 2), flagged(0, 2), flagged(-1, 2), flagged(most+1, 15))
	lists(3, pool, func(by []effect.One) {
		for kind := api.Create; kind <= api.Edit; kind++ {
			for _, a := range []api.Act{{Kind: kind, ID: 1, Parent: 2, Name: "a"}, {Kind: kind, ID: 1, Name: "a"}, {Kind: kind, ID: -1, Parent: -1}, {Kind: kind}, {Kind: kind, ID: most + 1, Parent: 1}} {
				if got, want := rebase.Why(a, by), why(a, by); got != want {
					t.Fatalf("P16.1: Why(%v, %s) is %d, not %d", a, show(by), got, want)
				}
			}
		}
	})
}

// TestWhyTwice tells outright that the first one of an ID counts, and that the root is asked as others are.
func TestWhyTwice(t *testing.T) {
	for _, c := range []struct {
		a    api.Act
		by   []effect.One
		want api.Errno
	}{
		{edit(1), ones(flagged(1, 0), flagged(1, 2)), api.OK},
		{edit(1), ones(flagged(1, 2), flagged(1, 0)), api.ErrGone},
		{create(1, 2, "a"), ones(flagged(2, 0), flagged(2, 2)), api.OK},
		{create(1, 2, "a"), ones(flagged(2, 2), flagged(2, 0)), api.ErrGone},
		{remove(1), ones(flagged(2, 1), flagged(1, 8), flagged(1, 2)), api.ErrClash},
		{create(1, 0, "a"), ones(flagged(0, 2)), api.ErrGone},
		{move(1, 0, "a"), ones(flagged(0, 2)), api.ErrGone},
		{remove(1), ones(flagged(0, 2)), api.OK},
		{edit(0), ones(flagged(0, 2)), api.ErrGone},
		{edit(1), ones(flagged(0, 2), effect.One{ID: 2, Removed: true, Parent: 1}), api.OK},
		{move(1, 1, "a"), ones(effect.One{ID: 1, Moved: true, Parent: 1, Name: "a"}), api.OK},
		{create(1, 1, "a"), ones(flagged(1, 2)), api.ErrGone},
		{create(1, 1, "a"), ones(flagged(1, 6)), api.ErrClash},
	} {
		if got := rebase.Why(c.a, c.by); got != c.want {
			t.Errorf("P16.1: Why(%v, %s) is %d, not %d", c.a, show(c.by), got, c.want)
		}
	}
}
