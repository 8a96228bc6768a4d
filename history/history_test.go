package history_test

import (
	"fmt"
	"math"
	"runtime"
	"slices"
	"strings"
	"testing"

	"ropewalk/api"
	"ropewalk/history"
	"ropewalk/tree"
)

// TestNew asks each edge of each argument, with all others.
func TestNew(t *testing.T) {
	for _, x := range []*tree.Tree{nil, tree.New(), new(tree.Tree), load(t, dir(1, 0, "d"), file(2, 1, "f", "é"))} {
		for _, rev := range []int{math.MinInt, -most, -1, 0, 1, 5, 1 << 32, most - 1, most, most + 1, 1<<40 + 1<<32, math.MaxInt} {
			for _, keep := range []int{math.MinInt, -1000, -1, 0, 1, 2, 999, 1000, 1001, 1<<32 + 1, math.MaxInt} {
				good := x != nil && rev >= 0 && rev <= most && keep >= 1 && keep <= 1000
				h, e := history.New(rev, x, keep)
				switch {
				case good && (h == nil || e != api.OK):
					t.Errorf("P17.1: New(%d, %s, %d) is %v, %d", rev, show(x.Nodes()), keep, h, e)
				case good:
					asked(t, fmt.Sprintf("New(%d, %s, %d)", rev, show(x.Nodes()), keep), h, &model{rev: rev, keep: keep, first: x})
				case h != nil || e != api.ErrArg:
					t.Errorf("P17.1: New(%d, %s, %d) is %v, %d", rev, show(x.Nodes()), keep, h, e)
				}
			}
		}
	}
}

// TestExample is the chapter's: keep 1, two commits.
func TestExample(t *testing.T) {
	h := begun(t, 0, tree.New(), 1)
	added(t, h, commit(1, 1, 1, create(1, 0, "a")), commit(2, 2, 1, create(2, 0, "b")))
	if h.Rev() != 2 || h.Oldest() != 1 || !same(since(t, h, 1), []api.Commit{commit(2, 2, 1, create(2, 0, "b"))}) {
		t.Errorf("P17.2: from %d to %d there are %s", h.Oldest(), h.Rev(), show(since(t, h, h.Oldest())))
	}
	if l, e := h.Since(0); len(l) != 0 || e != api.ErrOld {
		t.Errorf("P17.2: Since(0) is %s, %d", show(l), e)
	}
}

// TestAddTold tells outright what comes of a commit behind revision 5: of one that is refused, nothing.
func TestAddTold(t *testing.T) {
	first := load(t, dir(1, 0, "d"), file(2, 1, "f", "abc"), dir(3, 0, "e"))
	again := edit(2, r(3))
	for _, c := range []struct {
		what string
		c    api.Commit
		e    api.Errno
	}{
		{"of no acts", commit(6, 1, 1), api.OK},
		{"the first one", commit(6, 1, 1, create(4, 0, "a")), api.OK},
		{"of all Kinds", commit(6, 1, 1, mkdir(4, 3, "a"), move(2, 4, "g"), remove(1), edit(2, i("é"), d(1), r(2))), api.OK},
		{"of a client that is no client of a server", commit(6, 21, 1), api.OK},
		{"of great numbers", commit(6, math.MaxInt, math.MaxInt, remove(2)), api.OK},
		{"of a Seq that is not the first one", commit(6, 1, 9), api.OK},
		{"of 20 acts", commit(6, 1, 1, slices.Repeat(acts(move(2, 1, "f")), 20)...), api.OK},

		{"of the Rev that is there", commit(5, 1, 1), api.ErrArg},
		{"of the Rev behind the next one", commit(7, 1, 1), api.ErrArg},
		{"of Rev 0", commit(0, 1, 1), api.ErrArg},
		{"of Rev 1", commit(1, 1, 1), api.ErrArg},
		{"of Rev -6", commit(-6, 1, 1), api.ErrArg},
		{"of the least Rev", commit(math.MinInt, 1, 1), api.ErrArg},
		{"of the greatest Rev", commit(math.MaxInt, 1, 1), api.ErrArg},
		{"of a Rev alike in its last bits", commit(1<<32+6, 1, 1), api.ErrArg},
		{"of Client 0", commit(6, 0, 1), api.ErrArg},
		{"of Client -1", commit(6, -1, 1), api.ErrArg},
		{"of the least Client", commit(6, math.MinInt, 1), api.ErrArg},
		{"of Seq 0", commit(6, 1, 0), api.ErrArg},
		{"of Seq -1", commit(6, 1, -1), api.ErrArg},
		{"of the least Seq", commit(6, 1, math.MinInt), api.ErrArg},
		{"of nothing", api.Commit{}, api.ErrArg},

		{"of another Rev, ahead of its acts", commit(7, 1, 1, remove(9)), api.ErrArg},
		{"of Client 0, ahead of its acts", commit(6, 0, 1, remove(9)), api.ErrArg},
		{"of Seq 0, ahead of its acts", commit(6, 1, 0, make([]api.Act, 21)...), api.ErrArg},
		{"of 21 acts", commit(6, 1, 1, slices.Repeat(acts(move(2, 1, "f")), 21)...), api.ErrBig},
		{"of too many code points", commit(6, 1, 1, create(4, 0, "a"), edit(4, some(2000)), edit(2, i("x"), r(3))), api.ErrBig},
		{"of an act of no Kind", commit(6, 1, 1, api.Act{ID: 9}), api.ErrArg},
		{"of an act that is not Plain", commit(6, 1, 1, api.Act{Kind: api.Remove, ID: 2, Name: "f"}), api.ErrArg},
		{"of an ID that none has", commit(6, 1, 1, create(0, 0, "a")), api.ErrArg},
		{"of a Name that is none", commit(6, 1, 1, create(4, 0, "A")), api.ErrArg},
		{"of two Edits of one", commit(6, 1, 1, again, again), api.ErrArg},
		{"of parts that may not be", commit(6, 1, 1, edit(2, r(0), r(3))), api.ErrArg},
		{"of a text that is not Valid", commit(6, 1, 1, edit(2, i("\xff"), r(3))), api.ErrArg},
		{"whose Check fails behind an act that Do refuses", commit(6, 1, 1, remove(9), create(0, 0, "a")), api.ErrArg},
		{"of an ID that is there", commit(6, 1, 1, create(2, 0, "a")), api.ErrThere},
		{"of a Name that is there", commit(6, 1, 1, create(4, 0, "d")), api.ErrThere},
		{"of one that is not there", commit(6, 1, 1, remove(4)), api.ErrNone},
		{"of a Parent that is a file", commit(6, 1, 1, create(4, 2, "a")), api.ErrKind},
		{"of one in which something stands", commit(6, 1, 1, remove(1)), api.ErrHeld},
		{"of one within itself", commit(6, 1, 1, move(1, 1, "a")), api.ErrCycle},
		{"of another text", commit(6, 1, 1, edit(2, r(2))), api.ErrText},
		{"whose last act is refused", commit(6, 1, 1, create(4, 0, "a"), edit(2, d(3)), remove(1)), api.ErrHeld},
	} {
		for _, keep := range []int{1, 2, 1000} {
			for _, ahead := range [][]api.Commit{nil, {commit(5, 3, 8)}, {commit(4, 2, 1, again), commit(5, 3, 8)}} { // as the first one, and behind others
				rev := 5 - len(ahead)
				h, m := begun(t, rev, first, keep), &model{rev: rev, keep: keep, first: first}
				for _, a := range ahead {
					addAsked(t, h, m, a)
				}
				if e := addAsked(t, h, m, c.c); e != c.e {
					t.Errorf("P17.1: keep %d, behind %d: a commit %s is %d, not %d", keep, len(ahead), c.what, e, c.e)
				}
			}
		}
	}
}

// TestAddFull: chapter 13's limits hold from commit to commit.
func TestAddFull(t *testing.T) {
	var l []api.Node
	for id := 1; id <= 100; id++ {
		n := file(id, 0, fmt.Sprint("n", id), "")
		if id <= 5 {
			n.Text = strings.Repeat("é", 2000)
		}
		l = append(l, n)
	}
	first := load(t, l...)
	h, m := begun(t, 0, first, 3), &model{keep: 3, first: first}
	for _, c := range []struct {
		a api.Act
		e api.Errno
	}{
		{create(101, 0, "x"), api.ErrFull}, {edit(7, i("a")), api.ErrFull}, {edit(1, i("a"), r(2000)), api.ErrBig}, {edit(1, r(1999), d(1)), api.OK}, {edit(7, some(2)), api.ErrFull},
		{edit(7, i("a")), api.OK}, {edit(7, r(1), i("a")), api.ErrFull}, {remove(9), api.OK}, {create(101, 0, "x"), api.OK}, {create(102, 0, "y"), api.ErrFull}, {remove(1), api.OK}, {edit(101, some(1999)), api.OK}, {edit(7, r(1), i("a")), api.ErrFull},
	} {
		if e := addAsked(t, h, m, commit(m.newest()+1, 1, 1, c.a)); e != c.e {
			t.Errorf("P17.1: at revision %d, %s is %d, not %d", m.newest(), brief(c.a), e, c.e)
		}
	}
}

// TestKeep: as many as are to be kept are there, and no more: those added last.
func TestKeep(t *testing.T) {
	for _, keep := range []int{1, 2, 3, 4, 7, 8, 9, 16, 17, 999, 1000} {
		for _, rev := range []int{0, 1, 700, most} {
			h, m := begun(t, rev, tree.New(), keep), &model{rev: rev, keep: keep, first: tree.New()}
			for k := range 2*keep + 3 {
				c := commit(rev+k+1, 1+k%3, 1+k/3)
				m.all = append(m.all, c)
				added(t, h, c)
				if keep < 100 || k < 3 || k%keep > keep-4 || k%keep < 3 {
					asked(t, fmt.Sprintf("keep %d, behind %d commits", keep, k+1), h, m)
				}
			}
			if h.Rev() != rev+2*keep+3 || h.Oldest() != rev+keep+3 || len(since(t, h, h.Oldest())) != keep {
				t.Errorf("P17.2: keep %d: from %d to %d there are %d", keep, h.Oldest(), h.Rev(), len(since(t, h, h.Oldest())))
			}
		}
	}
}

// TestSinceTold tells outright what came behind each revision, where three of five are left, and whose they are.
func TestSinceTold(t *testing.T) {
	h := begun(t, 5, tree.New(), 3)
	all := []api.Commit{commit(6, 1, 1), commit(7, 2, 1, create(1, 0, "a")), commit(8, 1, 2, edit(1, i("é"))), commit(9, 3, 7), commit(10, 1, 3, move(1, 0, "b"), edit(1, r(1), i("x")))}
	added(t, h, all...)
	for _, c := range []struct {
		rev  int
		want []api.Commit
		e    api.Errno
	}{
		{math.MinInt, nil, api.ErrOld}, {-1, nil, api.ErrOld}, {0, nil, api.ErrOld}, {4, nil, api.ErrOld}, {5, nil, api.ErrOld}, {6, nil, api.ErrOld},
		{7, all[2:], api.OK}, {8, all[3:], api.OK}, {9, all[4:], api.OK}, {10, nil, api.OK},
		{11, nil, api.ErrNew}, {12, nil, api.ErrNew}, {1<<32 + 7, nil, api.ErrNew}, {math.MaxInt, nil, api.ErrNew},
	} {
		if l, e := h.Since(c.rev); e != c.e || !same(l, c.want) {
			t.Errorf("P17.2: Since(%d) is %s, %d, not %s, %d", c.rev, show(l), e, show(c.want), c.e)
		}
	}
	for client, want := range map[int][]api.Commit{1: {all[2], all[4]}, 2: nil, 3: {all[3]}, 4: nil, 0: nil, -1: nil, 1<<32 + 1: nil} {
		if l := h.Of(client); !same(l, want) {
			t.Errorf("P17.2: Of(%d) is %s, not %s", client, show(l), show(want))
		}
	}
	if l := h.Tree().Nodes(); !slices.Equal(l, []api.Node{file(1, 0, "b", "éx")}) {
		t.Errorf("P17.3: Tree is %s", show(l))
	}
}

// TestNil: a nil History has nothing, and takes nothing; nor does one that New did not make.
func TestNil(t *testing.T) {
	for what, h := range map[string]*history.History{"nil": nil, "zero": new(history.History)} {
		for range 2 { // what was refused has changed nothing
			if h.Rev() != 0 || h.Oldest() != 0 || h.Tree() != nil {
				t.Errorf("P17.2: %s: Rev is %d, Oldest %d, Tree %v", what, h.Rev(), h.Oldest(), h.Tree())
			}
			for _, n := range []int{math.MinInt, -1, 0, 1, 2, most, math.MaxInt} {
				if l, e := h.Since(n); len(l) != 0 || e != api.ErrArg {
					t.Errorf("P17.2: %s: Since(%d) is %s, %d", what, n, show(l), e)
				}
				if l := h.Of(n); len(l) != 0 {
					t.Errorf("P17.2: %s: Of(%d) is %s", what, n, show(l))
				}
				for _, c := range []api.Commit{{}, commit(n, 1, 1), commit(n, 1, 1, create(1, 0, "a")), commit(n, 1, 1, remove(1)), commit(n, 1, 1, make([]api.Act, 21)...)} {
					if e := h.Add(c); e != api.ErrArg {
						t.Errorf("P17.2: %s: Add(%s) is %d", what, brief(c), e)
					}
				}
			}
		}
	}
}

// next is acts by the dice, mostly such as may be done with a tree.
func (x *dice) next(t *tree.Tree) (l []api.Act) {
	seen := t.Copy()
	for range x.below(4) {
		id, parent, name := 1+x.below(9), pick(x, 0, 0, 1+x.below(9)), pick(x, "a", "b", "c", "d", "e")
		if nodes := seen.Nodes(); len(nodes) > 0 && x.below(3) > 0 {
			id = pick(x, nodes...).ID
		}
		n, _ := seen.Get(id)
		kept := len([]rune(n.Text))
		write := edit(id, i(pick(x, "é", "a", "😀")))
		if kept > 0 {
			write = edit(id, pick(x, []api.Comp{r(kept), i("x")}, []api.Comp{d(kept)}, []api.Comp{i("éé"), r(kept)})...)
		}
		a := pick(x, create(id, parent, name), mkdir(1+x.below(9), parent, name), move(id, parent, name), remove(id), write, write, pick(x, write, edit(id, r(kept+1))))
		seen.Do(a)
		l = append(l, a)
	}
	return l
}

// TestLongRuns adds many, good ones and bad ones.
func TestLongRuns(t *testing.T) {
	told := map[api.Errno]int{}
	for seed := range 12 {
		throw := dice(seed)
		rev, keep := pick(&throw, 0, 1, 500, most), 1+throw.below(9)
		first := load(t, dir(1, 0, "a"), file(2, 1, "b", "é"))
		h, m := begun(t, rev, first, keep), &model{rev: rev, keep: keep, first: first}
		for range 150 {
			c := commit(m.newest()+1, 1+throw.below(4), 1+throw.below(50), throw.next(h.Tree())...)
			switch throw.below(12) {
			case 0:
				c.Rev += throw.below(5) - 2
			case 1:
				c.Client = throw.below(3) - 1
			case 2:
				c.Seq = throw.below(3) - 1
			}
			told[addAsked(t, h, m, c)]++
		}
	}
	for _, e := range []api.Errno{api.OK, api.ErrArg, api.ErrThere, api.ErrNone, api.ErrKind, api.ErrHeld, api.ErrCycle, api.ErrText} {
		if told[e] == 0 {
			t.Errorf("P17.1: no run has told %d: %v", e, told)
		}
	}
}

// TestGoneIsForgotten: what went is not kept, nor what was refused.
func TestGoneIsForgotten(t *testing.T) {
	h := begun(t, 0, load(t, file(1, 0, "a", strings.Repeat("é", 2000))), 2)
	was := heap()
	for k := 1; k <= 5000; k++ {
		added(t, h, commit(k, 1, k, edit(1, some(2000), d(2000))))
		h.Add(commit(k+1, 1, k, edit(1, some(2000))))
	}
	if now := heap(); now > was+2_000_000 {
		t.Errorf("P17.1: %d bytes are kept behind commits of 20 million", now-was)
	}
	if h.Rev() != 5000 || len(since(t, h, h.Oldest())) != 2 {
		t.Errorf("P17.2: at revision %d there are %s", h.Rev(), show(since(t, h, h.Oldest())))
	}
}

// heap is how many bytes are reached.
func heap() uint64 {
	var m runtime.MemStats
	runtime.GC()
	runtime.ReadMemStats(&m)
	return m.HeapAlloc
}
