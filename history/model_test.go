package history_test

import (
	"fmt"
	"math"
	"reflect"
	"slices"
	"strings"
	"testing"

	"ropewalk/api"
	"ropewalk/history"
	"ropewalk/tree"
	"ropewalk/txn"
)

const most = 1 << 40 // the greatest revision to begin at, and the greatest ID

func file(id, parent int, name, text string) api.Node {
	return api.Node{ID: id, Parent: parent, Name: name, Text: text}
}

func dir(id, parent int, name string) api.Node {
	return api.Node{ID: id, Parent: parent, Name: name, Dir: true}
}

func create(id, parent int, name string) api.Act {
	return api.Act{Kind: api.Create, ID: id, Parent: parent, Name: name}
}

func mkdir(id, parent int, name string) api.Act {
	return api.Act{Kind: api.Create, ID: id, Parent: parent, Name: name, Dir: true}
}

func remove(id int) api.Act { return api.Act{Kind: api.Remove, ID: id} }

func move(id, parent int, name string) api.Act {
	return api.Act{Kind: api.Move, ID: id, Parent: parent, Name: name}
}

func edit(id int, l ...api.Comp) api.Act { return api.Act{Kind: api.Edit, ID: id, Ops: l} }

func r(n int) api.Comp       { return api.Comp{Kind: api.Retain, N: n} }
func i(text string) api.Comp { return api.Comp{Kind: api.Insert, Text: text} }
func d(n int) api.Comp       { return api.Comp{Kind: api.Delete, N: n} }

// some is an Insert of n code points.
func some(n int) api.Comp { return i(strings.Repeat("é", n)) }

// acts is a short way to write a list of them.
func acts(l ...api.Act) []api.Act { return l }

func commit(rev, client, seq int, l ...api.Act) api.Commit {
	return api.Commit{Rev: rev, Client: client, Seq: seq, Acts: l}
}

// brief is a thing in words, long ones cut short.
func brief(x any) string { return fmt.Sprintf("%.160s", fmt.Sprint(x)) }

// show is a list in words, long ones cut short.
func show[T any](l []T) string {
	s := fmt.Sprintf("%d of", len(l))
	for _, x := range l[:min(len(l), 6)] {
		s += " " + brief(x)
	}
	return s
}

// dice is a row of numbers without a rule that the program could follow.
type dice uint64

func (x *dice) below(n int) int {
	*x = *x*6364136223846793005 + 1442695040888963407
	return int(uint64(*x) >> 33 % uint64(n))
}

// pick is one of l.
func pick[T any](x *dice, l ...T) T { return l[x.below(len(l))] }

// load is a tree that there must be.
func load(t *testing.T, l ...api.Node) *tree.Tree {
	t.Helper()
	x, e := tree.Load(l)
	if e != api.OK {
		t.Fatalf("Load of %s is %d", show(l), e)
	}
	return x
}

// begun is a History that there must be.
func begun(t *testing.T, rev int, x *tree.Tree, keep int) *history.History {
	t.Helper()
	h, e := history.New(rev, x, keep)
	if h == nil || e != api.OK {
		t.Fatalf("P17.1: New(%d, %s, %d) is %v, %d", rev, show(x.Nodes()), keep, h, e)
	}
	return h
}

// added adds what must be taken.
func added(t *testing.T, h *history.History, l ...api.Commit) {
	t.Helper()
	for _, c := range l {
		if e := h.Add(c); e != api.OK {
			t.Fatalf("P17.1: Add(%s) is %d", brief(c), e)
		}
	}
}

// since is what came behind, which must be there.
func since(t *testing.T, h *history.History, rev int) []api.Commit {
	t.Helper()
	l, e := h.Since(rev)
	if e != api.OK {
		t.Fatalf("P17.2: Since(%d) is %s, %d", rev, show(l), e)
	}
	return l
}

// plainer is the same commits, without empty lists that are not nil: nil and an empty list mean the same.
func plainer(l []api.Commit) (out []api.Commit) {
	for _, c := range l {
		var acts []api.Act
		for _, a := range c.Acts {
			if len(a.Ops) == 0 {
				a.Ops = nil
			}
			acts = append(acts, a)
		}
		c.Acts = acts
		out = append(out, c)
	}
	return out
}

// same takes nil and an empty list for the same, and all else as it stands.
func same(a, b []api.Commit) bool { return reflect.DeepEqual(plainer(a), plainer(b)) }

// The words of the chapter, spelt out one by one.

// model keeps all that was ever added, from the first tree on.
type model struct {
	rev, keep int
	first     *tree.Tree
	all       []api.Commit
}

// newest is Rev.
func (m *model) newest() int { return m.rev + len(m.all) }

// kept is those that are still there.
func (m *model) kept() []api.Commit {
	l := m.all
	for len(l) > m.keep {
		l = l[1:]
	}
	return l
}

// oldest is Oldest.
func (m *model) oldest() int { return m.newest() - len(m.kept()) }

// fold is Tree: the first one with all done that was added.
func (m *model) fold(t *testing.T) *tree.Tree {
	t.Helper()
	x := m.first.Copy()
	for _, c := range m.all {
		for _, a := range c.Acts {
			if e := x.Do(a); e != api.OK {
				t.Fatalf("P17.3: %s of revision %d is %d", brief(a), c.Rev, e)
			}
		}
	}
	return x
}

// add is Add.
func (m *model) add(t *testing.T, c api.Commit) api.Errno {
	t.Helper()
	if c.Rev != m.newest()+1 || c.Client < 1 || c.Seq < 1 {
		return api.ErrArg
	}
	if _, _, e := txn.Do(m.fold(t), c.Acts); e != api.OK {
		return e
	}
	m.all = append(m.all, c)
	return api.OK
}

// since is Since.
func (m *model) since(rev int) (out []api.Commit, e api.Errno) {
	switch {
	case rev > m.newest():
		return nil, api.ErrNew
	case rev < m.oldest():
		return nil, api.ErrOld
	}
	for _, c := range m.kept() {
		if c.Rev > rev {
			out = append(out, c)
		}
	}
	return out, api.OK
}

// of is Of.
func (m *model) of(client int) (out []api.Commit) {
	for _, c := range m.kept() {
		if c.Client == client {
			out = append(out, c)
		}
	}
	return out
}

// asked holds a History against it: what is near its ends, and what no History has.
func asked(t *testing.T, what string, h *history.History, m *model) {
	t.Helper()
	if got := h.Rev(); got != m.newest() {
		t.Fatalf("P17.2: %s: Rev is %d, not %d", what, got, m.newest())
	}
	if got := h.Oldest(); got != m.oldest() {
		t.Fatalf("P17.2: %s: Oldest is %d, not %d", what, got, m.oldest())
	}
	revs := []int{math.MinInt, -most, -1, 0, 1, m.rev, most, most + 1, math.MaxInt}
	for k := -3; k <= 3; k++ {
		revs = append(revs, m.oldest()+k, m.newest()+k, (m.oldest()+m.newest())/2+k)
	}
	for _, rev := range revs {
		got, e := h.Since(rev)
		if want, f := m.since(rev); e != f || !same(got, want) {
			t.Fatalf("P17.2: %s: Since(%d) is %s, %d, not %s, %d", what, rev, show(got), e, show(want), f)
		}
	}
	for _, client := range []int{math.MinInt, -1, 0, 1, 2, 3, 4, 20, 21, 1<<32 + 1, math.MaxInt} {
		if got, want := h.Of(client), m.of(client); !same(got, want) {
			t.Fatalf("P17.2: %s: Of(%d) is %s, not %s", what, client, show(got), show(want))
		}
	}
	if got, want := h.Tree(), m.fold(t); got == nil || !slices.Equal(got.Nodes(), want.Nodes()) {
		t.Fatalf("P17.3: %s: Tree is %s, not %s", what, show(got.Nodes()), show(want.Nodes()))
	}
}

// addAsked adds to both, and asks for one outcome.
func addAsked(t *testing.T, h *history.History, m *model, c api.Commit) api.Errno {
	t.Helper()
	e := h.Add(c)
	if want := m.add(t, c); e != want {
		t.Fatalf("P17.1: at revision %d of %s: Add(%s) is %d, not %d", m.newest(), show(m.fold(t).Nodes()), brief(c), e, want)
	}
	asked(t, fmt.Sprintf("behind Add(%s), which is %d", brief(c), e), h, m)
	return e
}
