package rebase_test

import (
	"fmt"
	"reflect"
	"slices"
	"strings"
	"testing"

	"ropewalk/api"
	"ropewalk/effect"
	"ropewalk/rebase"
	"ropewalk/txn"
	"ropewalk/xform"
)

const most = 1 << 40 // the greatest ID

func create(id, parent int, name string) api.Act {
	return api.Act{Kind: api.Create, ID: id, Parent: parent, Name: name}
}

func mkdir(id, parent int, name string) api.Act {
	return api.Act{Kind: api.Create, ID: id, Parent: parent, Name: name, Dir: true}
}

func remove(id int) api.Act { return api.Act{Kind: api.Remove, ID: id} }

func move(id, parent int, name string) api.Act {
	return api.Act{Kind: api.Move, ID: id, Parent: parent, Name: name}
}

func edit(id int, l ...api.Comp) api.Act { return api.Act{Kind: api.Edit, ID: id, Ops: l} }

func r(n int) api.Comp       { return api.Comp{Kind: api.Retain, N: n} }
func i(text string) api.Comp { return api.Comp{Kind: api.Insert, Text: text} }
func d(n int) api.Comp       { return api.Comp{Kind: api.Delete, N: n} }

// some is an Insert of n code points.
func some(n int) api.Comp { return i(strings.Repeat("é", n)) }

// parts, acts, ones and commits are short ways to write lists.
func parts(l ...api.Comp) []api.Comp    { return l }
func acts(l ...api.Act) []api.Act       { return l }
func ones(l ...effect.One) []effect.One { return l }

func commits(l ...[]api.Act) (out []api.Commit) {
	for at, a := range l {
		out = append(out, api.Commit{Rev: at + 1, Client: 3, Seq: 7, Acts: a})
	}
	return out
}

// edited is one of which nothing but an Edit is known.
func edited(id int, l ...api.Comp) effect.One { return effect.One{ID: id, Edited: true, Ops: l} }

// show is a list in words, long ones cut short.
func show[T any](l []T) string {
	s := fmt.Sprintf("%d of", len(l))
	for _, x := range l[:min(len(l), 6)] {
		s += fmt.Sprintf(" %.160s", fmt.Sprint(x))
	}
	return s
}

// dice is a row of numbers without a rule that the program could follow.
type dice uint64

func (x *dice) below(n int) int {
	*x = *x*6364136223846793005 + 1442695040888963407
	return int(uint64(*x) >> 33 % uint64(n))
}

// pick is one of l.
func pick[T any](x *dice, l ...T) T { return l[x.below(len(l))] }

// edit is an edit of n code points.
func (x *dice) edit(n int) (l []api.Comp) {
	for n > 0 {
		k := 1 + x.below(n)
		l = append(l, pick(x, parts(r(k)), parts(i("é"), r(k)), parts(d(k)), parts(i("ab"), d(k)))...)
		n -= k
	}
	return l
}

// lists calls f with all lists of up to n of the pool.
func lists[T any](n int, pool []T, f func(l []T)) {
	var grow func(l []T)
	grow = func(l []T) {
		f(l)
		if len(l) < n {
			for _, x := range pool {
				grow(append(slices.Clone(l), x))
			}
		}
	}
	grow(nil)
}

// The words of the chapter, spelt out one by one.

// first is the first one of an ID; one that did nothing, if there is none.
func first(by []effect.One, id int) effect.One {
	at := slices.IndexFunc(by, func(x effect.One) bool { return x.ID == id })
	if at < 0 {
		return effect.One{}
	}
	return by[at]
}

// why is Why.
func why(a api.Act, by []effect.One) api.Errno {
	x, y := first(by, a.ID), first(by, a.Parent)
	switch a.Kind {
	case api.Edit:
		if x.Removed {
			return api.ErrGone
		}
	case api.Remove:
		if (x.Edited || x.Moved) && !x.Removed {
			return api.ErrClash
		}
	case api.Move:
		if x.Removed {
			return api.ErrGone
		}
		if x.Moved && (x.Parent != a.Parent || x.Name != a.Name) {
			return api.ErrClash
		}
		if y.Removed {
			return api.ErrGone
		}
	case api.Create:
		if x.Created {
			return api.ErrClash
		}
		if y.Removed {
			return api.ErrGone
		}
	}
	return api.OK
}

// over is Over.
func over(l []api.Act, by []effect.One) ([]api.Act, []effect.One, api.Errno) {
	if e := txn.Check(l); e != api.OK {
		return nil, by, e
	}
	var out []api.Act
	for _, a := range l {
		if e := why(a, by); e != api.OK {
			return nil, by, e
		}
		x := first(by, a.ID)
		switch a.Kind {
		case api.Remove:
			if x.Removed {
				continue
			}
		case api.Move:
			if x.Moved && x.Parent == a.Parent && x.Name == a.Name {
				continue
			}
		case api.Edit:
			if x.Edited && len(x.Ops) > 0 {
				ops, e := xform.Over(a.Ops, x.Ops, false)
				if e != api.OK {
					return nil, by, e
				}
				a.Ops = ops
			}
		}
		out = append(out, a)
	}
	if e := txn.Check(out); e != api.OK {
		return nil, by, e
	}
	return out, effect.Over(by, l), api.OK
}

// behind is Behind.
func behind(l []api.Act, commits []api.Commit) ([]api.Act, api.Errno) {
	for _, c := range commits {
		out, _, e := over(l, effect.Of(c.Acts))
		if e != api.OK {
			return nil, e
		}
		l = out
	}
	return l, api.OK
}

// sameActs and sameOnes take nil and an empty list for the same, and all else as it stands.
func sameActs(a, b []api.Act) bool {
	return slices.EqualFunc(a, b, func(a, b api.Act) bool {
		alike := slices.Equal(a.Ops, b.Ops)
		a.Ops, b.Ops = nil, nil
		return alike && reflect.DeepEqual(a, b)
	})
}

func sameOnes(a, b []effect.One) bool {
	return slices.EqualFunc(a, b, func(a, b effect.One) bool {
		alike := slices.Equal(a.Ops, b.Ops)
		a.Ops, b.Ops = nil, nil
		return alike && reflect.DeepEqual(a, b)
	})
}

// overAsked holds Over against it.
func overAsked(t *testing.T, l []api.Act, by []effect.One) api.Errno {
	t.Helper()
	out, left, e := rebase.Over(l, by)
	out2, left2, e2 := over(l, by)
	if e != e2 || !sameActs(out, out2) || !sameOnes(left, left2) {
		t.Fatalf("P16.2: Over(%s; %s) is %s; %s; %d, not %s; %s; %d", show(l), show(by), show(out), show(left), e, show(out2), show(left2), e2)
	}
	return e
}

// behindAsked holds Behind against it.
func behindAsked(t *testing.T, l []api.Act, c []api.Commit) api.Errno {
	t.Helper()
	out, e := rebase.Behind(l, c)
	out2, e2 := behind(l, c)
	if e != e2 || !sameActs(out, out2) {
		t.Fatalf("P16.3: Behind(%s; %s) is %s; %d, not %s; %d", show(l), show(c), show(out), e, show(out2), e2)
	}
	return e
}
