package effect_test

import (
	"fmt"
	"maps"
	"reflect"
	"slices"
	"strings"
	"testing"

	"ropewalk/api"
	"ropewalk/effect"
	"ropewalk/xform"
)

const least, most = -1 << 63, 1<<63 - 1 // of all IDs that can be handed in

func create(id, parent int, name string, dir bool) api.Act {
	return api.Act{Kind: api.Create, ID: id, Parent: parent, Name: name, Dir: dir}
}

func remove(id int) api.Act { return api.Act{Kind: api.Remove, ID: id} }

func move(id, parent int, name string) api.Act {
	return api.Act{Kind: api.Move, ID: id, Parent: parent, Name: name}
}

func edit(id int, l ...api.Comp) api.Act { return api.Act{Kind: api.Edit, ID: id, Ops: l} }

// full is an act with something in each field, whatever its Kind names.
func full(kind, id, parent int, name string, l ...api.Comp) api.Act {
	return api.Act{Kind: kind, ID: id, Parent: parent, Name: name, Dir: true, Ops: l}
}

func r(n int) api.Comp       { return api.Comp{Kind: api.Retain, N: n} }
func i(text string) api.Comp { return api.Comp{Kind: api.Insert, Text: text} }
func d(n int) api.Comp       { return api.Comp{Kind: api.Delete, N: n} }

// parts, acts and ones are short ways to write lists.
func parts(l ...api.Comp) []api.Comp         { return l }
func acts(l ...api.Act) []api.Act            { return l }
func ones(l ...effect.One) []effect.One      { return l }
func edited(id int, l []api.Comp) effect.One { return effect.One{ID: id, Edited: true, Ops: l} }

// show is a list in words, long ones cut short.
func show[T any](l []T) string {
	s := fmt.Sprintf("%d of", len(l))
	for _, x := range l[:min(len(l), 6)] {
		s += fmt.Sprintf(" %.160s", fmt.Sprint(x))
	}
	return s
}

// dice is a row of numbers without a rule that the program could follow.
type dice uint64

func (x *dice) below(n int) int {
	*x = *x*6364136223846793005 + 1442695040888963407
	return int(uint64(*x) >> 33 % uint64(n))
}

// pick is one of l.
func pick[T any](x *dice, l ...T) T { return l[x.below(len(l))] }

// edit is one of n code points, good ones above all.
func (x *dice) edit(n int) (l []api.Comp) {
	for n > 0 {
		k := 1 + x.below(n)
		l = append(l, pick(x, parts(r(k)), parts(i("é"), r(k)), parts(d(k)), parts(i("ab"), d(k)))...)
		n -= k
	}
	return l
}

// lists calls f with all lists of up to n of the pool.
func lists[T any](n int, pool []T, f func(l []T)) {
	var grow func(l []T)
	grow = func(l []T) {
		f(l)
		if len(l) < n {
			for _, x := range pool {
				grow(append(slices.Clone(l), x))
			}
		}
	}
	grow(nil)
}

// The words of the chapter, spelt out one by one.

// last is the last act of one that is of one of the Kinds.
func last(l []api.Act, id int, kinds ...int) (api.Act, bool) {
	for _, a := range slices.Backward(l) {
		if a.ID == id && slices.Contains(kinds, a.Kind) {
			return a, true
		}
	}
	return api.Act{}, false
}

// of is Of.
func of(l []api.Act) (out []effect.One) {
	ids := map[int]bool{}
	for _, a := range l {
		ids[a.ID] = true
	}
	for _, id := range slices.Sorted(maps.Keys(ids)) {
		x := effect.One{ID: id}
		_, x.Created = last(l, id, api.Create)
		_, x.Removed = last(l, id, api.Remove)
		_, x.Moved = last(l, id, api.Move)
		stands, _ := last(l, id, api.Create, api.Move)
		x.Parent, x.Name = stands.Parent, stands.Name
		does, is := last(l, id, api.Edit)
		x.Edited = is
		if is {
			x.Ops = does.Ops
		}
		out = append(out, x)
	}
	return out
}

// over is Over.
func over(l []effect.One, acts []api.Act) (out []effect.One) {
	for _, x := range l {
		for _, a := range acts {
			if a.Kind != api.Edit || a.ID != x.ID || len(x.Ops) == 0 {
				continue
			}
			if ops, e := xform.Over(x.Ops, a.Ops, true); e == api.OK {
				x.Ops = ops
			}
		}
		out = append(out, x)
	}
	return out
}

// plainer is the same, without empty lists that are not nil: nil and an empty list mean the same.
func plainer(l []effect.One) (out []effect.One) {
	for _, x := range l {
		if len(x.Ops) == 0 {
			x.Ops = nil
		}
		out = append(out, x)
	}
	return out
}

// same is Same.
func same(a, b []effect.One) bool { return reflect.DeepEqual(plainer(a), plainer(b)) }

// ofAsked holds Of, and Get of what it answers, against it.
func ofAsked(t *testing.T, l []api.Act) {
	t.Helper()
	want, got := of(l), effect.Of(l)
	if !same(got, want) {
		t.Fatalf("P15.1: Of(%s) is %s, not %s", show(l), show(got), show(want))
	}
	for _, x := range want {
		if y, ok := effect.Get(got, x.ID); !ok || !same(ones(y), ones(x)) {
			t.Fatalf("P15.1: Get of %d of Of(%s) is %v, %v, not %v", x.ID, show(l), y, ok, x)
		}
	}
}

// overAsked holds Over against it.
func overAsked(t *testing.T, l []effect.One, by []api.Act) {
	t.Helper()
	if got, want := effect.Over(l, by), over(l, by); !same(got, want) {
		t.Fatalf("P15.2: Over(%s; %s) is %s, not %s", show(l), show(by), show(got), show(want))
	}
}

// long is a text of n code points.
func long(n int) string { return strings.Repeat("é", n) }
