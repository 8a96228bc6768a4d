package txn_test

import (
	"fmt"
	"reflect"
	"regexp"
	"slices"
	"strings"
	"testing"
	"unicode/utf8"

	"ropewalk/api"
	"ropewalk/op"
	"ropewalk/tree"
	"ropewalk/txn"
)

const most = 1 << 40 // the greatest ID

func create(id, parent int, name string, dir bool) api.Act {
	return api.Act{Kind: api.Create, ID: id, Parent: parent, Name: name, Dir: dir}
}

func remove(id int) api.Act { return api.Act{Kind: api.Remove, ID: id} }

func move(id, parent int, name string) api.Act {
	return api.Act{Kind: api.Move, ID: id, Parent: parent, Name: name}
}

func edit(id int, l ...api.Comp) api.Act { return api.Act{Kind: api.Edit, ID: id, Ops: l} }

func r(n int) api.Comp       { return api.Comp{Kind: api.Retain, N: n} }
func i(text string) api.Comp { return api.Comp{Kind: api.Insert, Text: text} }
func d(n int) api.Comp       { return api.Comp{Kind: api.Delete, N: n} }

// some is an Insert of n code points.
func some(n int) api.Comp { return i(strings.Repeat("é", n)) }

// acts is a short way to write a list of them.
func acts(l ...api.Act) []api.Act { return l }

func file(id, parent int, name, text string) api.Node {
	return api.Node{ID: id, Parent: parent, Name: name, Text: text}
}

func dir(id, parent int, name string) api.Node {
	return api.Node{ID: id, Parent: parent, Name: name, Dir: true}
}

// show is acts in words, long ones and long lists cut short.
func show(l []api.Act) string {
	s := fmt.Sprintf("%d acts", len(l))
	for _, a := range l[:min(len(l), 6)] {
		s += fmt.Sprintf(" %.120s", fmt.Sprint(a))
	}
	return s
}

// dice is a row of numbers without a rule that the program could follow.
type dice uint64

func (x *dice) below(n int) int {
	*x = *x*6364136223846793005 + 1442695040888963407
	return int(uint64(*x) >> 33 % uint64(n))
}

// pick is one of l.
func pick[T any](x *dice, l ...T) T { return l[x.below(len(l))] }

// lists calls f with all lists of up to n of the pool.
func lists(n int, pool []api.Act, f func(l []api.Act)) {
	var grow func(l []api.Act)
	grow = func(l []api.Act) {
		f(l)
		if len(l) < n {
			for _, a := range pool {
				grow(append(slices.Clone(l), a))
			}
		}
	}
	grow(nil)
}

// fields calls f with an act of each of these in each field: right ones, wrong ones, and none.
func fields(f func(a api.Act)) {
	ids := []int{-1 << 63, -most, -1, 0, 1, 2, 255, 1 << 32, most - 1, most, most + 1, 1<<63 - 1}
	names := []string{"", "a", "z", "0-9._", ".", "..", "...", "A", "a/b", "a b", "é", "\xff", "a\x00", strings.Repeat("n", 20), strings.Repeat("n", 21)}
	ops := [][]api.Comp{nil, {}, {{}}, {r(1)}, {i("x"), d(1)}, {d(1), i("x")}, {r(2001)}, make([]api.Comp, 101)}
	for _, kind := range []int{-1 << 63, -1, 0, 1, 2, 3, 4, 5, 6, 257, 1<<32 + 1, 1<<63 - 1} {
		for _, id := range ids {
			for _, parent := range ids {
				for _, name := range names {
					for _, l := range ops {
						f(api.Act{Kind: kind, ID: id, Parent: parent, Name: name, Ops: l})
						f(api.Act{Kind: kind, ID: id, Parent: parent, Name: name, Dir: true, Ops: l})
					}
				}
			}
		}
	}
}

// The words of the chapter, spelt out one by one.

var form = regexp.MustCompile(`\A[a-z0-9._-]{1,20}\z`)

func isName(s string) bool { return form.MatchString(s) && s != "." && s != ".." }

// plain is Plain, by what chapter 13 says that each Kind names.
func plain(a api.Act) api.Act {
	names := map[int]string{api.Create: "ID Parent Name Dir", api.Remove: "ID", api.Move: "ID Parent Name", api.Edit: "ID Ops"}[a.Kind]
	out := api.Act{Kind: a.Kind}
	for field := range strings.FieldsSeq(names) {
		switch field {
		case "ID":
			out.ID = a.ID
		case "Parent":
			out.Parent = a.Parent
		case "Name":
			out.Name = a.Name
		case "Dir":
			out.Dir = a.Dir
		case "Ops":
			out.Ops = a.Ops
		}
	}
	return out
}

// same is Same: nil and an empty list mean the same.
func same(a, b []api.Act) bool { return reflect.DeepEqual(plainer(a), plainer(b)) }

// plainer is the same acts, without empty lists that are not nil.
func plainer(l []api.Act) (out []api.Act) {
	for _, a := range l {
		if len(a.Ops) == 0 {
			a.Ops = nil
		}
		out = append(out, a)
	}
	return out
}

// checkOne is what P14.1 says of an act alone.
func checkOne(a api.Act) api.Errno {
	isPlain := false
	switch a.Kind {
	case api.Create:
		isPlain = len(a.Ops) == 0
	case api.Remove:
		isPlain = a.Parent == 0 && a.Name == "" && !a.Dir && len(a.Ops) == 0
	case api.Move:
		isPlain = !a.Dir && len(a.Ops) == 0
	case api.Edit:
		isPlain = a.Parent == 0 && a.Name == "" && !a.Dir
	}
	if !isPlain || a.ID < 1 || a.ID > most || a.Parent < 0 || a.Parent > most {
		return api.ErrArg
	}
	switch a.Kind {
	case api.Create, api.Move:
		if !isName(a.Name) {
			return api.ErrArg
		}
	case api.Edit:
		return op.Check(a.Ops)
	}
	return api.OK
}

// check is P14.1 of all of them.
func check(l []api.Act) api.Errno {
	if len(l) > 20 {
		return api.ErrBig
	}
	edits, all := map[int]int{}, 0
	for _, a := range l {
		if e := checkOne(a); e != api.OK {
			return e
		}
		if a.Kind == api.Edit {
			edits[a.ID]++
			if edits[a.ID] == 2 {
				return api.ErrArg
			}
		}
		for _, c := range a.Ops {
			if c.Kind == api.Insert {
				all += utf8.RuneCountInString(c.Text)
			}
		}
	}
	if all > 2000 {
		return api.ErrBig
	}
	return api.OK
}

// checked holds Check against it.
func checked(t *testing.T, l []api.Act) {
	t.Helper()
	if got, want := txn.Check(l), check(l); got != want {
		t.Fatalf("P14.1: Check of %s is %d, not %d", show(l), got, want)
	}
}

// load is a tree that there must be.
func load(t *testing.T, l ...api.Node) *tree.Tree {
	t.Helper()
	x, e := tree.Load(l)
	if e != api.OK {
		t.Fatalf("Load is %d", e)
	}
	return x
}
