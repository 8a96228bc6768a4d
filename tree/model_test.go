package tree_test

import (
	"fmt"
	"maps"
	"math"
	"regexp"
	"slices"
	"strings"
	"testing"
	"unicode/utf8"

	"ropewalk/api"
	"ropewalk/apply"
	"ropewalk/tree"
)

const most = 1 << 40 // the greatest ID

func file(id, parent int, name, text string) api.Node {
	return api.Node{ID: id, Parent: parent, Name: name, Text: text}
}

func dir(id, parent int, name string) api.Node {
	return api.Node{ID: id, Parent: parent, Name: name, Dir: true}
}

func create(id, parent int, name string, dir bool) api.Act {
	return api.Act{Kind: api.Create, ID: id, Parent: parent, Name: name, Dir: dir}
}

func remove(id int) api.Act { return api.Act{Kind: api.Remove, ID: id} }

func move(id, parent int, name string) api.Act {
	return api.Act{Kind: api.Move, ID: id, Parent: parent, Name: name}
}

func edit(id int, l ...api.Comp) api.Act { return api.Act{Kind: api.Edit, ID: id, Ops: l} }

func r(n int) api.Comp       { return api.Comp{Kind: api.Retain, N: n} }
func i(text string) api.Comp { return api.Comp{Kind: api.Insert, Text: text} }
func d(n int) api.Comp       { return api.Comp{Kind: api.Delete, N: n} }

// list is a short way to write nodes.
func list(l ...api.Node) []api.Node { return l }

// show is nodes in words, long texts and lists cut short.
func show(l []api.Node) string {
	s := fmt.Sprintf("%d nodes", len(l))
	for _, n := range l[:min(len(l), 8)] {
		s += fmt.Sprintf(" {%d in %d %.30q %t %.20q}", n.ID, n.Parent, n.Name, n.Dir, n.Text)
	}
	return s
}

// showAct is an act in words, a long one cut short.
func showAct(a api.Act) string { return fmt.Sprintf("%.200s", fmt.Sprint(a)) }

// dice is a row of numbers without a rule that the program could follow.
type dice uint64

func (x *dice) below(n int) int {
	*x = *x*6364136223846793005 + 1442695040888963407
	return int(uint64(*x) >> 33 % uint64(n))
}

// pick is one of l.
func pick[T any](x *dice, l ...T) T { return l[x.below(len(l))] }

// The words of the chapter, spelt out one by one.

// model is a tree by IDs.
type model map[int]api.Node

func modelOf(l []api.Node) model {
	m := model{}
	for _, n := range l {
		m[n.ID] = n
	}
	return m
}

func (m model) nodes() (l []api.Node) {
	for _, id := range slices.Sorted(maps.Keys(m)) {
		l = append(l, m[id])
	}
	return l
}

var form = regexp.MustCompile(`\A[a-z0-9._-]{1,20}\z`)

func isName(s string) bool { return form.MatchString(s) && s != "." && s != ".." }

func isText(s string) bool { return utf8.ValidString(s) && !strings.Contains(s, "\x00") }

// isTree is the word tree.
func isTree(l []api.Node) bool {
	m, all := modelOf(l), 0
	rooted := map[int]int{0: 1}
	for range l { // so many rounds reach all that stand within the root
		for _, n := range l {
			if rooted[n.Parent] == 1 && (n.Parent == 0 || m[n.Parent].Dir) {
				rooted[n.ID] = 1
			}
		}
	}
	for k, n := range l {
		rising := n.ID >= 1 && n.ID <= most && (k == 0 || n.ID > l[k-1].ID)
		alike := slices.ContainsFunc(l, func(o api.Node) bool { return o.ID != n.ID && o.Parent == n.Parent && o.Name == n.Name })
		written := isText(n.Text) && utf8.RuneCountInString(n.Text) <= 2000 && (n.Text == "" || !n.Dir)
		if !rising || !isName(n.Name) || alike || rooted[n.ID] == 0 || !written {
			return false
		}
		all += utf8.RuneCountInString(n.Text)
	}
	return len(l) <= 100 && all <= 10000
}

func (m model) has(id int) bool { _, there := m[id]; return there }

// within tells whether one is another one, or stands within it.
func (m model) within(id, other int) bool {
	return id == other || id != 0 && m.within(m[id].Parent, other)
}

// in is who stands in a parent, by Names.
func (m model) in(parent int) (ids []int) {
	names := map[string]int{}
	for id, n := range m {
		if n.Parent == parent {
			names[n.Name] = id
		}
	}
	for _, name := range slices.Sorted(maps.Keys(names)) {
		ids = append(ids, names[name])
	}
	return ids
}

func (m model) child(parent int, name string) (int, bool) {
	for id, n := range m {
		if n.Parent == parent && n.Name == name {
			return id, true
		}
	}
	return 0, false
}

// path is of 0, or of one that is there.
func (m model) path(id int) string {
	if id == 0 {
		return ""
	}
	return strings.TrimPrefix(m.path(m[id].Parent)+"/"+m[id].Name, "/")
}

// why is the first of some reasons that holds.
func why(l ...any) api.Errno {
	for k := 0; k < len(l); k += 2 {
		if l[k].(bool) {
			return l[k+1].(api.Errno)
		}
	}
	return api.OK
}

// do is what an act makes of it, which is another one, and its error.
func (m model) do(a api.Act) (model, api.Errno) {
	_, taken := m.child(a.Parent, a.Name)
	noParent := a.Parent != 0 && !m.has(a.Parent)
	inFile := a.Parent != 0 && !m[a.Parent].Dir
	n, e := m[a.ID], api.ErrArg
	switch a.Kind {
	case api.Create:
		n = api.Node{ID: a.ID, Parent: a.Parent, Name: a.Name, Dir: a.Dir}
		e = why(a.ID < 1 || a.ID > most || !isName(a.Name), api.ErrArg, m.has(a.ID), api.ErrThere, noParent, api.ErrNone, inFile, api.ErrKind, taken, api.ErrThere, len(m) == 100, api.ErrFull)
	case api.Remove:
		e = why(!m.has(a.ID), api.ErrNone, len(m.in(a.ID)) > 0, api.ErrHeld)
	case api.Move:
		taken = taken && (n.Parent != a.Parent || n.Name != a.Name)
		n.Parent, n.Name = a.Parent, a.Name
		e = why(!isName(a.Name), api.ErrArg, !m.has(a.ID), api.ErrNone, noParent, api.ErrNone, inFile, api.ErrKind, !noParent && m.has(a.ID) && m.within(a.Parent, a.ID), api.ErrCycle, taken, api.ErrThere)
	case api.Edit:
		text, f := apply.Do(n.Text, a.Ops)
		n.Text = text
		all := utf8.RuneCountInString(text)
		for id, o := range m {
			if id != a.ID {
				all += utf8.RuneCountInString(o.Text)
			}
		}
		e = why(!m.has(a.ID), api.ErrNone, n.Dir, api.ErrKind, f != api.OK, f, all > 10000, api.ErrFull)
	}
	if e != api.OK {
		return m, e
	}
	m = maps.Clone(m)
	m[a.ID] = n
	if a.Kind == api.Remove {
		delete(m, a.ID)
	}
	return m, api.OK
}

// What a tree is asked.

// load is one that there must be.
func load(t *testing.T, l []api.Node) *tree.Tree {
	t.Helper()
	x, e := tree.Load(l)
	if e != api.OK || x == nil {
		t.Fatalf("P13.1: Load of %s is %d", show(l), e)
	}
	return x
}

// holds asks whether a tree has these nodes.
func holds(t *testing.T, what string, x *tree.Tree, want []api.Node) {
	t.Helper()
	if l := x.Nodes(); !slices.Equal(l, want) {
		t.Errorf("%s:\n got %s\nwant %s", what, show(l), show(want))
	}
}

// asked is what P13.1 says of a tree with these nodes: of each one, of the root, and of those beside.
func asked(t *testing.T, x *tree.Tree, l []api.Node) {
	t.Helper()
	m := modelOf(l)
	holds(t, "P13.1: Nodes", x, l)
	names, ids := []string{"", "a", "b", ".", "..", "A", "a/b", "zz"}, []int{0, -1, 1, 2, 3, 4, 5, most, most + 1, math.MinInt, math.MaxInt}
	for _, n := range l {
		names, ids = append(names, n.Name), append(ids, n.ID, n.ID-1, n.ID+1, n.Parent)
	}
	for _, id := range ids {
		if n, ok := x.Get(id); n != m[id] || ok != m.has(id) {
			t.Errorf("P13.1: Get(%d) of %s is %v, %t", id, show(l), n, ok)
		}
		if got := x.Children(id); !slices.Equal(got, m.in(id)) {
			t.Errorf("P13.1: Children(%d) of %s are %v, not %v", id, show(l), got, m.in(id))
		}
		for _, name := range names {
			want, there := m.child(id, name)
			if got, ok := x.Child(id, name); got != want || ok != there {
				t.Errorf("P13.1: Child(%d, %q) of %s is %d, %t, not %d", id, name, show(l), got, ok, want)
			}
		}
	}
	askedPaths(t, x, l, ids)
}

// askedPaths is what it says of Paths, and of finding them.
func askedPaths(t *testing.T, x *tree.Tree, l []api.Node, ids []int) {
	t.Helper()
	m := modelOf(l)
	paths := map[string]int{"": 0}
	for id := range m {
		paths[m.path(id)] = id
	}
	for _, id := range ids {
		want, there := "", id == 0 || m.has(id)
		if there {
			want = m.path(id)
		}
		if got, ok := x.Path(id); got != want || ok != there {
			t.Errorf("P13.1: Path(%d) of %s is %q, %t, not %q", id, show(l), got, ok, want)
		}
		for _, path := range []string{want, want + "/", "/" + want, "./" + want, want + "/.", want + "/a", "a/" + want, want + "/..", want + "//a", want + "a", strings.ToUpper(want), strings.ReplaceAll(want, "/", "//"), strings.TrimLeft(want, "abc"), want + "\x00"} {
			to, known := paths[path]
			if got, ok := x.Find(path); got != to || ok != known {
				t.Errorf("P13.1: Find(%q) of %s is %d, %t, not %d, %t", path, show(l), got, ok, to, known)
			}
		}
	}
}

// done does an act with a tree and with the model of it, and asks for the same outcome. It answers the model behind it.
func done(t *testing.T, x *tree.Tree, m model, a api.Act) model {
	t.Helper()
	was := m.nodes()
	m, want := m.do(a)
	if e := x.Do(a); e != want {
		t.Fatalf("P13.2: Do(%s) of %s is %d, not %d", showAct(a), show(was), e, want)
	}
	holds(t, "P13.2: Do("+showAct(a)+") of "+show(was), x, m.nodes())
	return m
}
