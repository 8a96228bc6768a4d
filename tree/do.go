package tree

import (
	"slices"
	"strings"

	"ropewalk/api"
	"ropewalk/apply"
)

// Do does an act.
func (t *Tree) Do(a api.Act) api.Errno {
	var do func(api.Act) api.Errno
	switch a.Kind {
	case api.Create:
		do = t.create
	case api.Remove:
		do = t.remove
	case api.Move:
		do = t.move
	case api.Edit:
		do = t.edit
	default:
		return api.ErrArg
	}
	if t == nil {
		return api.ErrNone
	}
	return do(a)
}

// create makes a directory, or an empty file.
func (t *Tree) create(a api.Act) api.Errno {
	if !number(a.ID) || !Name(a.Name) {
		return api.ErrArg
	}
	at, there := t.at(a.ID)
	if there {
		return api.ErrThere
	}
	if e := t.into(a.Parent); e != api.OK {
		return e
	}
	if _, taken := t.Child(a.Parent, a.Name); taken {
		return api.ErrThere
	}
	if len(t.nodes) == api.MaxNodes {
		return api.ErrFull
	}
	t.put(at, at, api.Node{ID: a.ID, Parent: a.Parent, Name: strings.Clone(a.Name), Dir: a.Dir})
	return api.OK
}

// remove takes one away in which nothing stands.
func (t *Tree) remove(a api.Act) api.Errno {
	at, there := t.at(a.ID)
	if !there {
		return api.ErrNone
	}
	if len(t.Children(a.ID)) > 0 {
		return api.ErrHeld
	}
	t.put(at, at+1)
	return api.OK
}

// move puts one into another parent, or under another name.
func (t *Tree) move(a api.Act) api.Errno {
	if !Name(a.Name) {
		return api.ErrArg
	}
	at, there := t.at(a.ID)
	if !there {
		return api.ErrNone
	}
	if e := t.into(a.Parent); e != api.OK {
		return e
	}
	line, _ := t.line(a.Parent)
	if slices.ContainsFunc(line, func(n api.Node) bool { return n.ID == a.ID }) {
		return api.ErrCycle
	}
	if id, taken := t.Child(a.Parent, a.Name); taken && id != a.ID {
		return api.ErrThere
	}
	n := t.nodes[at]
	n.Parent, n.Name = a.Parent, strings.Clone(a.Name)
	t.put(at, at+1, n)
	return api.OK
}

// edit makes another text of a file's.
func (t *Tree) edit(a api.Act) api.Errno {
	at, there := t.at(a.ID)
	if !there {
		return api.ErrNone
	}
	n := t.nodes[at]
	if n.Dir {
		return api.ErrKind
	}
	text, e := apply.Do(n.Text, a.Ops)
	if e != api.OK {
		return e
	}
	others := points(t.nodes[:at]) + points(t.nodes[at+1:])
	n.Text = text
	if others+points([]api.Node{n}) > api.MaxAll {
		return api.ErrFull
	}
	t.put(at, at+1, n)
	return api.OK
}

// put sets some in the place of those from from on, ahead of to. It makes another list, lest it write into that of a Tree which was assigned from this one.
func (t *Tree) put(from, to int, some ...api.Node) {
	t.nodes = slices.Concat(t.nodes[:from], some, t.nodes[to:])
}
