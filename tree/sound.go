package tree

import (
	"unicode/utf8"

	"ropewalk/api"
	"ropewalk/utf"
)

const most = 1 << 40 // the greatest ID

// Name tells whether one may be.
func Name(s string) bool {
	if len(s) < 1 || len(s) > api.MaxName || s == "." || s == ".." {
		return false
	}
	for _, c := range []byte(s) {
		if !letter(c) {
			return false
		}
	}
	return true
}

// letter tells whether it may stand in a name.
func letter(c byte) bool {
	return c >= 'a' && c <= 'z' || c >= '0' && c <= '9' || c == '.' || c == '-' || c == '_'
}

// number tells whether it may be an ID.
func number(id int) bool { return id >= 1 && id <= most }

// sound tells whether nodes are a tree.
func sound(l []api.Node) bool {
	if len(l) > api.MaxNodes || !rising(l) { // asked first: where one stands is looked for by rising IDs
		return false
	}
	t := Tree{nodes: l}
	for _, n := range l {
		if !Name(n.Name) || !t.placed(n) || !written(n) {
			return false
		}
	}
	return points(l) <= api.MaxAll
}

// rising tells whether their IDs are.
func rising(l []api.Node) bool {
	last := 0
	for _, n := range l {
		if !number(n.ID) || n.ID <= last {
			return false
		}
		last = n.ID
	}
	return true
}

// placed tells whether one may stand where it does.
func (t *Tree) placed(n api.Node) bool {
	first, _ := t.Child(n.Parent, n.Name)
	_, rooted := t.line(n.ID)
	return rooted && t.into(n.Parent) == api.OK && first == n.ID
}

// written tells whether a node may have its text.
func written(n api.Node) bool {
	count, e := utf.Count(n.Text)
	if n.Dir {
		return n.Text == ""
	}
	return e == api.OK && count <= api.MaxText
}

// points is how many code points all texts have. They are Valid.
func points(l []api.Node) int {
	all := 0
	for _, n := range l {
		all += utf8.RuneCountInString(n.Text)
	}
	return all
}
