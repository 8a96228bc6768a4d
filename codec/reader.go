package codec

import (
	"slices"

	"ropewalk/api"
	"ropewalk/num"
	"ropewalk/utf"
)

// Reader reads.
type Reader struct {
	left []byte
	e    api.Errno
}

// NewReader is one.
func NewReader(b []byte) *Reader { return &Reader{left: slices.Clone(b)} }

// Num reads a number.
func (r *Reader) Num() int {
	var n, used int
	e := r.Err()
	if e != api.OK {
		goto end
	}
	n, used, e = num.Get(r.left)
	if e != api.OK {
		goto end
	}
	r.left = r.left[used:]
	return n
end:
	r.stop(e)
	return 0
}

// Text reads a text.
func (r *Reader) Text(most int) string {
	var s string
	n := r.Num()
	e := r.Err()
	if e != api.OK {
		goto end
	}
	e = api.ErrBad
	if n > len(r.left) {
		goto end
	}
	s = string(r.left[:n])
	if !utf.Valid(s) {
		goto end
	}
	e = api.ErrBig
	if n > most {
		goto end
	}
	r.left = r.left[n:]
	return s
end:
	r.stop(e)
	return ""
}

// Flag reads a yes or a no.
func (r *Reader) Flag() bool {
	n := r.Num()
	if n > 1 {
		r.stop(api.ErrBad)
	}
	return n == 1
}

// Comps reads an edit.
func (r *Reader) Comps() []api.Comp { return list(r, api.MaxComps, r.comp) }

// Acts reads a transaction.
func (r *Reader) Acts() []api.Act { return list(r, api.MaxActs, r.act) }

// Nodes reads a tree.
func (r *Reader) Nodes() []api.Node { return list(r, api.MaxNodes, r.node) }

// Left is how many are left.
func (r *Reader) Left() int {
	if r.Err() != api.OK {
		return 0
	}
	return len(r.left)
}

// Err is the first error.
func (r *Reader) Err() api.Errno {
	if r == nil {
		return api.ErrBad
	}
	return r.e
}

// comp reads a part of an edit.
func (r *Reader) comp() api.Comp {
	return api.Comp{Kind: r.Num(), N: r.Num(), Text: r.Text(mostText)}
}

// act reads a step of a transaction.
func (r *Reader) act() api.Act {
	return api.Act{Kind: r.Num(), ID: r.Num(), Parent: r.Num(), Name: r.Text(mostName), Dir: r.Flag(), Ops: r.Comps()}
}

// node reads a file or a directory.
func (r *Reader) node() api.Node {
	return api.Node{ID: r.Num(), Parent: r.Num(), Name: r.Text(mostName), Dir: r.Flag(), Text: r.Text(mostText)}
}

// list reads how many, and each by one. It asks for an error behind each, lest a long list go on behind the first.
func list[T any](r *Reader, most int, one func() T) []T {
	var l []T
	n := r.Num()
	if n > most {
		r.stop(api.ErrBig)
		goto end
	}
	for range n {
		l = append(l, one())
		if r.Err() != api.OK {
			goto end
		}
	}
	return l
end:
	return nil
}

// stop keeps the first error, and lets go of all that is left.
func (r *Reader) stop(e api.Errno) {
	if r.Err() == api.OK {
		*r = Reader{e: e}
	}
}
