package codec

import (
	"slices"

	"ropewalk/api"
	"ropewalk/num"
	"ropewalk/utf"
)

// Writer writes.
type Writer struct {
	on  *sheet
	n   int // how many of the sheet's bytes are this one's
	bad bool
}

// A sheet is what several copies of a Writer may write on: it only grows, and what stands there stays.
type sheet struct{ b []byte }

// Num writes a number.
func (w *Writer) Num(n int) *Writer { return w.put(num.Fits(n), num.Put(n)) }

// Text writes a text.
func (w *Writer) Text(s string) *Writer {
	return w.Num(len(s)).put(utf.Valid(s), []byte(s))
}

// Flag writes a yes or a no.
func (w *Writer) Flag(b bool) *Writer {
	if b {
		return w.Num(1)
	}
	return w.Num(0)
}

// Comps writes an edit.
func (w *Writer) Comps(l []api.Comp) *Writer {
	w.Num(len(l))
	for _, c := range l {
		w.Num(c.Kind).Num(c.N).Text(c.Text)
	}
	return w
}

// Acts writes a transaction.
func (w *Writer) Acts(l []api.Act) *Writer {
	w.Num(len(l))
	for _, a := range l {
		w.Num(a.Kind).Num(a.ID).Num(a.Parent).Text(a.Name).Flag(a.Dir).Comps(a.Ops)
	}
	return w
}

// Nodes writes a tree.
func (w *Writer) Nodes(l []api.Node) *Writer {
	w.Num(len(l))
	for _, n := range l {
		w.Num(n.ID).Num(n.Parent).Text(n.Name).Flag(n.Dir).Text(n.Text)
	}
	return w
}

// Done is all.
func (w *Writer) Done() ([]byte, bool) {
	if w == nil || w.bad {
		return nil, false
	}
	return w.all(), true
}

// put writes what may be written. What may not is the first error, and the last thing to happen to w.
func (w *Writer) put(may bool, b []byte) *Writer {
	if w == nil || w.bad {
		goto end
	}
	if !may {
		*w = Writer{bad: true}
		goto end
	}
	if w.on == nil || len(w.on.b) > w.n { // another copy has written behind what is w's
		w.on = &sheet{w.all()}
	}
	w.on.b = append(w.on.b, b...)
	w.n = len(w.on.b)
end:
	return w
}

// all is what w has, in new memory.
func (w *Writer) all() []byte {
	if w.on == nil {
		return nil
	}
	return slices.Clone(w.on.b[:w.n])
}
