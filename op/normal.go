package op

import (
	"ropewalk/api"
	"ropewalk/utf"
)

// normal tells whether Normal would leave all as it is, but for an N too great, and each Text is Valid.
func normal(l []api.Comp) bool {
	last := 0
	for _, c := range l {
		late := last == api.Delete && c.Kind == api.Insert
		if late || c.Kind == last || !whole(c) {
			return false
		}
		last = c.Kind
	}
	return true
}

// whole tells whether a part may stand in a normal edit.
func whole(c api.Comp) bool {
	switch c.Kind {
	case api.Retain, api.Delete:
		return c.N > 0 && c.Text == ""
	case api.Insert:
		return c.N == 0 && c.Text != "" && utf.Valid(c.Text)
	}
	return false
}

// stretch is a Retain, and what stands behind it, ahead of the next one.
type stretch struct {
	kept int
	text []byte
	gone int
}

// bare tells whether nothing stands behind the Retain.
func (s *stretch) bare() bool { return len(s.text) == 0 && s.gone == 0 }

// end writes it behind l, and begins another one.
func (s *stretch) end(l []api.Comp) []api.Comp {
	if s.kept > 0 {
		l = append(l, retain(s.kept))
	}
	if len(s.text) > 0 {
		l = append(l, insert(string(s.text)))
	}
	if s.gone > 0 {
		l = append(l, remove(s.gone))
	}
	*s = stretch{text: s.text[:0]}
	return l
}

// Normal is its normal form.
func Normal(l []api.Comp) []api.Comp {
	var out []api.Comp
	var now stretch
	var c api.Comp
	at := 0
next:
	if at == len(l) {
		goto end
	}
	c = l[at]
	at++
	switch c.Kind {
	case api.Insert:
		now.text = append(now.text, c.Text...)
	case api.Delete:
		now.gone = sum(now.gone, c.N)
	case api.Retain:
		if c.N > 0 { // else it is none, and does not part what stands on its sides
			goto retain
		}
	}
	goto next
retain:
	if !now.bare() {
		out = now.end(out)
	}
	now.kept = sum(now.kept, c.N)
	goto next
end:
	return now.end(out)
}
