package apply

import (
	"unicode/utf8"

	"ropewalk/api"
	"ropewalk/op"
	"ropewalk/utf"
)

// Diff is what makes one of the other.
func Diff(a, b string) ([]api.Comp, api.Errno) {
	if !utf.Valid(a) || !utf.Valid(b) {
		return nil, api.ErrBad
	}
	head := begin(a, b)
	tail := finish(a[head:], b[head:])
	from, _ := utf.Count(a[:head])
	gone, _ := utf.Count(a[head : len(a)-tail])
	kept, _ := utf.Count(a[len(a)-tail:])
	return op.Of(from+gone+kept, from, from+gone, b[head:len(b)-tail])
}

// begin is how many bytes the code points have with which both begin alike.
func begin(a, b string) int {
	n := 0
	for n < len(a) && n < len(b) && a[n] == b[n] {
		n++
	}
	for n < len(a) && !utf8.RuneStart(a[n]) { // unlike ones may begin with the same bytes
		n--
	}
	return n
}

// finish is how many bytes the code points have with which both end alike.
func finish(a, b string) int {
	n := 0
	for n < len(a) && n < len(b) && a[len(a)-1-n] == b[len(b)-1-n] {
		n++
	}
	for n > 0 && !utf8.RuneStart(a[len(a)-n]) { // unlike ones may end with the same bytes
		n--
	}
	return n
}
