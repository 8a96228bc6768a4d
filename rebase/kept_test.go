package rebase_test

import (
	"reflect"
	"slices"
	"strings"
	"testing"
	"unsafe"

	"ropewalk/api"
	"ropewalk/effect"
	"ropewalk/rebase"
)

// given is what is handed in, with spare room behind it: four acts, three of what was done, one commit.
func given() ([]api.Act, []effect.One, []api.Commit) {
	ops := parts(r(2), i("x"), i("spare"), r(9))
	other := parts(i("a"), r(2), i("spare"), r(9))
	l := acts(edit(2, ops[:2]...), create(3, 0, "b"), move(4, 0, "c"), edit(5, ops[1:2]...), remove(78), remove(79))
	by := ones(effect.One{ID: 2, Edited: true, Parent: 5, Name: "n", Ops: other[:2]}, effect.One{ID: 4, Moved: true, Name: "c"}, edited(9, other[2:3]...), effect.One{ID: 78, Name: "spare"})
	c := []api.Commit{{Rev: 1, Acts: acts(edit(2, other[:2]...), move(4, 0, "c"), remove(77))[:2]}, {Rev: 78, Acts: acts(remove(2))}}
	return l, by, c
}

// TestHandedIn: what is handed in is neither changed nor kept, its spare room neither.
func TestHandedIn(t *testing.T) {
	l, by, c := given()
	out, left, e := rebase.Over(l[:4], by[:3])
	none, kept, e2 := rebase.Over(append(l[:4:4], remove(9)), by[:3])
	wrong, kept2, e3 := rebase.Over(make([]api.Act, 21), by[:3])
	after, e4 := rebase.Behind(l[:4], c[:1])
	same, e5 := rebase.Behind(l[:4], nil)
	for _, a := range l[:4] {
		rebase.Why(a, by[:3])
	}
	l2, by2, c2 := given()
	if !reflect.DeepEqual(l, l2) || !reflect.DeepEqual(by, by2) || !reflect.DeepEqual(c, c2) {
		t.Errorf("P16.4: what was handed in is %v, %v, %v", l, by, c)
	}
	for _, x := range l {
		clear(x.Ops)
	}
	for _, x := range by {
		clear(x.Ops)
	}
	for _, x := range c {
		clear(x.Acts)
	}
	clear(l)
	clear(by)
	clear(c)
	want := acts(edit(2, r(3), i("x")), create(3, 0, "b"), edit(5, i("x")))
	wantLeft := ones(effect.One{ID: 2, Edited: true, Parent: 5, Name: "n", Ops: parts(i("a"), r(3))}, by2[1], by2[2])
	if e != api.OK || !sameActs(out, want) || !sameOnes(left, wantLeft) {
		t.Errorf("P16.4: behind a change of what was handed in Over is %s; %s; %d", show(out), show(left), e)
	}
	if e2 != api.ErrClash || e3 != api.ErrBig || len(none)+len(wrong) != 0 || !sameOnes(kept, by2[:3]) || !sameOnes(kept2, by2[:3]) {
		t.Errorf("P16.4: behind a change of what was handed in left is %s (%d) and %s (%d)", show(kept), e2, show(kept2), e3)
	}
	if e4 != api.OK || e5 != api.OK || !sameActs(after, want) || !sameActs(same, l2[:4]) {
		t.Errorf("P16.4: behind a change of what was handed in Behind is %s (%d) and %s (%d)", show(after), e4, show(same), e5)
	}
}

// TestTwiceAlike: what a call answers hangs on nothing done before.
func TestTwiceAlike(t *testing.T) {
	l, by, c := given()
	out, left, _ := rebase.Over(l[:4], by[:3])
	after, _ := rebase.Behind(l[:4], c)
	for k := range 6 {
		rebase.Over(l[k:], by)
		rebase.Over(make([]api.Act, k*5), by[k/2:])
		rebase.Behind(l[k:], c)
		rebase.Why(l[k], by)
		out2, left2, _ := rebase.Over(l[:4], by[:3])
		if after2, _ := rebase.Behind(l[:4], c); !sameActs(out, out2) || !sameOnes(left, left2) || !sameActs(after, after2) {
			t.Errorf("P16.4: once it is %s; %s; %s, then %s; %s; %s", show(out), show(left), show(after), show(out2), show(left2), show(after2))
		}
	}
}

// overlap tells whether two texts lie in one memory.
func overlap(a, b string) bool {
	from, other := uintptr(unsafe.Pointer(unsafe.StringData(a))), uintptr(unsafe.Pointer(unsafe.StringData(b)))
	return from < other+uintptr(len(b)) && other < from+uintptr(len(a))
}

// texts is all texts of acts, and of what was done.
func texts(l []api.Act, by []effect.One) (out []string) {
	put := func(name string, ops []api.Comp) {
		out = append(out, name)
		for _, c := range ops {
			out = append(out, c.Text)
		}
	}
	for _, a := range l {
		put(a.Name, a.Ops)
	}
	for _, x := range by {
		put(x.Name, x.Ops)
	}
	return slices.DeleteFunc(out, func(s string) bool { return s == "" })
}

// TestTextsAreNewMemory asks where the texts lie.
func TestTextsAreNewMemory(t *testing.T) {
	name, other, long := strings.Repeat("n", 20), strings.Repeat("m", 20), strings.Repeat("é", 40)
	l := acts(create(1, 0, name), edit(2, i(long)), edit(3, i(long)))
	by := ones(edited(2, i(long)), effect.One{ID: 4, Name: other, Ops: parts(i(long))})
	all := []string{name, other, long}
	for range 2 {
		out, left, _ := rebase.Over(l, by)
		all = append(all, texts(out, left)...)
		_, left, _ = rebase.Over(append(l, remove(2)), by)
		all = append(all, texts(nil, left)...)
		out, _ = rebase.Behind(l, nil)
		all = append(all, texts(out, nil)...)
		out, _ = rebase.Behind(l, commits(acts(edit(3, i(long))), nil))
		all = append(all, texts(out, nil)...)
	}
	for at, a := range all {
		for with, b := range all[:at] {
			if overlap(a, b) {
				t.Errorf("P16.4: texts %d and %d share their memory", at, with)
			}
		}
	}
	if len(all) != 3+2*(3+3+3+3+3) {
		t.Errorf("P16.4: there are %d texts", len(all))
	}
}

// TestListsAreNewMemory writes into what is answered, and behind it.
func TestListsAreNewMemory(t *testing.T) {
	ops := parts(r(1), i("x"))
	l := acts(edit(1, ops...), edit(2, ops...), remove(3)) // two acts with one list
	by := ones(edited(5, ops...), edited(6, ops...))       // and two of what was done
	want := [][]api.Comp{parts(r(1), i("x")), parts(r(1), i("x"))}
	listsOf := func(out []api.Act, left []effect.One) (all [][]api.Comp) {
		for _, a := range out {
			all = append(all, a.Ops)
		}
		for _, x := range left {
			all = append(all, x.Ops)
		}
		return all
	}
	for what, answer := range map[string]func() [][]api.Comp{
		"Over":            func() [][]api.Comp { out, left, _ := rebase.Over(l[:2], by); return listsOf(out, left) },
		"Over, an error":  func() [][]api.Comp { _, left, _ := rebase.Over(append(l, remove(6)), by); return listsOf(nil, left) },
		"Over, a wrong l": func() [][]api.Comp { _, left, _ := rebase.Over(append(l, remove(0)), by); return listsOf(nil, left) },
		"Over of one":     func() [][]api.Comp { out, left, _ := rebase.Over(l[:1], by[:1]); return listsOf(out, left) },
		"Over by one list": func() [][]api.Comp {
			out, left, _ := rebase.Over(l[:2], ones(effect.One{ID: 1, Ops: ops}))
			return listsOf(out, left)[:2]
		},
		"Behind none": func() [][]api.Comp { out, _ := rebase.Behind(l[:2], nil); return listsOf(out, nil) },
		"Behind one":  func() [][]api.Comp { out, _ := rebase.Behind(l[:2], commits(nil)); return listsOf(out, nil) },
	} {
		for at := range answer() {
			got, again := answer(), answer()
			clear(got[at])
			_ = append(got[at], d(7), d(7))
			got[at] = parts(r(1), i("x"))
			for k, x := range got {
				if !reflect.DeepEqual(x, want[0]) || !reflect.DeepEqual(again[k], want[1]) {
					t.Errorf("P16.4: behind a change of list %d that %s answered, list %d is %v, and %v again", at, what, k, x, again[k])
				}
			}
			if !reflect.DeepEqual(ops, want[0]) {
				t.Fatalf("P16.4: behind a change of what %s answered, what was handed in is %v", what, ops)
			}
		}
	}
	out, left, _ := rebase.Over(l[:2], by)
	clear(out)
	clear(left)
	_ = append(out[:0], remove(7), remove(7))
	_ = append(left[:0], flagged(7, 7), flagged(7, 7))
	if !sameActs(l, acts(edit(1, ops...), edit(2, ops...), remove(3))) || !sameOnes(by, ones(edited(5, ops...), edited(6, ops...))) {
		t.Errorf("P16.4: behind a change of what Over answered, there are %s and %s", show(l), show(by))
	}
}
