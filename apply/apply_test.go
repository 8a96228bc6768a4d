package apply_test

import (
	"fmt"
	"math"
	"slices"
	"strings"
	"testing"
	"unsafe"

	"ropewalk/api"
	"ropewalk/apply"
	"ropewalk/op"
)

func r(n int) api.Comp       { return api.Comp{Kind: api.Retain, N: n} }
func i(text string) api.Comp { return api.Comp{Kind: api.Insert, Text: text} }
func d(n int) api.Comp       { return api.Comp{Kind: api.Delete, N: n} }

// parts is a short way to write a list of them.
func parts(l ...api.Comp) []api.Comp { return l }

// show is a list in words, or the beginning of a long one.
func show(l []api.Comp) string {
	s := fmt.Sprintf("%d parts", len(l))
	for _, c := range l[:min(len(l), 12)] {
		s += fmt.Sprintf(" {%d %d %.40q}", c.Kind, c.N, c.Text)
	}
	return s
}

// pool is parts of all sorts: those that may be, and some that may not.
func pool() []api.Comp {
	return parts(
		r(1), r(2), i("x"), i("é€"), d(1), d(2),
		r(0), d(-1), i(""), i("\xff"), api.Comp{}, api.Comp{Kind: api.Insert, N: 1, Text: "x"},
	)
}

// lists shows all lists of up to n parts of the pool.
func lists(n int, show func(l []api.Comp)) {
	var grow func(l []api.Comp)
	grow = func(l []api.Comp) {
		show(slices.Clone(l))
		if len(l) < n {
			for _, c := range pool() {
				grow(append(l, c))
			}
		}
	}
	grow(nil)
}

// turns is n parts, Retains and Deletes by turns.
func turns(n int) (l []api.Comp) {
	for k := range n {
		l = append(l, parts(r(1), d(1))[k%2])
	}
	return l
}

// bad is texts that are not Valid.
func bad() []string {
	return []string{"\x00", "a\x00", "\xff", "ab\xff", "\xffab", "a\xc3", "\xa9", "\xed\xa0\x80", "\xc0\x80", "\xf4\x90\x80\x80"}
}

// fate is what an edit, taken place by place, does with a code point: what it puts in ahead of it, and whether it keeps it.
type fate struct {
	put  []rune
	kept bool
}

// fates is that of each code point of the base, and, behind the last one, what is put in at the end.
func fates(l []api.Comp) []fate {
	out := make([]fate, 1)
	for _, c := range l {
		for range c.N {
			out[len(out)-1].kept = c.Kind == api.Retain
			out = append(out, fate{})
		}
		last := &out[len(out)-1]
		last.put = append(last.put, []rune(c.Text)...)
	}
	return out
}

// done is the text that the fates make of one, and undone a list of many small parts that takes it back.
func done(text []rune, l []fate) (out string, undone []api.Comp) {
	for at, f := range l {
		out += string(f.put)
		for range f.put {
			undone = append(undone, d(1))
		}
		if at == len(text) {
			return out, undone
		}
		if f.kept {
			out += string(text[at])
			undone = append(undone, r(1))
		} else {
			undone = append(undone, i(string(text[at])))
		}
	}
	return out, undone
}

// wrong is the error that the chapter asks for.
func wrong(text string, l []api.Comp) api.Errno {
	switch e := op.Check(l); {
	case e != api.OK:
		return e
	case slices.Contains(bad(), text):
		return api.ErrBad
	case len([]rune(text)) != op.Base(l):
		return api.ErrText
	}
	return api.OK
}

// asked is all that the chapter says of Do and Undo of one edit and one text.
func asked(t *testing.T, text string, l []api.Comp) {
	t.Helper()
	want, undone := "", []api.Comp(nil)
	e := wrong(text, l)
	if e == api.OK {
		want, undone = done([]rune(text), fates(l))
		undone = op.Normal(undone)
	}
	out, f := apply.Do(text, l)
	if out != want || f != e {
		t.Errorf("P8.1: Do(%.40q, %s) is %.40q, %d, not %.40q, %d", text, show(l), out, f, want, e)
	}
	back, f := apply.Undo(text, l)
	if !slices.Equal(back, undone) || f != e {
		t.Errorf("P8.1: Undo(%.40q, %s) is %s, %d, not %s, %d", text, show(l), show(back), f, show(undone), e)
	}
	if e != api.OK {
		return
	}
	if f := op.Check(back); f != api.OK {
		t.Errorf("P8.1: Undo(%.40q, %s) is not normal: %s", text, show(l), show(back))
	}
	if again, f := apply.Do(out, back); again != text || f != api.OK {
		t.Errorf("P8.3: Undo of %s gives %.40q, %d, not %.40q", show(l), again, f, text)
	}
	if twice, f := apply.Undo(out, back); !slices.Equal(twice, l) || f != api.OK {
		t.Errorf("P8.3: Undo of Undo of %s is %s, %d", show(l), show(twice), f)
	}
}

func TestExample(t *testing.T) {
	if out, e := apply.Do("abc", parts(r(1), d(1), r(1))); out != "ac" || e != api.OK {
		t.Errorf("P8.1: Do is %q, %d", out, e)
	}
}

func TestDo(t *testing.T) {
	for _, one := range []struct {
		text string
		l    []api.Comp
		want string
	}{
		{"", nil, ""}, {"", []api.Comp{}, ""}, {"", parts(i("aé€😀")), "aé€😀"},
		{"abc", parts(r(3)), "abc"}, {"abc", parts(d(3)), ""}, {"abc", parts(i("x"), d(3)), "x"},
		{"abc", parts(i("x"), r(3)), "xabc"}, {"abc", parts(r(3), i("x")), "abcx"}, {"abc", parts(r(1), i("x"), r(2)), "axbc"},
		{"aé€😀b", parts(r(1), d(1), r(1), d(1), r(1)), "a€b"}, {"aé€😀b", parts(d(1), r(1), d(1), r(1), d(1)), "é😀"},
		{"aé€😀b", parts(i("1"), r(1), i("2"), d(3), r(1), i("3")), "1a2b3"},
		{"e\u0301e", parts(r(1), d(1), r(1)), "ee"}, // a code point is one, whatever it is shown with
		{"a\r\nb", parts(r(1), i("\n\t"), d(2), r(1)), "a\n\tb"},
		{"\ufeffa", parts(d(1), r(1)), "a"}, {"\ufffd\ufffd", parts(r(1), d(1)), "\ufffd"},
	} {
		if out, e := apply.Do(one.text, one.l); out != one.want || e != api.OK {
			t.Errorf("P8.1: Do(%q, %s) is %q, %d, not %q", one.text, show(one.l), out, e, one.want)
		}
		asked(t, one.text, one.l)
	}
}

func TestUndo(t *testing.T) {
	for _, one := range []struct {
		text    string
		l, want []api.Comp
	}{
		{"", nil, nil}, {"ab", parts(r(2)), parts(r(2))},
		{"", parts(i("aé€😀")), parts(d(4))}, {"aé€😀", parts(d(4)), parts(i("aé€😀"))},
		{"aé€", parts(r(1), i("xyz"), d(1), r(1)), parts(r(1), i("é"), d(3), r(1))}, // the Insert ahead of the Delete, here too
		{"aé€", parts(i("x"), d(1), r(1), i("😀"), d(1)), parts(i("a"), d(1), r(1), i("€"), d(1))},
		{"aé€b", parts(i("x"), r(1), d(2), r(1), i("yy")), parts(d(1), r(1), i("é€"), r(1), d(2))},
	} {
		if l, e := apply.Undo(one.text, one.l); !slices.Equal(l, one.want) || e != api.OK {
			t.Errorf("P8.1: Undo(%q, %s) is %s, %d, not %s", one.text, show(one.l), show(l), e, show(one.want))
		}
	}
}

func TestAllShortLists(t *testing.T) {
	texts := append(bad(), "", "a", "é", "ab", "é€", "€é😀", "abc", "aé€😀")
	lists(4, func(l []api.Comp) {
		for _, text := range texts {
			asked(t, text, l)
		}
	})
}

// TestErrorsInOrder holds that of several errors the first one is told, and nothing beside it.
func TestErrorsInOrder(t *testing.T) {
	for _, one := range []struct {
		text string
		l    []api.Comp
		want api.Errno
	}{
		{"\xff", append(turns(100), r(0)), api.ErrBig}, {"a", append(turns(100), r(0)), api.ErrBig},
		{"\xff", parts(r(1), r(1)), api.ErrArg}, {"\x00", parts(d(1), i("a")), api.ErrArg}, {"a", parts(i("\xff"), r(3)), api.ErrArg}, {"ab", parts(r(1), r(1)), api.ErrArg},
		{"a\xff", parts(r(2001)), api.ErrBig}, {"a", parts(d(2001)), api.ErrBig}, {"a", parts(r(1), i(strings.Repeat("a", 2000))), api.ErrBig}, {"a", parts(r(math.MaxInt)), api.ErrBig}, {"a", parts(d(math.MaxInt), r(math.MaxInt), d(3)), api.ErrBig},
		{"a\xff", parts(r(2)), api.ErrBad}, {"a\xff", parts(r(9)), api.ErrBad}, {"a\x00", nil, api.ErrBad}, {"\xc3", parts(d(1)), api.ErrBad},
		{strings.Repeat("a", 3000) + "\xff", parts(r(2)), api.ErrBad},
		{"a", nil, api.ErrText}, {"", parts(r(1)), api.ErrText}, {"", parts(i("a"), d(1)), api.ErrText}, {"ab", parts(r(1)), api.ErrText}, {"ab", parts(r(3)), api.ErrText},
		{"é", parts(r(2)), api.ErrText}, {"€", parts(d(3)), api.ErrText}, // code points, not bytes
		{"a", parts(r(1), i("b"), d(1)), api.ErrText}, {"ab", parts(i("ab")), api.ErrText}, // the base, not the outcome
		{strings.Repeat("€", 2001), parts(r(2000)), api.ErrText}, {strings.Repeat("a", 1<<20), parts(r(1)), api.ErrText},
	} {
		if out, e := apply.Do(one.text, one.l); out != "" || e != one.want {
			t.Errorf("P8.1: Do(%.40q, %s) is %.40q, %d, not %d", one.text, show(one.l), out, e, one.want)
		}
		if l, e := apply.Undo(one.text, one.l); len(l) != 0 || e != one.want {
			t.Errorf("P8.1: Undo(%.40q, %s) is %s, %d, not %d", one.text, show(one.l), show(l), e, one.want)
		}
	}
}

// TestGreatOnes asks the greatest that Check takes.
func TestGreatOnes(t *testing.T) {
	long := strings.Repeat("aé€😀", 500)
	many := turns(99)
	many[98] = r(2000 - 98)
	for _, l := range [][]api.Comp{
		parts(r(2000)), parts(d(2000)), parts(i(long), d(2000)), parts(r(1000), i(strings.Repeat("€", 500)), d(500), r(500)),
		parts(d(1999), r(1)), parts(i(strings.Repeat("😀", 1999)), d(1999), r(1)),
		many, append(slices.Clone(many), i("😀")),
	} {
		asked(t, long, l)
	}
	var edits []api.Comp
	for range 33 {
		edits = append(edits, i("é€"), d(2), r(1))
	}
	asked(t, strings.Repeat("a€😀", 33), edits)
	asked(t, "", parts(i(long)))
}

// TestIntentions holds that what was put in stands there once, that what was kept keeps its order, and that only what was deleted is gone.
func TestIntentions(t *testing.T) {
	out, e := apply.Do("abcdefgh", parts(i("1"), r(2), i("é"), d(1), r(3), i("€"), d(2)))
	if out != "1abédef€" || e != api.OK {
		t.Errorf("W4: Do is %q, %d", out, e)
	}
}

// TestHandedInStays holds that neither a list nor its spare room is changed.
func TestHandedInStays(t *testing.T) {
	l := parts(i("xy"), d(1), r(1), i("é"), d(2), r(1), d(7))
	was := slices.Clone(l)
	for n := range l {
		base := op.Base(l[:n])
		for _, text := range []string{strings.Repeat("€", base), "a", "\xff"} {
			apply.Do(text, l[:n])
			apply.Undo(text, l[:n])
		}
	}
	if !slices.Equal(l, was) {
		t.Errorf("P8.3: what was handed in is %s now", show(l))
	}
}

// overlap tells whether two texts lie in one memory.
func overlap(a, b string) bool {
	from, other := uintptr(unsafe.Pointer(unsafe.StringData(a))), uintptr(unsafe.Pointer(unsafe.StringData(b)))
	return from < other+uintptr(len(b)) && other < from+uintptr(len(a))
}

func TestAnswersAreNewMemory(t *testing.T) {
	text, put := strings.Repeat("a", 40), strings.Repeat("é", 40)
	texts := []string{text, put}
	for range 2 {
		for _, l := range [][]api.Comp{parts(r(40)), parts(i(put), d(40)), parts(r(20), i(put), r(20))} {
			out, _ := apply.Do(text, l)
			texts = append(texts, out)
		}
		undo, _ := apply.Undo(text, parts(d(40)))
		diff, _ := apply.Diff(text, put)
		texts = append(texts, undo[0].Text, diff[0].Text)
	}
	for at, a := range texts {
		for other, b := range texts[:at] {
			if overlap(a, b) {
				t.Errorf("P8.3: texts %d and %d share their memory", at, other)
			}
		}
	}
	l := parts(r(40))
	one, _ := apply.Undo(text, l)
	two, _ := apply.Undo(text, l)
	three, _ := apply.Diff(text, text)
	four, _ := apply.Diff(text, text)
	one[0], three[0] = d(1), d(1)
	if l[0] != r(40) || two[0] != r(40) || four[0] != r(40) {
		t.Errorf("P8.3: two lists share their memory: %s, %s, %s", show(l), show(two), show(four))
	}
}
