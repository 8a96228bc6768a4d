package apply_test

import (
	"slices"
	"strings"
	"testing"

	"ropewalk/api"
	"ropewalk/apply"
	"ropewalk/op"
)

// texts is all texts of up to n code points of an alphabet.
func texts(n int, alphabet string) []string {
	l, from := []string{""}, 0
	for range n {
		to := len(l)
		for _, ahead := range l[from:to] {
			for _, c := range alphabet {
				l = append(l, ahead+string(c))
			}
		}
		from = to
	}
	return l
}

// diffOf is the words of the chapter, code point by code point.
func diffOf(a, b string) []api.Comp {
	x, y := []rune(a), []rune(b)
	head, tail := 0, 0
	for len(x) > 0 && len(y) > 0 && x[0] == y[0] {
		x, y, head = x[1:], y[1:], head+1
	}
	for len(x) > 0 && len(y) > 0 && x[len(x)-1] == y[len(y)-1] {
		x, y, tail = x[:len(x)-1], y[:len(y)-1], tail+1
	}
	if len(x) == 0 && len(y) == 0 {
		head, tail = head+tail, 0
	}
	l := parts(r(head), i(string(y)), d(len(x)), r(tail))
	return slices.DeleteFunc(l, func(c api.Comp) bool { return c.N == 0 && c.Text == "" })
}

// diffed is all that the chapter says of Diff of two texts.
func diffed(t *testing.T, a, b string) {
	t.Helper()
	l, e := apply.Diff(a, b)
	if want := diffOf(a, b); !slices.Equal(l, want) || e != api.OK {
		t.Errorf("P8.2: Diff(%.40q, %.40q) is %s, %d, not %s", a, b, show(l), e, show(want))
		return
	}
	out, e := apply.Do(a, l)
	if f := op.Check(l); f != e || f == api.OK && out != b {
		t.Errorf("P8.3: Do of Diff(%.40q, %.40q) is %.40q, %d", a, b, out, e)
	}
}

func TestDiff(t *testing.T) {
	for _, one := range []struct {
		a, b string
		want []api.Comp
	}{
		{"", "", nil}, {"a", "a", parts(r(1))}, {"aé€😀", "aé€😀", parts(r(4))},
		{"", "é", parts(i("é"))}, {"é€", "", parts(d(2))}, {"ab", "é", parts(i("é"), d(2))},
		{"abc", "axc", parts(r(1), i("x"), d(1), r(1))}, {"abc", "abxc", parts(r(2), i("x"), r(1))}, {"abc", "ac", parts(r(1), d(1), r(1))},
		{"abc", "abcd", parts(r(3), i("d"))}, {"abc", "xabc", parts(i("x"), r(3))}, {"abc", "ab", parts(r(2), d(1))}, {"abc", "bc", parts(d(1), r(2))},
		{"aa", "aaa", parts(r(2), i("a"))}, {"aaa", "aa", parts(r(2), d(1))}, {"abab", "ab", parts(r(2), d(2))}, {"ab", "abab", parts(r(2), i("ab"))}, // the beginning comes first
		{"aba", "a", parts(r(1), d(2))}, {"xaby", "xbay", parts(r(1), i("ba"), d(2), r(1))},
		{"é", "è", parts(i("è"), d(1))}, {"xéy", "xèy", parts(r(1), i("è"), d(1), r(1))}, // their first bytes are alike
		{"é", "©", parts(i("©"), d(1))}, {"xéy", "x©y", parts(r(1), i("©"), d(1), r(1))}, // their last bytes are alike
		{"€", "₩", parts(i("₩"), d(1))}, {"€", "₠", parts(i("₠"), d(1))}, {"éé", "é©", parts(r(1), i("©"), d(1))}, {"éé", "©é", parts(i("©"), d(1), r(1))},
		{"e\u0301", "e\u0300", parts(r(1), i("\u0300"), d(1))},
	} {
		if l, e := apply.Diff(one.a, one.b); !slices.Equal(l, one.want) || e != api.OK {
			t.Errorf("P8.2: Diff(%q, %q) is %s, %d, not %s", one.a, one.b, show(l), e, show(one.want))
		}
		diffed(t, one.a, one.b)
	}
}

// TestDiffOfAllShortOnes asks pairs whose code points have first, middle or last bytes alike.
func TestDiffOfAllShortOnes(t *testing.T) {
	for _, l := range [][]string{texts(5, "ab"), texts(3, "éè©a"), texts(2, "€₩₠ꂬ😀😁😀é¬")} {
		for _, a := range l {
			for _, b := range l {
				diffed(t, a, b)
			}
		}
	}
}

func TestDiffOfBad(t *testing.T) {
	for _, s := range bad() {
		for _, other := range []string{"", "a", s, "\xff", strings.Repeat("€", 3000)} {
			for _, two := range [][2]string{{s, other}, {other, s}} {
				if l, e := apply.Diff(two[0], two[1]); len(l) != 0 || e != api.ErrBad {
					t.Errorf("P8.2: Diff(%.40q, %.40q) is %s, %d", two[0], two[1], show(l), e)
				}
			}
		}
	}
}

// TestDiffOfGreatOnes asks the greatest that Check takes, and greater ones: no limit is asked.
func TestDiffOfGreatOnes(t *testing.T) {
	long, other := strings.Repeat("a€", 1000), strings.Repeat("😀é", 1000)
	for _, a := range []string{"", long, other, long + "x", other + other} {
		for _, b := range []string{"", long, other, "x" + long, long[:2000] + other + long[2000:], other + long + other} {
			diffed(t, a, b)
		}
	}
	huge := strings.Repeat("€", 1<<20)
	l, e := apply.Diff(huge+"a"+huge, huge+"b"+huge)
	if !slices.Equal(l, parts(r(1<<20), i("b"), d(1), r(1<<20))) || e != api.OK {
		t.Errorf("P8.2: Diff of huge ones is %s, %d", show(l), e)
	}
}
