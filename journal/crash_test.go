package journal_test

import (
	"slices"
	"strings"
	"testing"

	"ropewalk/api"
	"ropewalk/disk"
	"ropewalk/journal"
)

// one is an Append or a Reset.
type one struct {
	reset bool
	s     string
}

func (a one) do(j *journal.Journal) api.Errno {
	if a.reset {
		return j.Reset([]byte(a.s))
	}
	return j.Append([]byte(a.s))
}

// behind is what a journal tells behind it.
func (a one) behind(x told) told {
	if a.reset {
		return told{base: a.s}
	}
	return x.with(a.s)
}

// crashes is all that a crash may leave of a disk, or so many of them as are enough: each choice of survivors, torn here and there.
func crashes(d *disk.Disk, x *dice) (l []*disk.Disk) {
	n := d.Cached()
	if n > 6 {
		for range 40 {
			l = append(l, d.Crash(x.below(1<<31), x.below(20), x.below(65)))
		}
		return append(l, d.Crash(), d.Crash(-1), d.Crash(-1, 1, 1), d.Crash(1), d.Crash(-2))
	}
	for pick := range 1 << n {
		l = append(l, d.Crash(pick))
		for tear := range n {
			for _, there := range []int{1, 5, 1 + x.below(64)} {
				l = append(l, d.Crash(pick, tear+1, there))
			}
		}
	}
	return l
}

// oneOf asks what is there behind a crash: what was, or what is. It is there for good, and one can go on.
func oneOf(t *testing.T, what string, d *disk.Disk, was, now told) {
	t.Helper()
	j := open(t, what, d)
	got := show(j)
	if !got.same(was) && !got.same(now) {
		t.Fatalf("%s: it tells %.300q, not %.300q, nor %.300q", what, got, was, now)
	}
	lasts(t, what, d, got)
	e := j.Append([]byte("more"))
	if full := j.Room() < 4; e != api.OK && !(full && e == api.ErrFull) {
		t.Fatalf("%s: Append is %d", what, e)
	}
	if e == api.OK {
		got = got.with("more")
	}
	tells(t, what, open(t, what, d.Crash()), got)
	reset(t, what, j, "anew", api.OK)
	tells(t, what, open(t, what, d.Crash()), told{base: "anew"})
}

// TestCuts takes the power away at each act of each of these, and asks what each crash leaves.
func TestCuts(t *testing.T) {
	x := dice(6)
	long := strings.Repeat("long", 45)
	for _, acts := range [][]one{
		{{false, "a"}},
		{{false, ""}, {false, ""}},
		{{false, long}, {false, "b"}, {false, long}},
		{{true, "base"}, {false, "a"}},
		{{true, ""}, {true, ""}, {true, ""}},
		{{false, long}, {true, long}, {false, long}, {true, "b"}, {false, "c"}, {true, long}},
		{{false, "a"}, {true, "b"}, {false, "a"}, {true, "b"}, {false, "a"}},
		{{true, strings.Repeat("\x00", 150)}, {false, strings.Repeat("\x00", 150)}, {true, strings.Repeat("\x00", 100)}},
	} {
		for cut := 0; cutAt(t, &x, 16, acts, cut); cut++ {
		}
	}
}

// cutAt does acts till the power is off, and tells whether it ever was.
func cutAt(t *testing.T, x *dice, sectors int, acts []one, cut int) bool {
	t.Helper()
	d := blank(t, sectors)
	d.Cut(cut)
	var was told
	j, e := journal.Open(d)
	now := was
	for _, a := range acts {
		if e != api.OK {
			break
		}
		now = a.behind(was)
		if e = a.do(j); e == api.OK {
			was = now
		}
	}
	if e != api.OK && e != api.ErrOff {
		t.Fatalf("P6.1: an act is %d", e)
	}
	if e == api.ErrOff && j != nil {
		tells(t, "P6.1: dead", j, was)
	}
	for _, c := range crashes(d, x) {
		cutInOpen(t, x, c, was, now)
		oneOf(t, "P6.2: a cut", c, was, now)
	}
	return e == api.ErrOff
}

// cutInOpen takes the power away at each act of Open, once more in the Open behind that, and asks what is left.
func cutInOpen(t *testing.T, x *dice, d *disk.Disk, was, now told) {
	t.Helper()
	told := show(open(t, "P6.2", d.Crash()))
	for cut := 0; ; cut++ {
		c := d.Crash()
		c.Cut(cut)
		j, e := journal.Open(c)
		if e == api.OK {
			tells(t, "P6.2: a cut in Open", j, told)
			return
		}
		if j != nil || e != api.ErrOff {
			t.Fatalf("P6.2: a cut in Open: it is %p, %d", j, e)
		}
		y := c.Crash(x.below(1<<31), x.below(4), x.below(65))
		tells(t, "P6.2: a cut in Open", open(t, "P6.2", y.Crash()), told)
		y.Cut(x.below(4))
		if j, e := journal.Open(y); e == api.OK {
			tells(t, "P6.2: a cut in two Opens", j, told)
		}
		oneOf(t, "P6.2: a cut in two Opens", y.Crash(x.below(1<<31), x.below(4), x.below(65)), was, now)
	}
}

// TestOtherHalf asks that Reset does no act on the half that has the elder base.
func TestOtherHalf(t *testing.T) {
	for _, sectors := range []int{16, 17} {
		d := blank(t, sectors)
		j := open(t, "P6.1", d)
		before := -1
		for turn := range 6 {
			add(t, "P6.1", j, strings.Repeat("a", 40*turn), api.OK)
			was := image(d)
			reset(t, "P6.1", j, strings.Repeat("b", 30*turn), api.OK)
			now := image(d)
			changed := -1
			for half := range 2 {
				from := half * (sectors / 2) * size
				if now[from:from+sectors/2*size] == was[from:from+sectors/2*size] {
					continue
				}
				if changed >= 0 {
					t.Fatal("P6.1: Reset writes to both halves")
				}
				changed = half
			}
			if changed < 0 || changed == before {
				t.Fatalf("P6.1: Reset writes to half %d behind half %d", changed, before)
			}
			before = changed
		}
	}
}

// TestLongRuns goes on from crash to crash, and holds the journal against the chapter's words.
func TestLongRuns(t *testing.T) {
	for seed := range 120 {
		x := dice(seed)
		d := blank(t, least+x.below(24))
		j := open(t, "P6.2", d)
		var was told
		for range 60 {
			d.Cut(x.below(40))
			was, j, d = runOn(t, &x, d, j, was)
			if t.Failed() {
				t.Fatalf("seed %d", seed)
			}
		}
	}
}

// runOn does acts till the power is off; then it opens what a crash left, with the power going within Open now and then.
func runOn(t *testing.T, x *dice, d *disk.Disk, j *journal.Journal, was told) (told, *journal.Journal, *disk.Disk) {
	t.Helper()
	now := was
	for !j.Dead() {
		a := one{x.below(5) == 0, x.text(x.below(150))}
		now = a.behind(was)
		switch e := a.do(j); {
		case e == api.OK:
			was = now
		case e == api.ErrFull && a.reset:
			t.Fatalf("P6.3: Reset of %d bytes in %d sectors is ErrFull", len(a.s), d.Sectors())
		case e == api.ErrFull:
			now = told{}
			if j.Reset(nil) == api.OK {
				was = now
			}
		case e != api.ErrOff:
			t.Fatalf("P6.1: an act is %d", e)
		}
		tells(t, "P6.1: a long run", j, was)
	}
	d = d.Crash(x.below(1<<31), x.below(6), x.below(65))
	for x.below(2) == 0 {
		d.Cut(x.below(6))
		journal.Open(d)
		d = d.Crash(x.below(1<<31), x.below(6), x.below(65))
	}
	j = open(t, "P6.2: a long run", d)
	got := show(j)
	if !got.same(was) && !got.same(now) {
		t.Fatalf("P6.2: a long run tells %.300q, not %.300q, nor %.300q", got, was, now)
	}
	return got, j, d
}

// tornOff does an act of which all but the last step, the flush, is come to.
func tornOff(t *testing.T, d *disk.Disk, j *journal.Journal, a one) {
	t.Helper()
	twin := d.Crash()
	y := open(t, "P6.2", twin)
	ops := twin.Ops()
	if e := a.do(y); e != api.OK {
		t.Fatalf("P6.1: an act is %d", e)
	}
	d.Cut(twin.Ops() - ops - 1)
	if e := a.do(j); e != api.ErrOff || d.Cached() == 0 {
		t.Fatalf("P6.1: an act without its flush is %d", e)
	}
}

// TestEveryLengthTorn tears records of each length at each place of a sector.
func TestEveryLengthTorn(t *testing.T) {
	for n := range 140 {
		d := blank(t, 32)
		j := open(t, "P6.2", d)
		add(t, "P6.2", j, strings.Repeat("\x01", n), api.OK)
		was, now := show(j), show(j).with(strings.Repeat("\x02", 139-n))
		tornOff(t, d, j, one{false, now.records[1]})
		for there := range 65 {
			for pick := 1; pick < 8; pick++ {
				c := d.Crash(pick, 1+there%3, there)
				got := show(open(t, "P6.2", c))
				if !got.same(was) && !got.same(now) {
					t.Fatalf("P6.2: torn at %d: %.200q, not %.200q", there, got, was)
				}
				tells(t, "P6.2: opened twice", open(t, "P6.2", c.Crash()), got)
			}
		}
	}
}

// TestNothingElderComesBack asks that records of an elder turn, though they stand where the next ones would, are none.
func TestNothingElderComesBack(t *testing.T) {
	for _, base := range []string{"", "base", strings.Repeat("b", 64), strings.Repeat("\x00", 90)} {
		d := blank(t, 16)
		j := open(t, "P6.1", d)
		for turn := range 12 {
			reset(t, "P6.1", j, base, api.OK)
			lasts(t, "P6.1: no records", d, told{base, nil})
			if turn%3 == 2 {
				j = open(t, "P6.1", d)
			}
			want := told{base: base}
			for i := range 5 - turn%5 { // fewer each time: what stood behind them stays none
				s := string(rune('a' + i))
				add(t, "P6.1", j, s, api.OK)
				want = want.with(s)
				lasts(t, "P6.1: these records alone", d, want)
			}
		}
	}
}

// TestTornReset asks that a base has no records, wherever the power goes, though records of an elder turn stand where its own would, and it may end at any byte.
func TestTornReset(t *testing.T) {
	x := dice(7)
	for n := range 3 * size {
		d := blank(t, 32)
		j := open(t, "P6.2", d)
		now := told{base: strings.Repeat("b", n)}
		reset(t, "P6.2", j, now.base, api.OK)
		add(t, "P6.2", j, "elder", api.OK)
		add(t, "P6.2", j, strings.Repeat("elder", 20), api.OK)
		reset(t, "P6.2", j, "", api.OK)
		tornOff(t, d, j, one{true, now.base})
		for _, c := range crashes(d, &x) {
			oneOf(t, "P6.2: a torn base", c, told{}, now)
		}
	}
}

// TestLeftBytes asks that what is left of a torn record is none, though its bytes are those of the records that a journal has there, and the first one of these may end at any byte.
func TestLeftBytes(t *testing.T) {
	for n := range 3 * size / 2 {
		run := []string{strings.Repeat("a", n), "second", "third"}
		d := blank(t, 32)
		j := open(t, "P6.2", d)
		for _, s := range run {
			add(t, "P6.2", j, s, api.OK)
		}
		all := image(d)[:5*size]
		for from := range 16 { // at one of these each byte stands where it stood
			c, y := left(t, all[from:])
			tornOff(t, c, y, one{false, run[0]})
			for pick := range 1 << c.Cached() {
				oneOf(t, "P6.2: behind what is left", c.Crash(pick), told{}, told{"", run[:1]})
			}
			c, y = left(t, all[from:])
			for i, s := range run {
				add(t, "P6.2: behind what is left", y, s, api.OK)
				tells(t, "P6.2: behind what is left", open(t, "P6.2", c.Crash()), told{"", run[:i+1]})
			}
		}
	}
}

// left is a disk and a journal on which a record was torn: all of it but its first sector is there.
func left(t *testing.T, s string) (*disk.Disk, *journal.Journal) {
	t.Helper()
	d := blank(t, 32)
	tornOff(t, d, open(t, "P6.2", d), one{false, s})
	d = d.Crash(-2)
	j := open(t, "P6.2", d)
	tells(t, "P6.2: what is left", j, told{})
	return d, j
}

// TestBytesOfJournals asks that records and bases that are another journal's bytes are bytes, and no more.
func TestBytesOfJournals(t *testing.T) {
	d := blank(t, 16)
	j := open(t, "P6.1", d)
	add(t, "P6.1", j, "elder", api.OK)
	reset(t, "P6.1", j, "base", api.OK)
	add(t, "P6.1", j, "a", api.OK)
	reset(t, "P6.1", j, "base", api.OK)
	add(t, "P6.1", j, "b", api.OK)
	s := image(d)
	for from := range 2 * size {
		d := blank(t, 128)
		j := open(t, "P6.1", d)
		want := told{base: s[from:]}
		for range 3 {
			reset(t, "P6.1", j, s[from:], api.OK)
			add(t, "P6.1", j, s[from:], api.OK)
			lasts(t, "P6.1: a journal's bytes", d, want.with(s[from:]))
			reset(t, "P6.1", j, "", api.OK)
			add(t, "P6.1", j, "c", api.OK)
			lasts(t, "P6.1: a journal's bytes", d, told{"", []string{"c"}})
		}
	}
}

// TestAnyDisk asks that a disk on which anything stands is opened, and lasts from then on.
func TestAnyDisk(t *testing.T) {
	for seed := range 300 {
		x := dice(seed)
		d := blank(t, least+x.below(20))
		fill := slices.Repeat([]byte{byte(x.below(256))}, size)
		for at := range d.Sectors() {
			if seed%2 == 0 {
				fill = []byte(x.text(size))
			}
			d.Write(at, fill)
		}
		if seed%3 == 0 {
			d.Flush()
		}
		j := open(t, "P6.1: any disk", d)
		was := show(j)
		lasts(t, "P6.1: any disk", d, was)
		if j.Append([]byte("a")) == api.OK {
			was = was.with("a")
		}
		lasts(t, "P6.1: any disk", d, was)
		reset(t, "P6.1: any disk", j, "base", api.OK)
		add(t, "P6.1: any disk", j, "b", api.OK)
		lasts(t, "P6.1: any disk", d, told{"base", []string{"b"}})
	}
}
