package journal_test

import (
	"bytes"
	"slices"
	"strings"
	"testing"

	"ropewalk/api"
	"ropewalk/disk"
	"ropewalk/journal"
)

const (
	least = 8
	most  = 60000
	size  = 64
)

// told is what a journal tells: its base, and its records.
type told struct {
	base    string
	records []string
}

// with is that, and one more record.
func (x told) with(s string) told { return told{x.base, append(slices.Clone(x.records), s)} }

func (x told) same(y told) bool { return x.base == y.base && slices.Equal(x.records, y.records) }

func show(j *journal.Journal) told {
	x := told{base: string(j.Base())}
	for _, b := range j.Records() {
		x.records = append(x.records, string(b))
	}
	return x
}

func tells(t *testing.T, what string, j *journal.Journal, want told) {
	t.Helper()
	if got := show(j); !got.same(want) {
		t.Errorf("%s: it tells %.200q, not %.200q", what, got, want)
	}
}

func blank(t *testing.T, sectors int) *disk.Disk {
	t.Helper()
	d, e := disk.New(sectors)
	if e != api.OK {
		t.Fatalf("New(%d) is %d", sectors, e)
	}
	return d
}

func open(t *testing.T, what string, d *disk.Disk) *journal.Journal {
	t.Helper()
	j, e := journal.Open(d)
	if j == nil || e != api.OK {
		t.Fatalf("%s: Open is %p, %d", what, j, e)
	}
	if j.Dead() {
		t.Fatalf("%s: it is opened dead", what)
	}
	return j
}

// refused asks an Open that is not OK.
func refused(t *testing.T, what string, d *disk.Disk, e api.Errno) {
	t.Helper()
	if j, f := journal.Open(d); j != nil || f != e {
		t.Errorf("%s: Open is %p, %d, not %d", what, j, f, e)
	}
}

func add(t *testing.T, what string, j *journal.Journal, s string, e api.Errno) {
	t.Helper()
	if f := j.Append([]byte(s)); f != e {
		t.Errorf("%s: Append of %d bytes is %d, not %d", what, len(s), f, e)
	}
}

func reset(t *testing.T, what string, j *journal.Journal, s string, e api.Errno) {
	t.Helper()
	if f := j.Reset([]byte(s)); f != e {
		t.Errorf("%s: Reset of %d bytes is %d, not %d", what, len(s), f, e)
	}
}

func room(t *testing.T, what string, j *journal.Journal, n int) {
	t.Helper()
	if r := j.Room(); r != n {
		t.Errorf("%s: Room is %d, not %d", what, r, n)
	}
}

// lasts asks what is there on this disk, and behind crashes of all kinds.
func lasts(t *testing.T, what string, d *disk.Disk, want told) {
	t.Helper()
	for _, picks := range [][]int{{}, {-1}, {0, 1, 1}, {-1, 1, 30}, {1, 1, 5}} {
		tells(t, what+", behind a crash", open(t, what, d.Crash(picks...)), want)
	}
	tells(t, what+", opened again", open(t, what, d), want)
}

func image(d *disk.Disk) string {
	var b []byte
	for at := range d.Sectors() {
		s, _ := d.Read(at)
		b = append(b, s...)
	}
	return string(b)
}

// dice is numbers without a plain order.
type dice uint64

func (x *dice) below(n int) int {
	*x = *x*6364136223846793005 + 1442695040888963407
	return int(uint64(*x) >> 33 % uint64(n))
}

// text is bytes of few kinds, noughts above all: such as are like what is not written.
func (x *dice) text(n int) string {
	b := make([]byte, n)
	for i := range b {
		b[i] = "\x00\x00\x00\x01\x05\x80\xffa"[x.below(8)]
	}
	return string(b)
}

func TestOpen(t *testing.T) {
	refused(t, "P6.1: nil", nil, api.ErrArg)
	for n := 1; n < least; n++ {
		d := blank(t, n)
		refused(t, "P6.1: a small one", d, api.ErrArg)
		d.Cut(0)
		refused(t, "P6.1: a small one", d, api.ErrArg)
		d.Flush()
		refused(t, "P6.1: a small one without power", d, api.ErrArg)
	}
	for _, n := range []int{least, least + 1, 10, 15, 16, 17, 101, 1000, 65536} {
		d := blank(t, n)
		tells(t, "P6.1: a new disk", open(t, "P6.1: a new disk", d), told{})
		lasts(t, "P6.1: a new disk", d, told{})
		j := open(t, "P6.1", d)
		add(t, "P6.1", j, "a", api.OK)
		lasts(t, "P6.1: one record", d, told{"", []string{"a"}})
	}
}

func TestOpenWithoutPower(t *testing.T) {
	d := blank(t, least)
	d.Cut(0)
	d.Flush()
	refused(t, "P6.1: without power", d, api.ErrOff)
	d = blank(t, least)
	add(t, "P6.1", open(t, "P6.1", d), "a", api.OK)
	d.Cut(0)
	d.Flush()
	refused(t, "P6.1: without power", d, api.ErrOff)
	tells(t, "P6.2: with power", open(t, "P6.2", d.Crash()), told{"", []string{"a"}})
}

// TestOpenIsSafe asks that what Open tells is there behind the next crash, even if the disk had it in its cache alone.
func TestOpenIsSafe(t *testing.T) {
	d := blank(t, least)
	j := open(t, "P6.1", d)
	add(t, "P6.1", j, strings.Repeat("a", 70), api.OK)
	c := blank(t, least)
	for at := range least {
		b, _ := d.Read(at)
		c.Write(at, b)
	}
	want := show(open(t, "P6.2", c))
	if !want.same(show(j)) {
		t.Errorf("P6.2: what is in the cache is %q", want)
	}
	lasts(t, "P6.2: what was in the cache", c, want)
}

func TestOrder(t *testing.T) {
	d := blank(t, 64)
	j := open(t, "P6.1", d)
	var want told
	for turn := range 9 {
		for i := range turn {
			s := strings.Repeat(string(rune('a'+i)), i*turn)
			add(t, "P6.1", j, s, api.OK)
			want = want.with(s)
			tells(t, "P6.1: a record more", j, want)
			lasts(t, "P6.1: a record more", d, want)
		}
		want = told{base: strings.Repeat("base", turn*turn%7)}
		reset(t, "P6.1", j, want.base, api.OK)
		tells(t, "P6.1: a base", j, want)
		lasts(t, "P6.1: a base", d, want)
		if turn%3 == 0 {
			j = open(t, "P6.1: again", d)
		}
	}
	if e := j.Append(nil); e != api.OK {
		t.Errorf("P6.1: Append of nil is %d", e)
	}
	lasts(t, "P6.1: a record of none", d, want.with(""))
	if e := j.Reset(nil); e != api.OK {
		t.Errorf("P6.1: Reset of nil is %d", e)
	}
	lasts(t, "P6.1: a base of none", d, told{})
}

// TestAnyBytes asks that records and bases of all bytes, noughts above all, are as they were.
func TestAnyBytes(t *testing.T) {
	all := make([]byte, 256)
	for i := range all {
		all[i] = byte(i)
	}
	for _, s := range []string{"\x00", strings.Repeat("\x00", 64), strings.Repeat("\x00", 200), strings.Repeat("\xff", 130), string(all)} {
		for n := range 70 { // all places in a sector
			d := blank(t, 32)
			j := open(t, "P6.1", d)
			reset(t, "P6.1", j, s+strings.Repeat("\x00", n), api.OK)
			add(t, "P6.1", j, s, api.OK)
			add(t, "P6.1", j, "", api.OK)
			add(t, "P6.1", j, s+"b", api.OK)
			want := told{s + strings.Repeat("\x00", n), []string{s, "", s + "b"}}
			tells(t, "P6.1: any bytes", j, want)
			tells(t, "P6.1: any bytes", open(t, "P6.1", d.Crash()), want)
		}
	}
}

func TestBig(t *testing.T) {
	long := strings.Repeat("b", most+1)
	d := blank(t, 4000)
	j := open(t, "P6.1", d)
	room(t, "P6.1: a large one", j, most)
	add(t, "P6.1: too big", j, long, api.ErrBig)
	reset(t, "P6.1: too big", j, long, api.ErrBig)
	add(t, "P6.1: too big", j, long+long, api.ErrBig)
	tells(t, "P6.1: too big", j, told{})
	add(t, "P6.1: the biggest", j, long[1:], api.OK)
	lasts(t, "P6.1: the biggest", d, told{"", []string{long[1:]}})
	reset(t, "P6.1: the biggest", j, long[1:], api.OK)
	lasts(t, "P6.1: the biggest", d, told{long[1:], nil})
	add(t, "P6.1: the biggest", j, long[1:], api.OK)
	lasts(t, "P6.1: the biggest", d, told{long[1:], []string{long[1:]}})
	small := open(t, "P6.1", blank(t, least))
	add(t, "P6.1: too big ahead of no room", small, long, api.ErrBig)
	add(t, "P6.1: no room", small, long[1:], api.ErrFull)
	reset(t, "P6.1: too big ahead of no room", small, long, api.ErrBig)
	reset(t, "P6.1: no room", small, long[1:], api.ErrFull)
	tells(t, "P6.1: refused", small, told{})
}

// TestRoom asks at each fill of small disks what Room says, of the longest record and of one byte more.
func TestRoom(t *testing.T) {
	for _, sectors := range []int{8, 9, 10, 13} {
		for base := range 64*(sectors/2) - 99 {
			d := blank(t, sectors)
			j := open(t, "P6.1", d)
			reset(t, "P6.3", j, strings.Repeat("a", base), api.OK)
			want := show(j)
			for n := j.Room(); n >= 0 && !t.Failed(); n = j.Room() {
				room(t, "P6.1: opened again", open(t, "P6.1", d), n)
				was := image(d)
				for _, more := range []int{1, 2, 40, 1000} {
					add(t, "P6.1: more than Room", j, strings.Repeat("b", n+more), api.ErrFull)
				}
				if image(d) != was {
					t.Errorf("P6.1: ErrFull, and the disk is another one")
				}
				room(t, "P6.1: nothing is changed", j, n)
				tells(t, "P6.1: nothing is changed", j, want)
				c := d.Crash()
				y := open(t, "P6.1", c)
				add(t, "P6.1: as much as Room", y, strings.Repeat("c", n), api.OK)
				tells(t, "P6.1: as much as Room", open(t, "P6.1", c.Crash()), want.with(strings.Repeat("c", n)))
				room(t, "P6.1: full", y, -1)
				m := n / 3
				add(t, "P6.1: less than Room", j, strings.Repeat("d", m), api.OK)
				want = want.with(strings.Repeat("d", m))
			}
			room(t, "P6.1: not even one of no bytes", j, -1)
			add(t, "P6.1: not even one of no bytes", j, "", api.ErrFull)
			add(t, "P6.1: not even one of no bytes", j, "b", api.ErrFull)
			tells(t, "P6.1: full", j, want)
			tells(t, "P6.1: full", open(t, "P6.1", d.Crash()), want)
		}
	}
}

// TestLargeRoom asks about the limit of a record, and where its count takes a byte more.
func TestLargeRoom(t *testing.T) {
	for _, sectors := range []int{600, 1900} {
		for base := range 70 {
			j := open(t, "P6.1", blank(t, sectors))
			reset(t, "P6.1", j, strings.Repeat("a", base), api.OK)
			for n := j.Room(); n >= 0 && !t.Failed(); n = j.Room() {
				e := api.ErrFull
				if n == most {
					e = api.ErrBig
				}
				add(t, "P6.1: more than Room", j, strings.Repeat("b", n+1), e)
				add(t, "P6.1: as much as Room", j, strings.Repeat("b", n), api.OK)
			}
			add(t, "P6.1: full", j, "", api.ErrFull)
		}
	}
}

// TestResetOfTooMuch asks bases about the size of a half: all behind the first one that is refused are refused, and nothing is changed.
func TestResetOfTooMuch(t *testing.T) {
	for _, sectors := range []int{8, 9, 64, 500} {
		half := size * (sectors / 2)
		full := false
		for n := half - 100; n < half+3; n++ {
			d := blank(t, sectors)
			j := open(t, "P6.1", d)
			reset(t, "P6.1", j, "base", api.OK)
			add(t, "P6.1", j, "a", api.OK)
			was, left := image(d), j.Room()
			base := strings.Repeat("b", n)
			switch e := j.Reset([]byte(base)); {
			case e == api.OK && !full && n < half:
				lasts(t, "P6.1: a large base", d, told{base, nil})
				continue
			case e != api.ErrFull || n == half-100:
				t.Errorf("P6.3: Reset of %d bytes in a half of %d is %d", n, half, e)
			}
			full = true
			if image(d) != was {
				t.Errorf("P6.1: ErrFull, and the disk is another one")
			}
			tells(t, "P6.1: refused", j, told{"base", []string{"a"}})
			room(t, "P6.1: refused", j, left)
			add(t, "P6.1: behind one refused", j, "c", api.OK)
			lasts(t, "P6.1: behind one refused", d, told{"base", []string{"a", "c"}})
		}
		if !full {
			t.Errorf("P6.1: a half of %d bytes takes more", half)
		}
	}
}

func TestHowMuchFindsRoom(t *testing.T) {
	for _, sectors := range []int{8, 9, 11, 16, 50, 101, 300} {
		s := sectors / 2
		for _, base := range []int{-1, 0, 1, 10, 127, 128, 129, 500, 1000, 64*s - 101, 64*s - 100} { // -1: no Reset
			if base > 64*s-100 {
				continue
			}
			for _, m := range []int{0, 1, 2, 20, 63, 64, 65, 126, 127, 128, 129, 200, 1000, 4000} {
				d := blank(t, sectors)
				j := open(t, "P6.3", d)
				if base >= 0 {
					reset(t, "P6.3: as much as it says", j, strings.Repeat("a", base), api.OK)
				}
				k := 0
				for ; j.Append(make([]byte, m)) == api.OK; k++ {
				}
				if least := (64*s - max(base, 0) - 100) / (m + 40); k < least {
					t.Errorf("P6.3: %d records of %d behind %d in %d sectors, not %d", k, m, base, s, least)
				}
				if y := open(t, "P6.3", d.Crash()); len(y.Records()) != k || len(y.Base()) != max(base, 0) {
					t.Errorf("P6.3: %d of %d records are there", len(y.Records()), k)
				}
			}
		}
	}
}

// TestManyTurns asks that what P6.3 says holds as well behind many a Reset.
func TestManyTurns(t *testing.T) {
	const half, base = 4 * size, 30
	d := blank(t, least)
	j := open(t, "P6.3", d)
	for turn := range 20000 {
		reset(t, "P6.3: many turns", j, strings.Repeat("a", base), api.OK)
		if turn%1000 > 2 {
			continue
		}
		for range (half - base - 100) / (5 + 40) {
			add(t, "P6.3: many turns", j, "12345", api.OK)
		}
		tells(t, "P6.2: many turns", open(t, "P6.2", d.Crash()), show(j))
		reset(t, "P6.3: many turns", j, strings.Repeat("b", half-100), api.OK)
	}
	lasts(t, "P6.2: many turns", d, show(j))
}

func TestDead(t *testing.T) {
	long := strings.Repeat("b", most+1)
	for _, first := range []func(j *journal.Journal) api.Errno{
		func(j *journal.Journal) api.Errno { return j.Append([]byte("b")) },
		func(j *journal.Journal) api.Errno { return j.Reset([]byte("b")) },
	} {
		d := blank(t, least)
		j := open(t, "P6.1", d)
		reset(t, "P6.1", j, "base", api.OK)
		add(t, "P6.1", j, "a", api.OK)
		d.Cut(0)
		if j.Dead() {
			t.Error("P6.1: dead ahead of an act")
		}
		add(t, "P6.1: no act", j, long, api.ErrBig)
		add(t, "P6.1: no act", j, long[:1000], api.ErrFull)
		reset(t, "P6.1: no act", j, long[:1000], api.ErrFull)
		if j.Dead() {
			t.Error("P6.1: dead of ErrBig or ErrFull")
		}
		if e := first(j); e != api.ErrOff || !j.Dead() {
			t.Errorf("P6.1: without power it is %d, Dead is %v", e, j.Dead())
		}
		for range 2 {
			add(t, "P6.1: dead", j, "", api.ErrOff)
			add(t, "P6.1: dead, ahead of no room", j, long[:1000], api.ErrOff)
			add(t, "P6.1: dead, behind too big", j, long, api.ErrBig)
			reset(t, "P6.1: dead", j, "", api.ErrOff)
			reset(t, "P6.1: dead, ahead of no room", j, long[:1000], api.ErrOff)
			reset(t, "P6.1: dead, behind too big", j, long, api.ErrBig)
			tells(t, "P6.1: dead", j, told{"base", []string{"a"}})
			room(t, "P6.1: dead: it takes none", j, -1)
			if !j.Dead() {
				t.Error("P6.1: Dead is false, later")
			}
		}
		tells(t, "P6.2: dead", open(t, "P6.2", d.Crash()), told{"base", []string{"a"}})
	}
}

func TestNil(t *testing.T) {
	var j *journal.Journal
	for range 2 {
		add(t, "P6.1: a nil one", j, "a", api.ErrOff)
		add(t, "P6.1: a nil one", j, strings.Repeat("a", most), api.ErrOff)
		add(t, "P6.1: a nil one, behind too big", j, strings.Repeat("a", most+1), api.ErrBig)
		reset(t, "P6.1: a nil one", j, "a", api.ErrOff)
		reset(t, "P6.1: a nil one, behind too big", j, strings.Repeat("a", most+1), api.ErrBig)
		tells(t, "P6.1: a nil one", j, told{})
		room(t, "P6.1: a nil one", j, 0)
		if !j.Dead() || j.Base() != nil || j.Records() != nil {
			t.Error("P6.1: a nil one is not dead, or has something")
		}
	}
}

// TestZero asks that a Journal that no Open made ends its calls without a panic.
func TestZero(t *testing.T) {
	var j journal.Journal
	for range 2 {
		if j.Append(nil) == api.OK || j.Reset(nil) == api.OK {
			t.Error("P6.1: a zero one takes something")
		}
		tells(t, "P6.1: a zero one", &j, told{})
		j.Room()
		j.Dead()
	}
}

func TestNothingHandedInIsKept(t *testing.T) {
	d := blank(t, 64)
	j := open(t, "P6.4", d)
	for i, call := range []func([]byte) api.Errno{j.Reset, j.Append, j.Append} {
		own := []byte("own and spare")
		whole := slices.Clone(own)
		if e := call(own[:3]); e != api.OK {
			t.Errorf("P6.4: it is %d", e)
		}
		if !bytes.Equal(own, whole) {
			t.Errorf("P6.4: what was handed in is %q", own)
		}
		clear(own)
		want := told{"own", slices.Repeat([]string{"own"}, i)}
		tells(t, "P6.4: what was handed in is kept", j, want)
		lasts(t, "P6.4: what was handed in is kept", d, want)
	}
}

func TestNewMemory(t *testing.T) {
	d := blank(t, 64)
	j := open(t, "P6.4", d)
	reset(t, "P6.4", j, "base", api.OK)
	add(t, "P6.4", j, "first", api.OK)
	add(t, "P6.4", j, "second", api.OK)
	want := told{"base", []string{"first", "second"}}
	for _, j := range []*journal.Journal{j, open(t, "P6.4", d), open(t, "P6.4", d.Crash())} {
		base, again := j.Base(), j.Base()
		l, more := j.Records(), j.Records()
		spoil(base)
		for _, b := range l {
			spoil(b)
			if bytes.ContainsRune(more[0], 'x') || bytes.ContainsRune(more[1], 'x') {
				t.Error("P6.4: two answers of Records share their memory")
			}
		}
		if string(l[0]) != "xxxxx" || string(l[1]) != "xxxxxx" || string(again) != "base" {
			t.Errorf("P6.4: lists of one answer share their memory: %q", l)
		}
		clear(l)
		l = append(l[:1], []byte("other"))
		tells(t, "P6.4: what is answered is new", j, want)
	}
	add(t, "P6.4", j, "third", api.OK)
	lasts(t, "P6.4: what is answered is new", d, want.with("third"))
}

// spoil writes over bytes, their spare room too.
func spoil(b []byte) {
	b = b[:cap(b)]
	for i := range b {
		b[i] = 'x'
	}
}

// TestApart asks that two journals have nothing in common.
func TestApart(t *testing.T) {
	d := blank(t, 32)
	j := open(t, "P6.1", d)
	add(t, "P6.1", j, "a", api.OK)
	c := d.Crash()
	y := open(t, "P6.1", c)
	add(t, "P6.1", j, "b", api.OK)
	add(t, "P6.1", y, "c", api.OK)
	reset(t, "P6.1", y, "base", api.OK)
	c.Cut(0)
	add(t, "P6.1", y, "d", api.ErrOff)
	add(t, "P6.1", j, "e", api.OK)
	lasts(t, "P6.1: one of two", d, told{"", []string{"a", "b", "e"}})
	tells(t, "P6.1: one of two", open(t, "P6.1", c.Crash()), told{"base", nil})
}
