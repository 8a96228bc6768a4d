package disk_test

import (
	"bytes"
	"math"
	"slices"
	"strings"
	"testing"

	"ropewalk/api"
	"ropewalk/disk"
)

const (
	most = 65536
	size = 64
)

var noughts = strings.Repeat("\x00", size)

// of is a sector of one letter.
func of(c string) string { return strings.Repeat(c, size) }

// torn is a sector whose first t bytes are one letter, and the others another one.
func torn(c string, t int, behind string) string { return of(c)[:t] + of(behind)[t:] }

func blank(t *testing.T, sectors int) *disk.Disk {
	t.Helper()
	d, e := disk.New(sectors)
	if d == nil || e != api.OK {
		t.Fatalf("P5.1: New(%d) is %p, %d", sectors, d, e)
	}
	return d
}

func write(t *testing.T, what string, d *disk.Disk, at int, s string, e api.Errno) {
	t.Helper()
	if f := d.Write(at, []byte(s)); f != e {
		t.Errorf("%s: Write(%d, %d bytes) is %d, not %d", what, at, len(s), f, e)
	}
}

func flush(t *testing.T, what string, d *disk.Disk, e api.Errno) {
	t.Helper()
	if f := d.Flush(); f != e {
		t.Errorf("%s: Flush is %d, not %d", what, f, e)
	}
}

// holds asks for all sectors.
func holds(t *testing.T, what string, d *disk.Disk, want ...string) {
	t.Helper()
	if n := d.Sectors(); n != len(want) {
		t.Errorf("%s: Sectors is %d, not %d", what, n, len(want))
	}
	for at, s := range want {
		if b, e := d.Read(at); string(b) != s || e != api.OK {
			t.Errorf("%s: Read(%d) is %q, %d, not %q", what, at, b, e, s)
		}
	}
}

func counts(t *testing.T, what string, d *disk.Disk, cached, ops int) {
	t.Helper()
	if c, o := d.Cached(), d.Ops(); c != cached || o != ops {
		t.Errorf("%s: Cached and Ops are %d and %d, not %d and %d", what, c, o, cached, ops)
	}
}

func TestNew(t *testing.T) {
	for _, n := range []int{0, -1, -2, -64, -most, math.MinInt, most + 1, most + 2, 2 * most, 1<<32 + 1, math.MaxInt} {
		if d, e := disk.New(n); d != nil || e != api.ErrArg {
			t.Errorf("P5.1: New(%d) is %p, %d", n, d, e)
		}
	}
	for _, n := range []int{1, 2, 3, 63, 64, 65, 1000, most - 1, most} {
		d := blank(t, n)
		counts(t, "P5.1: a new one", d, 0, 0)
		holds(t, "P5.1: a new one", d, slices.Repeat([]string{noughts}, n)...)
	}
}

// edges is sectors that a disk of n of them has not.
func edges(n int) []int {
	return []int{n, n + 1, n + 2, 2 * n, most, math.MaxInt, -1, -2, -n, math.MinInt}
}

func TestRead(t *testing.T) {
	for _, n := range []int{1, 2, 5} {
		d := blank(t, n)
		for _, at := range edges(n) {
			if b, e := d.Read(at); b != nil || e != api.ErrArg {
				t.Errorf("P5.1: Read(%d) of %d sectors is %v, %d", at, n, b, e)
			}
		}
		counts(t, "P5.1: Read is no act", d, 0, 0)
	}
}

func TestWrite(t *testing.T) {
	d := blank(t, 3)
	write(t, "P5.1", d, 0, of("a"), api.OK)
	write(t, "P5.1", d, 2, of("b"), api.OK)
	holds(t, "P5.1: what was written", d, of("a"), noughts, of("b"))
	write(t, "P5.1", d, 0, of("c"), api.OK)
	holds(t, "P5.1: what was written last", d, of("c"), noughts, of("b"))
	counts(t, "P5.1: three writes", d, 3, 3)
	flush(t, "P5.1", d, api.OK)
	holds(t, "P5.1: what is safe", d, of("c"), noughts, of("b"))
	counts(t, "P5.1: a flush", d, 0, 4)
	write(t, "P5.1", d, 2, torn("d", 63, "e"), api.OK)
	holds(t, "P5.1: over what is safe", d, of("c"), noughts, torn("d", 63, "e"))
	counts(t, "P5.1: one more", d, 1, 5)
}

func TestWrongWrites(t *testing.T) {
	d := blank(t, 3)
	write(t, "P5.1", d, 1, of("a"), api.OK)
	ops := 1
	for _, at := range edges(3) {
		for _, s := range []string{of("b"), "", "b"} {
			write(t, "P5.1: no such sector", d, at, s, api.ErrArg)
			ops++
		}
	}
	for _, n := range []int{0, 1, 32, 62, 63, 65, 66, 128, 640} {
		for at := range 3 {
			write(t, "P5.1: not 64 bytes", d, at, strings.Repeat("b", n), api.ErrArg)
			ops++
		}
	}
	if e := d.Write(0, nil); e != api.ErrArg {
		t.Errorf("P5.1: Write of nil is %d", e)
	}
	counts(t, "P5.1: refused ones are asked for", d, 1, ops+1)
	holds(t, "P5.1: refused ones", d, noughts, of("a"), noughts)
	holds(t, "P5.2: refused ones", d.Crash(-1), noughts, of("a"), noughts)
}

// TestCut asks each kind of act behind n that are come to.
func TestCut(t *testing.T) {
	for n := range 6 {
		for _, last := range []bool{false, true} {
			d := blank(t, 3)
			write(t, "P5.1: ahead of Cut", d, 0, of("a"), api.OK)
			flush(t, "P5.1: ahead of Cut", d, api.OK)
			d.Cut(n)
			cached := 0
			for i := range n {
				write(t, "P5.1: come to", d, 1, of("bcdef"[i:i+1]), api.OK)
				cached++
			}
			want := []string{of("a"), noughts, noughts}
			if n > 0 {
				want[1] = of("bcdef"[n-1 : n])
			}
			if last {
				flush(t, "P5.1: not come to", d, api.ErrOff)
			} else {
				write(t, "P5.1: not come to", d, 2, of("z"), api.ErrOff)
			}
			counts(t, "P5.1: the power is off", d, cached, 3+n)
			holds(t, "P5.1: also without power", d, want...)
			holds(t, "P5.2: without power", d.Crash(-1), want...)
			holds(t, "P5.2: without power", d.Crash(), of("a"), noughts, noughts)
			offForGood(t, d, cached, 3+n)
			holds(t, "P5.1: off for good", d, want...)
		}
	}
}

// offForGood asks all acts, wrong ones too, with Cuts between.
func offForGood(t *testing.T, d *disk.Disk, cached, ops int) {
	t.Helper()
	for _, n := range []int{3, 0, -1, math.MaxInt, math.MinInt} {
		for range 2 {
			write(t, "P5.1: off for good", d, 0, of("y"), api.ErrOff)
			write(t, "P5.1: off ahead of all", d, d.Sectors(), of("y"), api.ErrOff)
			write(t, "P5.1: off ahead of all", d, -1, "", api.ErrOff)
			write(t, "P5.1: off ahead of all", d, 0, "y", api.ErrOff)
			flush(t, "P5.1: off for good", d, api.ErrOff)
			ops += 5
			counts(t, "P5.1: off for good", d, cached, ops)
		}
		if b, e := d.Read(d.Sectors()); b != nil || e != api.ErrArg {
			t.Errorf("P5.1: Read without power of no sector is %v, %d", b, e)
		}
		d.Cut(n)
	}
}

// TestCutCountsRefused asks that refused acts count, and that calls that are no acts do not.
func TestCutCountsRefused(t *testing.T) {
	d := blank(t, 2)
	d.Cut(4)
	write(t, "P5.1", d, 9, of("a"), api.ErrArg)
	for range 3 {
		d.Read(0)
		d.Read(-1)
		d.Sectors()
		d.Cached()
		d.Ops()
		d.Crash(1, 1, 1)
	}
	write(t, "P5.1", d, 0, "a", api.ErrArg)
	write(t, "P5.1", d, 0, of("b"), api.OK)
	flush(t, "P5.1: the fourth one", d, api.OK)
	write(t, "P5.1: the fifth one", d, 9, of("a"), api.ErrOff)
	counts(t, "P5.1: what Cut counts", d, 0, 5)
	holds(t, "P5.1: what Cut counts", d, of("b"), noughts)
}

func TestCutOfNone(t *testing.T) {
	for _, n := range []int{0, -1, -2, -100, math.MinInt} {
		d := blank(t, 1)
		d.Cut(n)
		flush(t, "P5.1: Cut of none", d, api.ErrOff)
		d = blank(t, 1)
		d.Cut(3)
		d.Cut(n)
		write(t, "P5.1: Cut of none", d, 0, of("a"), api.ErrOff)
		counts(t, "P5.1: Cut of none", d, 0, 1)
	}
}

// TestCutAgain asks that another Cut counts in place of the first one, as long as the power is there.
func TestCutAgain(t *testing.T) {
	for first := range 4 {
		for ahead := range first + 1 { // the last time none is left to come to, but the power is there
			for second := range 5 {
				d := blank(t, 1)
				d.Cut(first)
				for range ahead {
					flush(t, "P5.1: ahead of the second Cut", d, api.OK)
				}
				d.Cut(second)
				for range second {
					write(t, "P5.1: the second Cut", d, 0, of("a"), api.OK)
				}
				write(t, "P5.1: the second Cut", d, 0, of("a"), api.ErrOff)
				d.Cut(9)
				flush(t, "P5.1: off for good", d, api.ErrOff)
			}
		}
	}
	d := blank(t, 1)
	d.Cut(0)
	d.Cut(math.MaxInt)
	for range 100 {
		flush(t, "P5.1: a far Cut", d, api.OK)
	}
	counts(t, "P5.1: a far Cut", d, 0, 100)
}

func TestNil(t *testing.T) {
	var d *disk.Disk
	d.Cut(1)
	for range 2 {
		write(t, "P5.1: a nil one", d, 0, of("a"), api.ErrOff)
		write(t, "P5.1: a nil one", d, -1, "", api.ErrOff)
		flush(t, "P5.1: a nil one", d, api.ErrOff)
		for _, at := range []int{0, 1, -1, math.MaxInt, math.MinInt} {
			if b, e := d.Read(at); b != nil || e != api.ErrArg {
				t.Errorf("P5.1: Read(%d) of a nil one is %v, %d", at, b, e)
			}
		}
		holds(t, "P5.1: a nil one", d)
		counts(t, "P5.1: a nil one", d, 0, 0)
		d.Cut(0)
		if d.Crash() != nil || d.Crash(1, 2, 3) != nil {
			t.Error("P5.1: Crash of a nil one is one")
		}
	}
}

// letters is a disk of three sectors, a, b, and noughts safe, with writes over them in its cache: c and d to 0, e to 2, f to 1.
func letters(t *testing.T) *disk.Disk {
	t.Helper()
	d := blank(t, 3)
	write(t, "P5.2", d, 0, of("a"), api.OK)
	write(t, "P5.2", d, 1, of("b"), api.OK)
	flush(t, "P5.2", d, api.OK)
	for at, s := range []string{"c", "d", "e", "f"} {
		write(t, "P5.2", d, []int{0, 0, 2, 1}[at], of(s), api.OK)
	}
	return d
}

func TestSurvive(t *testing.T) {
	d := letters(t)
	for pick, want := range []string{"ab.", "cb.", "db.", "db.", "abe", "cbe", "dbe", "dbe", "af.", "cf.", "df.", "df.", "afe", "cfe", "dfe", "dfe"} {
		for _, p := range []int{pick, pick - 16, pick + 1<<40, pick - 1<<50, pick | math.MinInt, pick&15 | math.MaxInt&^15} {
			for _, picks := range [][]int{{p}, {p, 0}, {p, 0, 9}, {p, -1, 9}, {p, math.MinInt, 9}, {p, 1, 64}, {p, 3, -1}} {
				c := d.Crash(picks...)
				holds(t, "P5.2: survivors", c, spread(want)...)
				counts(t, "P5.2: survivors", c, 0, 0)
			}
		}
	}
	holds(t, "P5.2: no pick", d.Crash(), spread("ab.")...)
	holds(t, "P5.2: this one stays", d, spread("dfe")...)
	counts(t, "P5.2: this one stays", d, 4, 7)
}

// spread is sectors of one letter each; a dot is noughts.
func spread(letters string) (l []string) {
	for _, c := range strings.Split(letters, "") {
		l = append(l, of(strings.ReplaceAll(c, ".", "\x00")))
	}
	return l
}

// TestDigits asks which digit says what: the thirty least ones, and then the same again.
func TestDigits(t *testing.T) {
	const n = 100
	d := blank(t, n)
	for k := range n {
		write(t, "P5.2", d, k, of("a"), api.OK)
	}
	for digit := range 64 {
		want := slices.Repeat([]string{noughts}, n)
		for k := digit; k < n && digit < 30; k += 30 {
			want[k] = of("a")
		}
		holds(t, "P5.2: one digit", d.Crash(1<<digit), want...)
		for k := range want {
			want[k] = map[string]string{noughts: of("a"), of("a"): noughts}[want[k]]
		}
		holds(t, "P5.2: all digits but one", d.Crash(^(1 << digit)), want...)
	}
}

func TestTorn(t *testing.T) {
	d := letters(t)
	a, b, c, e := of("a"), of("b"), of("c"), of("e")
	for _, x := range []struct {
		picks []int
		want  []string
	}{
		{[]int{1, 1}, []string{a, b, noughts}},
		{[]int{1, 1, 0}, []string{a, b, noughts}},
		{[]int{1, 1, 1}, []string{torn("c", 1, "a"), b, noughts}},
		{[]int{1, 7, 63}, []string{torn("c", 63, "a"), b, noughts}},
		{[]int{1, math.MaxInt, 64}, []string{c, b, noughts}},
		{[]int{3, 1, 10}, []string{torn("d", 10, "c"), b, noughts}}, // as it was ahead of it, not as it was safe
		{[]int{2, 1, 10}, []string{torn("d", 10, "a"), b, noughts}},
		{[]int{3, 2, 10}, []string{of("d"), b, noughts}}, // the torn one is written over
		{[]int{3, 1, 0}, []string{c, b, noughts}},
		{[]int{3, 1}, []string{c, b, noughts}},
		{[]int{13, 3, 20}, []string{torn("c", 20, "a"), of("f"), e}},
		{[]int{13, 4, 20}, []string{c, of("f"), torn("e", 20, "\x00")}},
		{[]int{13, 5, 20}, []string{c, torn("f", 20, "b"), e}},
		{[]int{13, 6, 20}, []string{torn("c", 20, "a"), of("f"), e}},
		{[]int{-1, 3, 5}, []string{of("d"), torn("f", 5, "b"), e}},
		{[]int{0, 1, 10}, []string{a, b, noughts}}, // none survives: none is torn
		{[]int{16, math.MaxInt, 10}, []string{a, b, noughts}},
	} {
		holds(t, "P5.2: torn", d.Crash(x.picks...), x.want...)
	}
	holds(t, "P5.2: this one stays", d, spread("dfe")...)
}

// TestHowMuchIsThere asks all remainders by 65, of picks above and below 0.
func TestHowMuchIsThere(t *testing.T) {
	d := letters(t)
	for p := -300; p <= 300; p++ {
		n := (p + 65*10) % 65
		holds(t, "P5.2: how much is there", d.Crash(8, 1, p), of("a"), torn("f", n, "b"), noughts)
		holds(t, "P5.2: more picks say nothing", d.Crash(8, 1, p, p, -1, 7), of("a"), torn("f", n, "b"), noughts)
	}
	for _, c := range []struct{ pick, n int }{{math.MaxInt, 7}, {math.MinInt, 57}, {math.MinInt + 1, 58}, {1 << 32, 61}, {-1 << 32, 4}} {
		holds(t, "P5.2: how much is there", d.Crash(8, 1, c.pick), of("a"), torn("f", c.n, "b"), noughts)
	}
}

// TestCrashIsSafe asks that all of another disk is safe, that it has power, and that it and the first one have nothing in common.
func TestCrashIsSafe(t *testing.T) {
	d := letters(t)
	d.Cut(0)
	first, second := d.Crash(15), d.Crash(15)
	flush(t, "P5.2", d, api.ErrOff)
	third := d.Crash(15)
	for _, c := range []*disk.Disk{first, second, third} {
		holds(t, "P5.2: all of it is safe", c.Crash(), spread("dfe")...)
		counts(t, "P5.2: another one", c, 0, 0)
		write(t, "P5.2: with power", c, 1, of("g"), api.OK)
		holds(t, "P5.2: its own cache", c.Crash(), spread("dfe")...)
		holds(t, "P5.2: its own cache", c.Crash(1), spread("dge")...)
		flush(t, "P5.2: with power", c, api.OK)
		holds(t, "P5.2: its own", c, spread("dge")...)
		holds(t, "P5.2: its own", c.Crash(), spread("dge")...)
		counts(t, "P5.2: its own", c, 0, 2)
		c.Cut(0)
		write(t, "P5.2: its own power", c, 1, of("h"), api.ErrOff)
		holds(t, "P5.2: this one stays", d, spread("dfe")...)
		holds(t, "P5.2: this one stays", d.Crash(), spread("ab.")...)
		counts(t, "P5.2: this one stays", d, 4, 8)
	}
}

// TestFlushed asks that what was flushed is there behind each crash, and what was written over it is as Crash says.
func TestFlushed(t *testing.T) {
	d := blank(t, 4)
	for at, s := range []string{"a", "b", "c", "d"} {
		write(t, "P5.3", d, at, of(s), api.OK)
		if at > 0 {
			flush(t, "P5.3", d, api.OK)
		}
	}
	write(t, "P5.3", d, 2, of("x"), api.OK)
	for _, picks := range [][]int{{}, {0}, {1}, {-1}, {-1, 1}, {-1, 1, 30}, {2, 2, 2}, {math.MinInt, math.MinInt, math.MinInt}} {
		for c := d.Crash(picks...); ; c = c.Crash(picks...) {
			for at, s := range []string{"a", "b", "", "d"} {
				if b, _ := c.Read(at); s != "" && string(b) != of(s) {
					t.Errorf("P5.3: behind Crash(%v) Read(%d) is %q", picks, at, b)
				}
			}
			if len(picks) == 0 {
				break
			}
			picks = picks[1:]
		}
	}
	write(t, "P5.3", d, 0, of("y"), api.OK)
	flush(t, "P5.3: the last one", d, api.OK)
	holds(t, "P5.3: the last one", d.Crash(), spread("ybxd")...)
	d.Cut(0)
	flush(t, "P5.3: off", d, api.ErrOff)
	holds(t, "P5.3: off", d.Crash(), spread("ybxd")...)
}

// TestFlushOfNone asks that a flush that is not come to makes nothing safe.
func TestFlushOfNone(t *testing.T) {
	d := blank(t, 1)
	flush(t, "P5.1: of nothing", d, api.OK)
	write(t, "P5.1", d, 0, of("a"), api.OK)
	d.Cut(0)
	flush(t, "P5.1: off", d, api.ErrOff)
	counts(t, "P5.1: off", d, 1, 3)
	holds(t, "P5.1: off", d, of("a"))
	holds(t, "P5.2: off", d.Crash(), noughts)
	holds(t, "P5.2: off", d.Crash(1), of("a"))
}

func TestNothingHandedInIsKept(t *testing.T) {
	d := blank(t, 2)
	room := []byte(of("a") + "spare")
	whole := slices.Clone(room)
	if e := d.Write(0, room[:size]); e != api.OK {
		t.Errorf("P5.1: Write is %d", e)
	}
	if e := d.Write(1, room[:size:size]); e != api.OK {
		t.Errorf("P5.1: Write is %d", e)
	}
	picks := []int{-1, 1, 70, 5}
	d.Crash(picks...)
	d.Crash(picks[:1]...)
	if !bytes.Equal(room, whole) || !slices.Equal(picks, []int{-1, 1, 70, 5}) {
		t.Errorf("P5.3: what was handed in is changed: %q, %v", room, picks)
	}
	clear(room)
	holds(t, "P5.3: the cache keeps what was handed in", d, of("a"), of("a"))
	holds(t, "P5.3: the cache keeps what was handed in", d.Crash(3), of("a"), of("a"))
	flush(t, "P5.3", d, api.OK)
	holds(t, "P5.3: the disk keeps what was handed in", d.Crash(), of("a"), of("a"))
}

func TestNewMemory(t *testing.T) {
	d := blank(t, 3)
	write(t, "P5.3", d, 0, of("a"), api.OK)
	flush(t, "P5.3", d, api.OK)
	write(t, "P5.3", d, 1, of("b"), api.OK)
	c := d.Crash(1)
	for range 2 {
		for _, x := range []*disk.Disk{d, c} {
			for at := range 3 {
				b, _ := x.Read(at)
				again, _ := x.Read(at)
				b = b[:cap(b)]
				for i := range b {
					b[i] = 'x'
				}
				if bytes.ContainsRune(again, 'x') {
					t.Errorf("P5.3: two answers of Read(%d) share their memory", at)
				}
			}
			holds(t, "P5.3: what is answered is new", x, of("a"), of("b"), noughts)
		}
		holds(t, "P5.3: what is answered is new", d.Crash(), of("a"), noughts, noughts)
		holds(t, "P5.3: what is answered is new", d.Crash(1), of("a"), of("b"), noughts)
		holds(t, "P5.3: what is answered is new", c.Crash(), of("a"), of("b"), noughts)
	}
	holds(t, "P5.3: two disks have nothing in common", blank(t, 3), noughts, noughts, noughts)
}

// spelt is a disk by its words: all that was written, what of it is safe, and all acts counted.
type spelt struct {
	sectors int
	writes  []put // all there ever were
	safe    int   // so many of them are
	ops     int
	through int // acts that are come to, from now on: -1 without a Cut
	off     bool
}

type put struct {
	at   int
	s    string
	t    int // so many bytes of it are there
	lost bool
}

// read is what was written there last by the first writes of l.
func read(l []put, at int) string {
	s := noughts
	for _, p := range l {
		if p.at == at && !p.lost {
			s = p.s[:p.t] + s[p.t:]
		}
	}
	return s
}

// act tells whether the power is there.
func (s *spelt) act() bool {
	s.ops++
	if !s.off && s.through == 0 {
		s.off = true
	}
	if s.through > 0 {
		s.through--
	}
	return !s.off
}

func (s *spelt) write(at int, b string) api.Errno {
	if !s.act() {
		return api.ErrOff
	}
	if at < 0 || at >= s.sectors || len(b) != size {
		return api.ErrArg
	}
	s.writes = append(s.writes, put{at: at, s: b, t: size})
	return api.OK
}

func (s *spelt) flush() api.Errno {
	if !s.act() {
		return api.ErrOff
	}
	s.safe = len(s.writes)
	return api.OK
}

func (s *spelt) crash(first, second, third int) *spelt {
	var left []int
	l := slices.Clone(s.writes)
	for i := s.safe; i < len(l); i++ {
		digits := uint64(int64(first))
		for range (i - s.safe) % 30 {
			digits /= 2
		}
		if l[i].lost = digits%2 == 0; !l[i].lost {
			left = append(left, i)
		}
	}
	if second > 0 && len(left) > 0 {
		l[left[second%len(left)]].t = (third%65 + 65) % 65
	}
	return &spelt{sectors: s.sectors, writes: l, safe: len(l), through: -1}
}

func alike(t *testing.T, what string, d *disk.Disk, s *spelt) {
	t.Helper()
	var want []string
	for at := range s.sectors {
		want = append(want, read(s.writes, at))
	}
	holds(t, what, d, want...)
	counts(t, what, d, len(s.writes)-s.safe, s.ops)
}

// dice is numbers without a plain order.
type dice uint64

func (x *dice) below(n int) int {
	*x = *x*6364136223846793005 + 1442695040888963407
	return int(uint64(*x) >> 33 % uint64(n))
}

// sector is bytes without a plain order; now and then too few or too many.
func (x *dice) sector() string {
	b := make([]byte, size)
	for i := range b {
		b[i] = byte(x.below(256))
	}
	switch x.below(40) {
	case 0:
		return string(b[1:])
	case 1:
		return string(b) + "x"
	}
	return string(b)
}

// TestLongRuns holds disks against the chapter's words, act by act, crash by crash.
func TestLongRuns(t *testing.T) {
	for seed := range 150 {
		x := dice(seed)
		n := 1 + x.below(8)
		d, s := blank(t, n), &spelt{sectors: n, through: -1}
		for range 120 {
			step(t, &x, d, s)
			first, second, third := x.below(1<<31)-1<<30, x.below(60)-15, x.below(1000)-500
			c, w := d.Crash(first, second, third), s.crash(first, second, third)
			alike(t, "P5.2: a crash in a long run", c, w)
			alike(t, "P5.1: a long run", d, s)
			if x.below(30) == 0 {
				d, s = c, w
			}
			if t.Failed() {
				t.Fatalf("seed %d", seed)
			}
		}
	}
}

// step does one thing to both.
func step(t *testing.T, x *dice, d *disk.Disk, s *spelt) {
	t.Helper()
	switch x.below(60) {
	case 0:
		n := x.below(30) - 3
		d.Cut(n)
		s.through = max(n, 0)
	case 1, 2:
		if e, f := d.Flush(), s.flush(); e != f {
			t.Errorf("P5.1: Flush in a long run is %d, not %d", e, f)
		}
	default:
		at, b := x.below(s.sectors+2)-1, x.sector()
		if e, f := d.Write(at, []byte(b)), s.write(at, b); e != f {
			t.Errorf("P5.1: Write(%d, %d bytes) in a long run is %d, not %d", at, len(b), e, f)
		}
	}
}

// TestLarge asks the largest disk, each sector written twice without a flush.
func TestLarge(t *testing.T) {
	d := blank(t, most)
	for _, c := range []string{"a", "b"} {
		for at := range most {
			write(t, "P5.1: a large one", d, at, of(c), api.OK)
		}
	}
	holds(t, "P5.1: a large one", d, slices.Repeat([]string{of("b")}, most)...)
	counts(t, "P5.1: a large one", d, 2*most, 2*most)
	want := slices.Repeat([]string{of("b")}, most)
	want[3] = torn("b", 7, "a")
	holds(t, "P5.2: a large one", d.Crash(-1, most+3, 7), want...)
	flush(t, "P5.1: a large one", d, api.OK)
	want[3] = of("b")
	holds(t, "P5.2: a large one", d.Crash(), want...)
}
