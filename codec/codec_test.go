package codec_test

import (
	"bytes"
	"math"
	"reflect"
	"slices"
	"strings"
	"testing"
	"unsafe"

	"ropewalk/api"
	"ropewalk/codec"
)

const most = 1 << 40 // the greatest number that fits

// The bytes of each field by the chapter's words.

func number(n int) string {
	s := string([]byte{byte(n & 127)})
	for n >>= 7; n > 0; n >>= 7 {
		s = string([]byte{byte(n&127) | 128}) + s
	}
	return s
}

func text(s string) string { return number(len(s)) + s }

func flag(b bool) string {
	if b {
		return "\x01"
	}
	return "\x00"
}

func listed[T any](l []T, one func(T) string) string {
	s := number(len(l))
	for _, x := range l {
		s += one(x)
	}
	return s
}

func comps(l []api.Comp) string {
	return listed(l, func(c api.Comp) string { return number(c.Kind) + number(c.N) + text(c.Text) })
}

func acts(l []api.Act) string {
	return listed(l, func(a api.Act) string {
		return number(a.Kind) + number(a.ID) + number(a.Parent) + text(a.Name) + flag(a.Dir) + comps(a.Ops)
	})
}

func nodes(l []api.Node) string {
	return listed(l, func(n api.Node) string {
		return number(n.ID) + number(n.Parent) + text(n.Name) + flag(n.Dir) + text(n.Text)
	})
}

// field is one that may be written: how it is written, what its bytes are, and what reads it.
type field struct {
	name  string
	write func(w *codec.Writer) *codec.Writer
	bytes string
	read  func(r *codec.Reader) any
	value any
}

func readNum(r *codec.Reader) any   { return r.Num() }
func readFlag(r *codec.Reader) any  { return r.Flag() }
func readComps(r *codec.Reader) any { return r.Comps() }
func readActs(r *codec.Reader) any  { return r.Acts() }
func readNodes(r *codec.Reader) any { return r.Nodes() }

func readText(most int) func(r *codec.Reader) any {
	return func(r *codec.Reader) any { return r.Text(most) }
}

func ofNum(n int) field {
	return field{"Num", func(w *codec.Writer) *codec.Writer { return w.Num(n) }, number(n), readNum, n}
}

func ofText(s string) field {
	return field{"Text", func(w *codec.Writer) *codec.Writer { return w.Text(s) }, text(s), readText(len(s)), s}
}

func ofFlag(b bool) field {
	return field{"Flag", func(w *codec.Writer) *codec.Writer { return w.Flag(b) }, flag(b), readFlag, b}
}

func ofComps(l []api.Comp) field {
	return field{"Comps", func(w *codec.Writer) *codec.Writer { return w.Comps(l) }, comps(l), readComps, l}
}

func ofActs(l []api.Act) field {
	return field{"Acts", func(w *codec.Writer) *codec.Writer { return w.Acts(l) }, acts(l), readActs, l}
}

func ofNodes(l []api.Node) field {
	return field{"Nodes", func(w *codec.Writer) *codec.Writer { return w.Nodes(l) }, nodes(l), readNodes, l}
}

var (
	someComps = []api.Comp{{Kind: api.Retain, N: 300}, {Kind: api.Insert, Text: "é€😀\n"}, {Kind: api.Delete, N: 1}, {}, {Kind: most, N: most, Text: "x"}}
	someActs  = []api.Act{
		{Kind: api.Create, ID: 8, Parent: 2, Name: "née", Dir: true}, {Kind: api.Edit, ID: 7, Ops: someComps}, {},
		{Kind: most, ID: most, Parent: most, Name: "n", Dir: true, Ops: []api.Comp{{Kind: 9}}},
	}
	someNodes = []api.Node{{ID: 1, Name: "d", Dir: true}, {ID: 200, Parent: 1, Name: "f", Text: "a\u0301\r\n"}, {}, {ID: most, Parent: most, Name: "é", Dir: true, Text: "t"}}
)

// short is fields of few bytes each, of every kind.
func short() []field {
	return []field{
		ofNum(0), ofNum(1), ofNum(127), ofNum(128), ofNum(130), ofNum(16383), ofNum(16384), ofNum(1 << 32), ofNum(most - 1), ofNum(most),
		ofText(""), ofText("a"), ofText("aé"), ofText("\x01\n"), ofText("😀\U0010ffff"), ofText(strings.Repeat("a", 128)),
		ofFlag(true), ofFlag(false), ofComps(nil), ofComps(someComps), ofActs(nil), ofActs(someActs), ofNodes(nil), ofNodes(someNodes),
	}
}

// atLimit is fields than which no greater ones are read.
func atLimit() []field {
	name, long := strings.Repeat("é", 50), strings.Repeat("😀", api.MaxText)
	wide := []api.Comp{{Kind: api.Insert, Text: long}, {Text: strings.Repeat("a", 4*api.MaxText)}}
	many := slices.Repeat([]api.Comp{{Kind: api.Insert, N: 3, Text: "x"}}, api.MaxComps)
	return []field{
		ofText(strings.Repeat("€", 100000)), ofComps(wide), ofComps(many),
		ofActs([]api.Act{{Name: name, Ops: wide}, {Name: strings.Repeat("n", 100), Ops: many}}), ofActs(slices.Repeat([]api.Act{{Kind: 1, Ops: many}}, api.MaxActs)),
		ofNodes([]api.Node{{Name: name, Text: long}}), ofNodes(slices.Repeat([]api.Node{{ID: 1}}, api.MaxNodes)),
	}
}

// alike holds values against each other; nil and an empty list mean the same.
func alike(a, b any) bool {
	v, w := reflect.ValueOf(a), reflect.ValueOf(b)
	switch {
	case v.Type() != w.Type() || v.Kind() == reflect.Slice && v.Len() != w.Len():
		return false
	case v.Kind() == reflect.Slice:
		for i := range v.Len() {
			if !alike(v.Index(i).Interface(), w.Index(i).Interface()) {
				return false
			}
		}
		return true
	case v.Kind() == reflect.Struct:
		for i := range v.NumField() {
			if !alike(v.Field(i).Interface(), w.Field(i).Interface()) {
				return false
			}
		}
		return true
	}
	return a == b
}

// none tells whether x is 0, false, or of no items.
func none(x any) bool { return alike(x, reflect.Zero(reflect.TypeOf(x)).Interface()) }

// done asks what a Writer has.
func done(t *testing.T, what string, w *codec.Writer, want string) {
	t.Helper()
	if b, ok := w.Done(); string(b) != want || !ok {
		t.Errorf("%s: Done is %q, %v; want %q", what, b, ok, want)
	}
}

// refused asks that a Writer has nothing.
func refused(t *testing.T, what string, w *codec.Writer) {
	t.Helper()
	if b, ok := w.Done(); len(b) != 0 || ok {
		t.Errorf("%s: Done is %q, %v", what, b, ok)
	}
}

// state asks what a Reader has left, and its error.
func state(t *testing.T, what string, r *codec.Reader, left int, e api.Errno) {
	t.Helper()
	if r.Left() != left || r.Err() != e {
		t.Errorf("%s: %d are left, the error is %d; want %d, %d", what, r.Left(), r.Err(), left, e)
	}
}

// stays asks that a Reader tells nothing from now on but its error.
func stays(t *testing.T, what string, r *codec.Reader, e api.Errno) {
	t.Helper()
	state(t, what, r, 0, e)
	for _, read := range []func(*codec.Reader) any{readNum, readText(math.MaxInt), readText(-1), readFlag, readComps, readActs, readNodes, readNum} {
		if x := read(r); !none(x) {
			t.Errorf("%s: behind the error it reads %v", what, x)
		}
		state(t, what, r, 0, e)
	}
}

// fails asks that s, whatever stands behind it, is read as nothing.
func fails(t *testing.T, what, s string, read func(*codec.Reader) any, e api.Errno) {
	t.Helper()
	for _, ahead := range []field{ofNum(5), ofText("a"), ofNodes(someNodes)} {
		for _, r := range []*codec.Reader{codec.NewReader([]byte(s)), codec.NewReader([]byte(ahead.bytes + s))} {
			if r.Left() > len(s) {
				ahead.read(r)
			}
			if x := read(r); !none(x) {
				t.Errorf("%s: %q is read as %v", what, s, x)
			}
			stays(t, what, r, e)
		}
	}
}

func TestExample(t *testing.T) {
	done(t, "P4.1", new(codec.Writer).Flag(true), "\x01")
}

func TestEachField(t *testing.T) {
	for _, f := range append(short(), atLimit()...) {
		var w codec.Writer
		if f.write(&w) != &w {
			t.Errorf("P4.1: %s tells another Writer", f.name)
		}
		done(t, "P4.1: "+f.name, &w, f.bytes)
		done(t, "P4.1: "+f.name+" again", &w, f.bytes)
		r := codec.NewReader([]byte(f.bytes))
		state(t, "P4.2: a new one", r, len(f.bytes), api.OK)
		if x := f.read(r); !alike(x, f.value) {
			t.Errorf("P4.3: %s is read as %v", f.name, x)
		}
		state(t, "P4.2: "+f.name, r, 0, api.OK)
	}
}

func TestOneBehindAnother(t *testing.T) {
	var w codec.Writer
	all := ""
	l := append(short(), short()...)
	slices.Reverse(l[:len(l)/2])
	for _, f := range l {
		f.write(&w)
		all += f.bytes
		done(t, "P4.1: "+f.name, &w, all)
	}
	r := codec.NewReader([]byte(all))
	for _, f := range l {
		if x := f.read(r); !alike(x, f.value) {
			t.Errorf("P4.3: %s is read as %v", f.name, x)
		}
		all = all[len(f.bytes):]
		state(t, "P4.2: "+f.name, r, len(all), api.OK)
	}
	fails(t, "P4.2: the end", "", readNum, api.ErrBad)
}

func TestNothing(t *testing.T) {
	done(t, "P4.1: a zero one", &codec.Writer{}, "")
	for _, b := range [][]byte{nil, {}} {
		r := codec.NewReader(b)
		state(t, "P4.2: of nothing", r, 0, api.OK)
		for _, f := range short() {
			fails(t, "P4.2: "+f.name+" of nothing", "", f.read, api.ErrBad)
		}
	}
	state(t, "P4.2: a zero one", &codec.Reader{}, 0, api.OK)
}

func TestNilOnes(t *testing.T) {
	var w *codec.Writer
	for _, f := range short() {
		if f.write(w) != nil {
			t.Errorf("P4.1: %s of a nil Writer tells one", f.name)
		}
	}
	refused(t, "P4.1: a nil one", w)
	stays(t, "P4.2: a nil one", nil, api.ErrBad)
}

// wrong is what makes a Writer bad.
func wrong() []field {
	var l []field
	for _, n := range []int{-1, -most, math.MinInt, most + 1, 1 << 41, math.MaxInt} {
		for _, c := range []api.Comp{{Kind: n}, {N: n}} {
			l = append(l, wrongComp(c)...)
		}
		for _, a := range []api.Act{{Kind: n}, {ID: n}, {Parent: n}} {
			l = append(l, wrongAct(a))
		}
		for _, x := range []api.Node{{ID: n}, {Parent: n}} {
			l = append(l, wrongNode(x))
		}
		l = append(l, field{name: "Num", write: func(w *codec.Writer) *codec.Writer { return w.Num(n) }})
	}
	for _, s := range []string{"\x00", "a\x00", "\xff", "\xc3", "é\x80", "\xed\xa0\x80", "\xc0\x80", strings.Repeat("a", 9000) + "\x00"} {
		l = append(l, wrongComp(api.Comp{Text: s})...)
		l = append(l, wrongAct(api.Act{Name: s}), wrongNode(api.Node{Name: s}), wrongNode(api.Node{Text: s}))
		l = append(l, field{name: "Text", write: func(w *codec.Writer) *codec.Writer { return w.Text(s) }})
	}
	return l
}

func wrongComp(c api.Comp) []field {
	l := append(slices.Clone(someComps), c)
	return []field{
		{name: "Comps", write: func(w *codec.Writer) *codec.Writer { return w.Comps(append(l, someComps...)) }},
		wrongAct(api.Act{Ops: l}),
	}
}

func wrongAct(a api.Act) field {
	l := slices.Concat(someActs, []api.Act{a}, someActs)
	return field{name: "Acts", write: func(w *codec.Writer) *codec.Writer { return w.Acts(l) }}
}

func wrongNode(n api.Node) field {
	l := slices.Concat(someNodes, []api.Node{n}, someNodes)
	return field{name: "Nodes", write: func(w *codec.Writer) *codec.Writer { return w.Nodes(l) }}
}

func TestBadWriter(t *testing.T) {
	for _, f := range wrong() {
		for _, ahead := range []codec.Writer{{}, *new(codec.Writer).Text("a").Num(3)} {
			w := ahead
			if f.write(&w) != &w {
				t.Errorf("P4.1: a wrong %s tells another Writer", f.name)
			}
			refused(t, "P4.1: a wrong "+f.name, &w)
			for _, behind := range short() {
				if behind.write(&w) != &w {
					t.Errorf("P4.1: %s of a bad Writer tells another one", behind.name)
				}
				refused(t, "P4.1: "+behind.name+" behind a wrong "+f.name, &w)
			}
		}
	}
}

// TestNoLimitsOfWriter asks that what a Reader refuses for its size is written.
func TestNoLimitsOfWriter(t *testing.T) {
	for _, f := range append(tooBig(), ofText(strings.Repeat("a", 1<<20))) {
		done(t, "P4.1: a great "+f.name, f.write(new(codec.Writer)), f.bytes)
	}
}

// tooBig is fields that are one above a limit.
func tooBig() []field {
	name, long := strings.Repeat("é", 50)+"x", strings.Repeat("a", 4*api.MaxText+1)
	comps := slices.Repeat(someComps[:1], api.MaxComps+1)
	return []field{
		ofComps([]api.Comp{{}, {Text: long}}), ofComps(comps), ofComps(slices.Repeat(comps, 3)),
		ofActs([]api.Act{{}, {Name: name}}), ofActs([]api.Act{{}, {Ops: comps}}), ofActs([]api.Act{{Ops: []api.Comp{{Text: long}}}}), ofActs(make([]api.Act, api.MaxActs+1)),
		ofNodes([]api.Node{{}, {Name: name}}), ofNodes([]api.Node{{}, {Text: long}}), ofNodes(make([]api.Node, api.MaxNodes+1)),
	}
}

func TestTooBig(t *testing.T) {
	for _, f := range tooBig() {
		fails(t, "P4.2: "+f.name, f.bytes, f.read, api.ErrBig)
		fails(t, "P4.2: "+f.name, f.bytes+"behind", f.read, api.ErrBig)
	}
	for _, f := range []struct {
		most int
		read func(*codec.Reader) any
	}{{api.MaxComps, readComps}, {api.MaxActs, readActs}, {api.MaxNodes, readNodes}} {
		for _, n := range []int{f.most + 1, f.most + 2, 1 << 20, most} {
			fails(t, "P4.2: the count at once", number(n), f.read, api.ErrBig)
			fails(t, "P4.2: the count at once", number(n)+"\xff\xff\x80", f.read, api.ErrBig)
		}
		fails(t, "P4.2: the count that may be", number(f.most), f.read, api.ErrBad)
	}
}

func TestText(t *testing.T) {
	for _, c := range []struct {
		bytes string
		most  int
		e     api.Errno
	}{
		{"\x02ab", 2, api.OK}, {"\x02ab", 3, api.OK}, {"\x02ab", math.MaxInt, api.OK}, {"\x02é", 2, api.OK}, {"\x00", 0, api.OK}, {"\x00", 5, api.OK},
		{"\x02ab", 1, api.ErrBig}, {"\x02ab", 0, api.ErrBig}, {"\x02ab", math.MinInt, api.ErrBig}, {"\x02é", 1, api.ErrBig}, {"\x00", -1, api.ErrBig},
		{"\x03ab", 3, api.ErrBad}, {"\x03ab", 2, api.ErrBad}, {"\x03ab", 0, api.ErrBad}, {"\x01", 1, api.ErrBad}, {number(most), math.MaxInt, api.ErrBad}, {number(most), 0, api.ErrBad},
		{"\x01\x00", 1, api.ErrBad}, {"\x01\x00", 0, api.ErrBad}, {"\x02a\xff", 2, api.ErrBad}, {"\x02a\xff", 1, api.ErrBad}, {"\x02a\xff", -1, api.ErrBad}, {"\x01é", 1, api.ErrBad},
		{"", 1, api.ErrBad}, {"\x80", 1, api.ErrBad}, {"\x80\x01a", 1, api.ErrBad}, {"\x81", 1, api.ErrBad}, {"\xff\xff\xff\xff\xff\xff\x01", 1, api.ErrBad},
	} {
		if c.e != api.OK {
			fails(t, "P4.2: Text", c.bytes, readText(c.most), c.e)
			continue
		}
		r := codec.NewReader([]byte(c.bytes + "\xff\x00"))
		if s := r.Text(c.most); s != c.bytes[1:] {
			t.Errorf("P4.2: Text of %q is %q", c.bytes, s)
		}
		state(t, "P4.2: Text", r, 2, api.OK)
	}
}

func TestFlagAndNum(t *testing.T) {
	for _, n := range []int{2, 3, 127, 128, 129, 256, 1 << 32, most - 1, most} {
		fails(t, "P4.2: Flag", number(n), readFlag, api.ErrBad)
		fails(t, "P4.2: Flag in Acts", "\x01\x01\x01\x01\x01n"+number(n)+"\x00", readActs, api.ErrBad)
		fails(t, "P4.2: Flag in Nodes", "\x01\x01\x01\x01n"+number(n)+"\x00", readNodes, api.ErrBad)
	}
	for _, s := range []string{"\x80", "\x80\x01", "\x80\x00", "\x81", "\x81\x80", "\xa0\x80\x80\x80\x80\x01", "\xff\xff\xff\xff\xff\xff\xff\xff\xff\xff\xff\x01"} {
		for _, f := range short() {
			fails(t, "P4.2: "+f.name, s, f.read, api.ErrBad)
		}
	}
}

// TestOrder asks that of two wrong parts the first one is told.
func TestOrder(t *testing.T) {
	long, name := text(strings.Repeat("a", 4*api.MaxText+1)), text(strings.Repeat("a", 101))
	for _, c := range []struct {
		bytes string
		read  func(*codec.Reader) any
		e     api.Errno
	}{
		{"\x02\x01\x80" + long, readComps, api.ErrBad}, {"\x02\x01\x01" + long + "\x80", readComps, api.ErrBig},
		{"\x01\x01\x01\x01" + name + "\x02\x00", readActs, api.ErrBig}, {"\x01\x01\x01\x80" + name + "\x02\x00", readActs, api.ErrBad},
		{"\x01\x01\x01\x01\x00\x02\x65", readActs, api.ErrBad}, {"\x01\x01\x01\x01\x00\x01\x65", readActs, api.ErrBig},
		{"\x01\x01\x01" + name + "\x02" + long, readNodes, api.ErrBig}, {"\x01\x01\x01\x01n\x02" + long, readNodes, api.ErrBad}, {"\x01\x01\x01\x01n\x01" + long, readNodes, api.ErrBig},
	} {
		fails(t, "P4.2: the order", c.bytes, c.read, c.e)
	}
}

// TestCutOff asks all that is cut off, and all that has one wrong byte.
func TestCutOff(t *testing.T) {
	for _, f := range short() {
		for i := range len(f.bytes) {
			fails(t, "P4.2: "+f.name+" cut off", f.bytes[:i], f.read, api.ErrBad)
			b := []byte(f.bytes)
			for _, c := range []byte{0, 1, 2, 100, 127, 128, 129, 255} {
				b[i] = c
				readsOneForm(t, f, string(b))
			}
		}
	}
}

// readsOneForm asks that whatever is read of s is what is written so.
func readsOneForm(t *testing.T, f field, s string) {
	t.Helper()
	r := codec.NewReader([]byte(s))
	var w codec.Writer
	x := f.read(r)
	switch v := x.(type) {
	case int:
		w.Num(v)
	case string:
		w.Text(v)
	case bool:
		w.Flag(v)
	case []api.Comp:
		w.Comps(v)
	case []api.Act:
		w.Acts(v)
	case []api.Node:
		w.Nodes(v)
	}
	b, ok := w.Done()
	if r.Err() != api.OK {
		if !none(x) || r.Left() != 0 {
			t.Errorf("P4.2: %q is read as %v beside error %d", s, x, r.Err())
		}
	} else if !ok || string(b)+s[len(s)-r.Left():] != s {
		t.Errorf("P4.3: %q is read as %v, %d left, and written as %q", s, x, r.Left(), b)
	}
}

// TestCopies asks that a copy of a Writer and of a Reader goes its own way.
func TestCopies(t *testing.T) {
	for n := range 70 { // however much spare room there is
		var a codec.Writer
		for range n {
			a.Num(1)
		}
		b := a
		all := strings.Repeat("\x01", n)
		a.Num(2)
		b.Num(3)
		c := b
		b.Text("b")
		a.Text("a")
		c.Num(-1)
		done(t, "P4.1: the first one", &a, all+"\x02\x01a")
		done(t, "P4.1: its copy", &b, all+"\x03\x01b")
		refused(t, "P4.1: a bad copy", &c)
	}
	r := codec.NewReader([]byte("\x01\x02\x80"))
	copied := *r
	r.Num()
	r.Num()
	r.Num()
	state(t, "P4.2: the first one", r, 0, api.ErrBad)
	state(t, "P4.2: its copy", &copied, 3, api.OK)
	if n := copied.Num(); n != 1 {
		t.Errorf("P4.2: a copy reads %d", n)
	}
}

func TestNewMemoryOfWriter(t *testing.T) {
	w := new(codec.Writer).Text("abc")
	b, _ := w.Done()
	again, _ := w.Done()
	for i := range b {
		b[i] = 'x'
	}
	_ = append(b, "yyyyyyyy"...)
	_ = append(again[:0], "zzz"...)
	done(t, "P4.3: Done", w, "\x03abc")
	done(t, "P4.3: Done", w.Num(1), "\x03abc\x01")
}

func TestNewMemoryOfReader(t *testing.T) {
	all := comps(someComps) + acts(someActs) + nodes(someNodes) + text("aé")
	room := []byte(all + "spare")
	r := codec.NewReader(room[:len(all)])
	if string(room) != all+"spare" {
		t.Errorf("P4.3: NewReader changed what was handed in")
	}
	for i := range room {
		room[i] = 'x'
	}
	c, a, n, s := r.Comps(), r.Acts(), r.Nodes(), r.Text(3)
	if !alike(c, someComps) || !alike(a, someActs) || !alike(n, someNodes) || s != "aé" {
		t.Errorf("P4.3: a Reader keeps what was handed in: %v, %v, %v, %q", c, a, n, s)
	}
	if !bytes.Equal(room, bytes.Repeat([]byte("x"), len(room))) {
		t.Errorf("P4.3: a Reader changed what was handed in")
	}
	for i := range a[1].Ops {
		a[1].Ops[i].Kind = 77
	}
	_ = append(a[1].Ops[:1], api.Comp{Kind: 78})
	_ = append(a[:1], api.Act{Kind: 78})
	if !alike(c, someComps) || !alike(a[3], someActs[3]) {
		t.Errorf("P4.3: two lists share their memory")
	}
}

// TestNewMemoryOfTexts asks that no text lies in another one's memory, nor in what was written.
func TestNewMemoryOfTexts(t *testing.T) {
	ahead := strings.Repeat("a", 40)
	b, _ := new(codec.Writer).Text(ahead).Text(ahead).Done()
	s := unsafe.String(&b[0], len(b))
	x, y := codec.NewReader(b), codec.NewReader(b)
	first, second, other := x.Text(40), x.Text(40), y.Text(40)
	l := []string{s, first, second, other, ahead}
	for i, v := range l {
		for _, w := range l[:i] {
			if from, to := unsafe.StringData(v), unsafe.StringData(w); uintptr(unsafe.Pointer(from)) < uintptr(unsafe.Pointer(to))+uintptr(len(w)) && uintptr(unsafe.Pointer(to)) < uintptr(unsafe.Pointer(from))+uintptr(len(v)) {
				t.Errorf("P4.3: two texts share their memory")
			}
		}
	}
}

func TestWriterChangesNothing(t *testing.T) {
	c, a, n := slices.Clone(someComps), slices.Clone(someActs), slices.Clone(someNodes)
	a[1].Ops = append(slices.Clone(someComps), api.Comp{Kind: 5})[:len(someComps)]
	w := new(codec.Writer).Comps(c[:2]).Acts(a[:3]).Nodes(n[:2])
	if !alike(c, someComps) || !alike(a, someActs) || !alike(n, someNodes) || a[1].Ops[:len(someComps)+1][len(someComps)].Kind != 5 {
		t.Errorf("P4.3: a Writer changed what was handed in")
	}
	want := comps(c[:2]) + acts(a[:3]) + nodes(n[:2])
	clear(a[1].Ops)
	clear(a)
	clear(c)
	clear(n)
	done(t, "P4.3: a Writer keeps what was handed in", w, want)
}
