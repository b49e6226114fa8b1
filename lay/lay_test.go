package lay

import (
	"bytes"
	"math"
	"slices"
	"testing"

	"saddlebag/api"
)

// P1.1: each number, and each text, in the one form that the chapter gives it.
func TestPutForms(t *testing.T) {
	numbers := []struct {
		v    uint64
		want string
	}{
		{0, "\x00"},
		{1, "\x01\x01"},
		{127, "\x01\x7f"},
		{128, "\x01\x80"},
		{255, "\x01\xff"},
		{256, "\x02\x01\x00"},
		{258, "\x02\x01\x02"},
		{65535, "\x02\xff\xff"},
		{65536, "\x03\x01\x00\x00"},
		{1<<32 - 1, "\x04\xff\xff\xff\xff"},
		{1 << 32, "\x05\x01\x00\x00\x00\x00"},
		{1<<56 - 1, "\x07\xff\xff\xff\xff\xff\xff\xff"},
		{1 << 56, "\x08\x01\x00\x00\x00\x00\x00\x00\x00"},
		{0x0102030405060708, "\x08\x01\x02\x03\x04\x05\x06\x07\x08"},
		{math.MaxUint64, "\x08\xff\xff\xff\xff\xff\xff\xff\xff"},
	}
	var all []uint64
	var joined string
	for _, c := range numbers {
		if got := PutNumber(nil, c.v); string(got) != c.want {
			t.Errorf("%d: %x, not %x", c.v, got, c.want)
		}
		all = append(all, c.v)
		joined += c.want
	}
	if got := PutNumber([]byte("ahead"), all...); string(got) != "ahead"+joined {
		t.Errorf("all in order: %x", got)
	}

	long := string(bytes.Repeat([]byte{0xfe}, 256))
	texts := []struct{ s, want string }{
		{"", "\x00"},
		{"a", "\x01\x01a"},
		{"\x00", "\x01\x01\x00"},
		{"\xff\x80", "\x01\x02\xff\x80"},
		{long, "\x02\x01\x00" + long},
	}
	var list []string
	joined = ""
	for _, c := range texts {
		if got := PutText(nil, c.s); string(got) != c.want {
			t.Errorf("%q: %x, not %x", c.s, got, c.want)
		}
		list = append(list, c.s)
		joined += c.want
	}
	if got := PutText([]byte("ahead"), list...); string(got) != "ahead"+joined {
		t.Errorf("all in order: %x", got)
	}
}

// P1.1: new memory, whatever spare room was handed in, and though nothing is laid.
func TestPutNewMemory(t *testing.T) {
	puts := map[string]func(b []byte) []byte{
		"number":    func(b []byte) []byte { return PutNumber(b, 1, 258) },
		"no number": func(b []byte) []byte { return PutNumber(b) },
		"text":      func(b []byte) []byte { return PutText(b, "xyz", "") },
		"no text":   func(b []byte) []byte { return PutText(b) },
	}
	for name, put := range puts {
		for many := 0; many <= 4; many++ {
			under := bytes.Repeat([]byte{'u'}, 64)
			b := under[:many]
			got := put(b)
			if !bytes.HasPrefix(got, b) {
				t.Errorf("%s %d: %x is not behind %x", name, many, got, b)
			}
			clear(got[:cap(got)])
			if !bytes.Equal(under, bytes.Repeat([]byte{'u'}, 64)) {
				t.Errorf("%s %d: what was handed in changed: %q", name, many, under)
			}
			first, second := put(b), put(b)
			clear(first[:cap(first)])
			if !bytes.Equal(second, put(b)) {
				t.Errorf("%s %d: two answers share memory", name, many)
			}
		}
	}
	v, s := []uint64{7, 8, 9}, []string{"p", "q", "r"}
	PutNumber(nil, v[:2]...)
	PutText(nil, s[:2]...)
	if !slices.Equal(v, []uint64{7, 8, 9}) || !slices.Equal(s, []string{"p", "q", "r"}) {
		t.Error("a list that was handed in changed", v, s)
	}
}

func TestPutNothing(t *testing.T) {
	if got := PutNumber(nil); len(got) != 0 {
		t.Errorf("%x", got)
	}
	if got := PutText(nil); len(got) != 0 {
		t.Errorf("%x", got)
	}
	if got := PutNumber([]byte("b")); string(got) != "b" {
		t.Errorf("%x", got)
	}
	if got := PutText([]byte("b")); string(got) != "b" {
		t.Errorf("%x", got)
	}
}

// P1.2: numbers, and their errors in the order in which they are named.
func TestNumber(t *testing.T) {
	cases := []struct {
		in   string
		want uint64
		left int
		bad  api.Errno
	}{
		{"\x00", 0, 0, api.OK},
		{"\x00rest", 0, 4, api.OK},
		{"\x01\x01", 1, 0, api.OK},
		{"\x02\x01\x02", 258, 0, api.OK},
		{"\x02\x01\x00x", 256, 1, api.OK},
		{"\x08\xff\xff\xff\xff\xff\xff\xff\xff", math.MaxUint64, 0, api.OK},
		{"\x08\x80\x00\x00\x00\x00\x00\x00\x00\x09", 1 << 63, 1, api.OK},
		{"", 0, 0, api.ErrEnd},
		{"\x01", 0, 0, api.ErrEnd},
		{"\x02\x01", 0, 0, api.ErrEnd},
		{"\x08\x01\x01\x01\x01\x01\x01\x01", 0, 0, api.ErrEnd},
		{"\x02\x00", 0, 0, api.ErrEnd}, // missing is named ahead of the 0
		{"\x01\x00", 0, 0, api.ErrForm},
		{"\x01\x00more", 0, 0, api.ErrForm},
		{"\x02\x00\x01", 0, 0, api.ErrForm},
		{"\x08\x00\x01\x01\x01\x01\x01\x01\x01", 0, 0, api.ErrForm},
		{"\x09", 0, 0, api.ErrForm}, // above 8 is named ahead of missing
		{"\x09\x01\x01\x01\x01\x01\x01\x01\x01\x01", 0, 0, api.ErrForm},
		{"\x80", 0, 0, api.ErrForm},
		{"\xff\x01", 0, 0, api.ErrForm},
	}
	for _, c := range cases {
		r := Read(c.in)
		if v := r.Number(); v != c.want || r.Bad() != c.bad || r.Left() != c.left {
			t.Errorf("%x: %d, bad %d, left %d", c.in, v, int(r.Bad()), r.Left())
		}
	}
}

// P1.3: Small is Number, and what is above most is too great, for every most.
func TestSmall(t *testing.T) {
	cases := []struct {
		in   string
		most int
		want int
		bad  api.Errno
	}{
		{"\x01\x05", 5, 5, api.OK},
		{"\x01\x05", 6, 5, api.OK},
		{"\x01\x05", 4, 0, api.ErrBig},
		{"\x01\x05", 0, 0, api.ErrBig},
		{"\x01\x05", -1, 0, api.ErrBig},
		{"\x00", 0, 0, api.OK},
		{"\x00", -1, 0, api.ErrBig},
		{"\x00", math.MinInt, 0, api.ErrBig},
		{"\x01\x01", math.MinInt, 0, api.ErrBig},
		{string(PutNumber(nil, math.MaxInt)), math.MaxInt, math.MaxInt, api.OK},
		{string(PutNumber(nil, math.MaxInt)), math.MaxInt - 1, 0, api.ErrBig},
		{string(PutNumber(nil, math.MaxInt+1)), math.MaxInt, 0, api.ErrBig},
		{string(PutNumber(nil, math.MaxUint64)), math.MaxInt, 0, api.ErrBig},
		{string(PutNumber(nil, math.MaxUint64)), -1, 0, api.ErrBig},
		{"", 5, 0, api.ErrEnd},
		{"", -1, 0, api.ErrEnd},
		{"\x09", -1, 0, api.ErrForm},
		{"\x01\x00", -1, 0, api.ErrForm},
	}
	for _, c := range cases {
		r := Read(c.in)
		if v := r.Small(c.most); v != c.want || r.Bad() != c.bad || r.End() != c.bad {
			t.Errorf("%x, %d: %d, bad %d", c.in, c.most, v, int(r.Bad()))
		}
	}
}

func TestText(t *testing.T) {
	cases := []struct {
		in   string
		most int
		want string
		left int
		bad  api.Errno
	}{
		{"\x01\x01a", 1, "a", 0, api.OK},
		{"\x01\x03abcd", 3, "abc", 1, api.OK},
		{"\x01\x03abcd", math.MaxInt, "abc", 1, api.OK},
		{"\x00", 0, "", 0, api.OK},
		{"\x00x", 0, "", 1, api.OK},
		{"\x01\x02\x00\xff", 2, "\x00\xff", 0, api.OK},
		{"\x00", -1, "", 0, api.ErrBig},
		{"\x01\x03abc", 2, "", 0, api.ErrBig},
		{"\x01\x03ab", 2, "", 0, api.ErrBig}, // the length's error is named ahead
		{"\x01\x03ab", 3, "", 0, api.ErrEnd},
		{"\x01\x01", 1, "", 0, api.ErrEnd},
		{string(PutNumber(nil, math.MaxInt)) + "a", math.MaxInt, "", 0, api.ErrEnd},
		{string(PutNumber(nil, math.MaxUint64)) + "a", math.MaxInt, "", 0, api.ErrBig},
		{"", 1, "", 0, api.ErrEnd},
		{"\x09abc", 1, "", 0, api.ErrForm},
		{"\x02\x00\x01a", 1, "", 0, api.ErrForm},
	}
	for _, c := range cases {
		r := Read(c.in)
		if s := r.Text(c.most); s != c.want || r.Bad() != c.bad || r.Left() != c.left {
			t.Errorf("%x, %d: %q, bad %d, left %d", c.in, c.most, s, int(r.Bad()), r.Left())
		}
	}
}

func TestRaw(t *testing.T) {
	cases := []struct {
		in   string
		many int
		want string
		left int
		bad  api.Errno
	}{
		{"abc", 0, "", 3, api.OK},
		{"abc", 2, "ab", 1, api.OK},
		{"abc", 3, "abc", 0, api.OK},
		{"", 0, "", 0, api.OK},
		{"\x00\xff", 2, "\x00\xff", 0, api.OK},
		{"abc", 4, "", 0, api.ErrEnd},
		{"", 1, "", 0, api.ErrEnd},
		{"abc", math.MaxInt, "", 0, api.ErrEnd},
		{"abc", -1, "", 0, api.ErrArg},
		{"", -1, "", 0, api.ErrArg},
		{"abc", math.MinInt, "", 0, api.ErrArg},
	}
	for _, c := range cases {
		r := Read(c.in)
		if s := r.Raw(c.many); s != c.want || r.Bad() != c.bad || r.Left() != c.left {
			t.Errorf("%x, %d: %q, bad %d, left %d", c.in, c.many, s, int(r.Bad()), r.Left())
		}
	}
}

// P1.4: the first error stays, whatever is read behind it.
func TestFirstErrorStays(t *testing.T) {
	breaks := map[api.Errno]func() *In{
		api.ErrEnd:  func() *In { r := Read("\x01\x01\x05ab"); r.Number(); r.Raw(9); return r },
		api.ErrForm: func() *In { r := Read("\x01\x00\x01\x01"); r.Number(); return r },
		api.ErrBig:  func() *In { r := Read("\x01\x05ab\x00"); r.Small(4); return r },
		api.ErrArg:  func() *In { r := Read("\x01\x01ab"); r.Raw(-1); return r },
	}
	for want, broken := range breaks {
		checkNothing(t, broken, want)
	}
}

// P1.4: nil, and a plain In{}.
func TestNoReader(t *testing.T) {
	checkNothing(t, func() *In { return nil }, api.ErrNil)
	checkNothing(t, func() *In { return &In{} }, api.ErrNil)
	checkNothing(t, func() *In { return new(In) }, api.ErrNil)
}

func checkNothing(t *testing.T, begin func() *In, want api.Errno) {
	t.Helper()
	reads := []func(r *In) bool{
		func(r *In) bool { return r.Number() == 0 },
		func(r *In) bool { return r.Small(math.MaxInt) == 0 },
		func(r *In) bool { return r.Small(-1) == 0 },
		func(r *In) bool { return r.Text(math.MaxInt) == "" },
		func(r *In) bool { return r.Text(-1) == "" },
		func(r *In) bool { return r.Raw(0) == "" },
		func(r *In) bool { return r.Raw(1) == "" },
		func(r *In) bool { return r.Raw(-1) == "" },
		func(r *In) bool { return r.Left() == 0 },
	}
	for i, read := range reads {
		r := begin()
		if r.Bad() != want || r.End() != want || r.Left() != 0 {
			t.Errorf("%d: ahead: bad %d, end %d, left %d", int(want), int(r.Bad()), int(r.End()), r.Left())
		}
		if !read(r) || r.Bad() != want || r.End() != want || r.Left() != 0 {
			t.Errorf("%d: behind read %d: bad %d, end %d, left %d", int(want), i, int(r.Bad()), int(r.End()), r.Left())
		}
	}
}

// P1.4: Left and End look, and change nothing.
func TestLeftAndEnd(t *testing.T) {
	r := Read("\x01\x07\x01\x02abc")
	steps := []struct {
		read func() bool
		left int
	}{
		{func() bool { return true }, 7},
		{func() bool { return r.Number() == 7 }, 5},
		{func() bool { return r.Text(2) == "ab" }, 1},
		{func() bool { return r.Raw(1) == "c" }, 0},
	}
	for i, s := range steps {
		if !s.read() || r.Left() != s.left || r.Bad() != api.OK {
			t.Fatalf("step %d: left %d, bad %d", i, r.Left(), int(r.Bad()))
		}
		want := api.ErrForm
		if s.left == 0 {
			want = api.OK
		}
		if r.End() != want || r.End() != want || r.Bad() != api.OK || r.Left() != s.left {
			t.Fatalf("step %d: end %d, bad %d", i, int(r.End()), int(r.Bad()))
		}
	}
	if e := Read("").End(); e != api.OK {
		t.Error(int(e))
	}
}

// Two readers of the same bytes have nothing to do with one another.
func TestReadersApart(t *testing.T) {
	a, b := Read("\x01\x07x"), Read("\x01\x07x")
	a.Raw(-1)
	if b.Number() != 7 || b.Raw(1) != "x" || b.End() != api.OK || a.Bad() != api.ErrArg {
		t.Error(int(a.Bad()), int(b.Bad()))
	}
}

// P1.5: what is laid is read, at each number's edges and in any mixture.
func TestLaidIsRead(t *testing.T) {
	var v []uint64
	for i := range 64 {
		v = append(v, 1<<i-1, 1<<i, 1<<i+1, math.MaxUint64>>i, 0x9e3779b97f4a7c15<<i)
	}
	r := Read(string(PutNumber(nil, v...)))
	for _, want := range v {
		if got := r.Number(); got != want {
			t.Fatalf("%d, not %d", got, want)
		}
	}
	if r.End() != api.OK {
		t.Error(int(r.End()))
	}

	var b []byte
	for i := range 300 {
		b = PutText(PutNumber(b, uint64(i)*uint64(i)), string(bytes.Repeat([]byte{byte(i)}, i)))
	}
	r = Read(string(b))
	for i := range 300 {
		if n, s := r.Number(), r.Text(i); n != uint64(i)*uint64(i) || s != string(bytes.Repeat([]byte{byte(i)}, i)) {
			t.Fatalf("%d: %d %x", i, n, s)
		}
	}
	if r.End() != api.OK {
		t.Error(int(r.End()))
	}
}

// P1.5: of all short inputs, those that are read as a number, or as a text, are the ones that are laid of it.
func TestNothingElseIsRead(t *testing.T) {
	seen := map[uint64]string{}
	each := func(s string) {
		r := Read(s)
		if v := r.Number(); r.End() == api.OK {
			if string(PutNumber(nil, v)) != s {
				t.Errorf("%x is read as %d", s, v)
			}
			if o, ok := seen[v]; ok {
				t.Errorf("%x and %x are read as %d", o, s, v)
			}
			seen[v] = s
		}
		r = Read(s)
		if x := r.Text(math.MaxInt); r.End() == api.OK && string(PutText(nil, x)) != s {
			t.Errorf("%x is read as %q", s, x)
		}
	}
	each("")
	for a := range 256 {
		each(string([]byte{byte(a)}))
		for b := range 256 {
			each(string([]byte{byte(a), byte(b)}))
		}
	}
	for a := range 10 {
		for bc := range 65536 {
			each(string([]byte{byte(a), byte(bc >> 8), byte(bc)}))
		}
	}
	if len(seen) != 65536 {
		t.Errorf("%d numbers", len(seen))
	}
}

// FuzzRead: whatever bytes and bounds come, nothing panics, and what was read is what is laid.
func FuzzRead(f *testing.F) {
	f.Add("\x01\x05ab", 4, 1)
	f.Add("\x02\x01\x00\x01\x02ab", 2, -1)
	f.Add("\x09", math.MinInt, math.MaxInt)
	f.Fuzz(func(t *testing.T, s string, most, many int) {
		r := Read(s)
		v, small, text, raw := r.Number(), r.Small(most), r.Text(most), r.Raw(many)
		if r.Bad() != api.OK {
			if raw != "" || r.Left() != 0 || r.End() != r.Bad() {
				t.Errorf("bad %d: %q, left %d", int(r.Bad()), raw, r.Left())
			}
			return
		}
		again := append(PutText(PutNumber(nil, v, uint64(small)), text), raw...)
		if string(again) != s[:len(s)-r.Left()] || small > most || len(text) > most || len(raw) != many {
			t.Errorf("%x is read as %x", s, again)
		}
	})
}
