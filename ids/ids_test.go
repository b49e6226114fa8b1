package ids

import (
	"bytes"
	"encoding/hex"
	"iter"
	"math"
	"slices"
	"strings"
	"testing"

	"saddlebag/api"
	"saddlebag/lay"
	"saddlebag/sha"
	"saddlebag/short"
)

// Four ids that rise: unlike in the first byte, in the last one, and around 80 (hex).
var (
	idA = Id{1}
	idB = Id{1, 31: 1}
	idC = Id{0x7f, 0xff}
	idD = Id{0x80}
)

// at tells the id that is 0 but for one byte.
func at(place int, b byte) Id {
	var out Id
	out[place] = b
	return out
}

// many tells so many unlike ids, in no order.
func many(n int) []Id {
	var out []Id
	for i := range n {
		out = append(out, sha.Of([]byte{byte(i), byte(i >> 8), byte(i >> 16)}))
	}
	return out
}

// meant tells the ids that has says yes to, rising: the order is worked out by texts, not by Less.
func meant(has func(i Id) bool, from ...Set) []Id {
	seen := map[string]Id{}
	for _, s := range from {
		for _, i := range s {
			if has(i) {
				seen[string(i[:])] = i
			}
		}
	}
	var keys []string
	for k := range seen {
		keys = append(keys, k)
	}
	slices.Sort(keys)
	var out []Id
	for _, k := range keys {
		out = append(out, seen[k])
	}
	return out
}

func contains(s Set, i Id) bool { return slices.Index(s, i) >= 0 }

// P3.1: 64 digits, the higher one of a byte first.
func TestText(t *testing.T) {
	var all Id
	for k := range all {
		all[k] = byte(k*8 + k%8)
	}
	cases := []struct {
		id   Id
		want string
	}{
		{Id{}, strings.Repeat("0", 64)},
		{Id{0x12, 0xab}, "12ab" + strings.Repeat("0", 60)},
		{Id{31: 0xf0}, strings.Repeat("0", 62) + "f0"},
		{Id{31: 0x0f}, strings.Repeat("0", 62) + "0f"},
		{Id(bytes.Repeat([]byte{0xff}, 32)), strings.Repeat("f", 64)},
		{sha.Of([]byte("abc")), "ba7816bf8f01cfea414140de5dae2223b00361a396177a9cb410ff61f20015ad"},
		{all, hex.EncodeToString(all[:])},
	}
	for _, c := range cases {
		if got := Text(c.id); got != c.want {
			t.Errorf("%q, not %q", got, c.want)
		}
		if got, e := Parse(c.want); got != c.id || e != api.OK {
			t.Errorf("%q: %x, error %d", c.want, got, int(e))
		}
	}
}

// P3.1: every byte, at every place, there and back.
func TestTextOfEachByte(t *testing.T) {
	for k := range 32 {
		for b := range 256 {
			i := at(k, byte(b))
			i[31-k] ^= 0x5a
			s := Text(i)
			if s != hex.EncodeToString(i[:]) {
				t.Fatalf("%x: %q", i, s)
			}
			if got, e := Parse(s); got != i || e != api.OK {
				t.Fatalf("%q: %x, error %d", s, got, int(e))
			}
		}
	}
}

// P3.1: what is no id's text: too short, too long, other digits; and then no id is told.
func TestParseWrong(t *testing.T) {
	right := Text(sha.Of([]byte("abc")))
	var wrong []string
	for n := range 64 {
		wrong = append(wrong, right[:n])
	}
	wrong = append(wrong,
		right+"0", right+"00", "0"+right, right+" ", " "+right, right+"\n", right+right,
		" "+right[1:], right[:63]+"\n", "0x"+right[2:], "+"+right[1:], "-"+right[1:],
		strings.ToUpper(right), "BA"+right[2:], right[:63]+"D",
		strings.Repeat("é", 32), strings.Repeat("é", 64), strings.Repeat("\x00", 64),
	)
	for _, k := range []int{0, 1, 2, 31, 32, 62, 63} {
		for b := range 256 {
			if !strings.Contains("0123456789abcdef", string(rune(b))) {
				wrong = append(wrong, right[:k]+string([]byte{byte(b)})+right[k+1:])
			}
		}
	}
	for _, s := range wrong {
		if i, e := Parse(s); e != api.ErrForm || i != (Id{}) {
			t.Errorf("%q: %x, error %d", s, i, int(e))
		}
	}
}

// P3.1: the first byte that is unlike tells which one is ahead, and bytes are numbers from 0 to 255.
func TestLess(t *testing.T) {
	var list []Id
	for k := range 32 {
		for _, b := range []byte{0, 1, 0x7f, 0x80, 0xff} {
			ahead, behind := at(k, b), at(k, b)
			ahead[0]++
			behind[31]++
			list = append(list, at(k, b), ahead, behind)
		}
	}
	list = append(list, many(40)...)
	for _, a := range list {
		for _, b := range list {
			if got, want := Less(a, b), string(a[:]) < string(b[:]); got != want {
				t.Errorf("%x, %x: %t", a, b, got)
			}
		}
	}
}

// P3.2: each id once, rising, whatever order they come in.
func TestOf(t *testing.T) {
	if got := Of(idB, idA, idB); !slices.Equal(got, Set{idA, idB}) {
		t.Errorf("example: %x", got)
	}
	if got := Of(); len(got) != 0 {
		t.Errorf("of none: %x", got)
	}
	if got := Of([]Id(nil)...); len(got) != 0 {
		t.Errorf("of nil: %x", got)
	}
	for _, l := range short.Lists(Set{idA, idB, idC, idD}, 4) {
		want := meant(func(Id) bool { return true }, l)
		if got := Of(l...); !slices.Equal(got, want) {
			t.Errorf("%x: %x, not %x", l, got, want)
		}
	}
	l := many(1000)
	l = append(l, l[:500]...)
	if got := Of(l...); len(got) != 1000 || !slices.Equal(got, meant(func(Id) bool { return true }, l)) {
		t.Errorf("of many: %d", len(got))
	}
}

// P3.2: right is rising, each once; a list without an element is.
func TestRight(t *testing.T) {
	cases := []struct {
		name string
		s    Set
		want bool
	}{
		{"nil", nil, true},
		{"empty", Set{}, true},
		{"one", Set{idD}, true},
		{"zero", Set{{}}, true},
		{"rising", Set{idA, idB, idC, idD}, true},
		{"twice", Set{idA, idA}, false},
		{"falling", Set{idB, idA}, false},
		{"twice in front", Set{idA, idA, idB, idC}, false},
		{"twice in the end", Set{idA, idB, idC, idC}, false},
		{"falling in front", Set{idB, idA, idC, idD}, false},
		{"falling in the middle", Set{idA, idC, idB, idD}, false},
		{"falling in the end", Set{idA, idB, idD, idC}, false},
		{"the first again", Set{idA, idB, idA}, false},
		{"unsigned bytes", Set{idD, idC}, false},
		{"what lies behind", Set{idA, idB, idA}[:2], true},
	}
	for _, c := range cases {
		if got := c.s.Right(); got != c.want {
			t.Errorf("%s: %t", c.name, got)
		}
	}
	for _, l := range short.Lists(Set{idA, idB, idC}, 4) {
		want := slices.Equal(l, meant(func(Id) bool { return true }, l))
		if got := l.Right(); got != want {
			t.Errorf("%x: %t", l, got)
		}
	}
}

// P3.2: Has finds an id wherever it stands, also where they do not rise, and none behind the end.
func TestHas(t *testing.T) {
	for _, l := range short.Lists(Set{idA, idB, idC, idD}, 4) {
		for _, i := range []Id{idA, idB, idC, idD, {}} {
			if got := l.Has(i); got != contains(l, i) {
				t.Errorf("%x has %x: %t", l, i, got)
			}
		}
	}
	if behind := (Set{idA, idB}); behind[:1].Has(idB) || !behind[:1].Has(idA) || Set(nil).Has(Id{}) {
		t.Error("what lies behind")
	}
	l := Set(many(1000))
	for _, i := range l {
		near := i
		near[31] ^= 1
		if !l.Has(i) || !Of(l...).Has(i) || l.Has(near) || Of(l...).Has(near) {
			t.Fatalf("of many: %x", i)
		}
	}
}

// P3.3: With and Without, of every short list.
func TestWithWithout(t *testing.T) {
	for _, s := range short.Lists(Set{idA, idB, idC}, 4) {
		for _, i := range []Id{{}, idA, idB, idC, idD} {
			with := meant(func(Id) bool { return true }, s, Set{i})
			if got := s.With(i); !slices.Equal(got, with) {
				t.Errorf("%x with %x: %x", s, i, got)
			}
			without := meant(func(x Id) bool { return x != i }, s)
			if got := s.Without(i); !slices.Equal(got, without) {
				t.Errorf("%x without %x: %x", s, i, got)
			}
		}
	}
}

// checkTwo holds what is told of two sets against what is meant.
func checkTwo(t *testing.T, s, o Set) {
	t.Helper()
	all := func(Id) bool { return true }
	cases := []struct {
		name      string
		got, want []Id
	}{
		{"or", s.Or(o), meant(all, s, o)},
		{"and", s.And(o), meant(func(i Id) bool { return contains(o, i) }, s)},
		{"less", s.Less(o), meant(func(i Id) bool { return !contains(o, i) }, s)},
	}
	for _, c := range cases {
		if !slices.Equal(c.got, c.want) {
			t.Errorf("%x %s %x: %x, not %x", s, c.name, o, c.got, c.want)
		}
	}
	within := len(meant(func(i Id) bool { return !contains(o, i) }, s)) == 0
	if got := s.Within(o); got != within {
		t.Errorf("%x within %x: %t", s, o, got)
	}
	same := slices.Equal(meant(all, s), meant(all, o))
	if got := s.Same(o); got != same {
		t.Errorf("%x same %x: %t", s, o, got)
	}
}

// P3.3: every pair of short lists: right ones, others, nil and empty ones.
func TestTwoSets(t *testing.T) {
	all := short.Lists(Set{idA, idB, idC}, 3)
	all = append(all, Set{idD}, Set{idA, idB, idC, idD}, Set{idD, idC, idB, idA}, Set{idA, idD, idD, idB})
	for _, s := range all {
		for _, o := range all {
			checkTwo(t, s, o)
		}
	}
}

// P3.3: many ids, of which some are in both.
func TestTwoGreatSets(t *testing.T) {
	l := Set(many(600))
	first, second := l[:400], l[200:]
	for _, s := range []Set{first, Of(first...), append(slices.Clone(first), first[:100]...)} {
		for _, o := range []Set{second, Of(second...), nil, l, l[:200], l[400:]} {
			checkTwo(t, s, o)
			checkTwo(t, o, s)
		}
	}
}

// P3.4: the ids as they stand, also where they do not rise, or stand twice.
func TestAll(t *testing.T) {
	for _, s := range short.Lists(Set{idA, idB, idC}, 4) {
		seq := s.All()
		for range 2 { // a sequence may be gone through again
			if got := slices.Collect(seq); !slices.Equal(got, s) {
				t.Errorf("%x: %x", s, got)
			}
		}
	}
	l := Set(many(1000))
	if got := slices.Collect(l.All()); !slices.Equal(got, l) {
		t.Errorf("of many: %d", len(got))
	}
}

// P3.4: a list that is stopped in the middle, at its first id, and at its last one.
func TestAllStopped(t *testing.T) {
	s := Set{idC, idA, idA, idB}
	for stop := 1; stop <= len(s); stop++ {
		var got Set
		s.All()(func(i Id) bool {
			got = append(got, i)
			return len(got) < stop
		})
		if !slices.Equal(got, s[:stop]) {
			t.Errorf("stopped at %d: %x", stop, got)
		}
		got = nil
		for i := range s.All() {
			if got = append(got, i); len(got) == stop {
				break
			}
		}
		if !slices.Equal(got, s[:stop]) {
			t.Errorf("broken off at %d: %x", stop, got)
		}
	}
	next := func(seq iter.Seq[Id]) (n int) {
		for range seq {
			n++
		}
		return n
	}
	seq := s.All()
	for range seq {
		break
	}
	if n := next(seq); n != len(s) {
		t.Errorf("gone through behind a stop: %d", n)
	}
	s.All()(nil)
	Set(nil).All()(nil)
}

// P3.4, rule 4: what is handed in is not kept: changes behind the call are not told.
func TestAllOfCopy(t *testing.T) {
	s := Set{idA, idB, idC}
	seq := s.All()
	s[0], s[2] = idD, idD
	if got := slices.Collect(seq); !slices.Equal(got, Set{idA, idB, idC}) {
		t.Errorf("changed ahead of going: %x", got)
	}
	s = Set{idA, idB, idC}
	var got Set
	for i := range s.All() {
		got = append(got, i)
		clear(s)
	}
	if !slices.Equal(got, Set{idA, idB, idC}) {
		t.Errorf("changed while going: %x", got)
	}
}

// P3.5: the number, and each id as it stands.
func TestPut(t *testing.T) {
	if got := Put(nil); string(got) != "\x00" {
		t.Errorf("nil: %x", got)
	}
	if got := Put(Set{}); string(got) != "\x00" {
		t.Errorf("empty: %x", got)
	}
	for _, s := range append(short.Lists(Set{idA, idB, idD}, 3), many(255), many(256), many(1000)) {
		want := lay.PutNumber(nil, uint64(len(s)))
		for _, i := range s {
			want = append(want, i[:]...)
		}
		if got := Put(s); !bytes.Equal(got, want) {
			t.Errorf("%d ids: %x", len(s), got)
		}
	}
}

// P3.5: what is put is read, if it is right and not above most; and then just so.
func TestPutIsRead(t *testing.T) {
	all := short.Lists(Set{idA, idB, idD}, 4)
	all = append(all, Of(many(255)...), Of(many(256)...), Of(many(1024)...), many(300))
	for _, s := range all {
		for _, most := range []int{len(s) - 1, len(s), len(s) + 1, math.MaxInt} {
			want, e := s, api.OK
			switch {
			case most < len(s):
				want, e = nil, api.ErrBig
			case !slices.Equal(s, meant(func(Id) bool { return true }, s)):
				want, e = nil, api.ErrForm
			}
			got, code := Read(string(Put(s)), most)
			if code != e || !slices.Equal(got, want) {
				t.Errorf("%d ids, at most %d: %d ids, error %d, not %d", len(s), most, len(got), int(code), int(e))
			}
		}
	}
}

// P3.5: the errors, in the order in which they are named.
func TestReadWrong(t *testing.T) {
	a, b := string(idA[:]), string(idB[:])
	number := func(v uint64) string { return string(lay.PutNumber(nil, v)) }
	cases := []struct {
		name string
		in   string
		most int
		want api.Errno
	}{
		{"nothing", "", 5, api.ErrEnd},
		{"nothing, and no most", "", -1, api.ErrEnd},
		{"a number's bytes missing", "\x02\x01", 5, api.ErrEnd},
		{"a number of nine bytes", "\x09" + a + b, 5, api.ErrForm},
		{"a number with a 0 ahead", "\x01\x00", 5, api.ErrForm},
		{"a long number with a 0 ahead", "\x02\x00\x01" + a, 5, api.ErrForm},
		{"above most", number(2) + a + b, 1, api.ErrBig},
		{"none is above a most below 0", number(0), -1, api.ErrBig},
		{"none is above the least most", number(0), math.MinInt, api.ErrBig},
		{"the greatest number", number(math.MaxUint64), math.MaxInt, api.ErrBig},
		{"above most, ahead of missing", number(3) + a, 2, api.ErrBig},
		{"above most, ahead of falling", number(2) + b + a, 1, api.ErrBig},
		{"above most, ahead of bytes left", number(1) + a + "x", 0, api.ErrBig},
		{"no id's bytes", number(1), 1, api.ErrEnd},
		{"a byte missing", number(1) + a[:31], 1, api.ErrEnd},
		{"a byte missing of the second", number(2) + a + b[:31], 2, api.ErrEnd},
		{"the second missing", number(2) + a, 2, api.ErrEnd},
		{"missing, ahead of falling", number(3) + b + a, 3, api.ErrEnd},
		{"missing, ahead of twice", number(3) + a + a + b[:31], 3, api.ErrEnd},
		{"far too few", number(math.MaxInt) + a, math.MaxInt, api.ErrEnd},
		{"bytes that times 32 wrap round to 0", number(1 << 59), math.MaxInt, api.ErrEnd},
		{"bytes that times 32 wrap round to 32", number(1<<59+1) + a, math.MaxInt, api.ErrEnd},
		{"falling", number(2) + b + a, 2, api.ErrForm},
		{"twice", number(2) + a + a, 2, api.ErrForm},
		{"falling in the end", number(3) + a + b + a, 3, api.ErrForm},
		{"a byte left", number(1) + a + "\x00", 1, api.ErrForm},
		{"an id left", number(1) + a + b, 2, api.ErrForm},
		{"a byte left behind none", number(0) + "\x00", 0, api.ErrForm},
		{"falling, and bytes left", number(2) + b + a + "x", 2, api.ErrForm},
	}
	for _, c := range cases {
		if got, e := Read(c.in, c.most); e != c.want || len(got) != 0 {
			t.Errorf("%s: %x, error %d, not %d", c.name, got, int(e), int(c.want))
		}
	}
	if got, e := Read(number(0), 0); e != api.OK || len(got) != 0 {
		t.Errorf("none: %x, error %d", got, int(e))
	}
	if got, e := Read(number(1)+a, 1); e != api.OK || !slices.Equal(got, Set{idA}) {
		t.Errorf("one: %x, error %d", got, int(e))
	}
}

// handed tells each call that hands out a list, by name, for two sets that are handed in.
func handed() map[string]func(s, o Set) Set {
	return map[string]func(s, o Set) Set{
		"of":      func(s, o Set) Set { return Of(s...) },
		"with":    func(s, o Set) Set { return s.With(idB) },
		"without": func(s, o Set) Set { return s.Without(idB) },
		"or":      func(s, o Set) Set { return s.Or(o) },
		"or back": func(s, o Set) Set { return o.Or(s) },
		"and":     func(s, o Set) Set { return s.And(o) },
		"less":    func(s, o Set) Set { return s.Less(o) },
		"all":     func(s, o Set) Set { return slices.Collect(s.All()) },
		"looks": func(s, o Set) Set {
			s.Right()
			s.Has(idD)
			s.Within(o)
			o.Within(s)
			s.Same(o)
			Put(s)
			return nil
		},
	}
}

// P3.2 to P3.4, rule 4: what is handed in does not change, nor its spare room; what is handed out is new memory, spare room too.
func TestListsAreCopies(t *testing.T) {
	all := short.Lists(Set{idA, idB, idC}, 3)
	for name, call := range handed() {
		for _, s := range all {
			for _, o := range []Set{nil, {}, {idA}, {idB, idA}, {idA, idB, idC}, s} {
				under, over := roomy(s), roomy(o)
				mine, others := under[:len(s)], over[:len(o)]
				first := call(mine, others)
				want := slices.Clone(first)
				second := call(mine, others)
				spoil(first)
				if !slices.Equal(under, roomy(s)) || !slices.Equal(over, roomy(o)) {
					t.Fatalf("%s: what was handed in changed: %x %x", name, under, over)
				}
				if !slices.Equal(second, want) {
					t.Fatalf("%s: two answers share memory", name)
				}
				spoil(under)
				spoil(over)
				if !slices.Equal(second, want) {
					t.Fatalf("%s: an answer shares memory with what was handed in", name)
				}
			}
		}
	}
}

// roomy tells a list with four ids behind it, that are nobody's.
func roomy(s Set) Set {
	return append(slices.Clone(s), Id{0xee}, Id{0xee, 1}, Id{0xee, 2}, Id{0xee, 3})
}

// spoil writes over all of a list, its spare room too.
func spoil(s Set) {
	for k := range s[:cap(s)] {
		s[:cap(s)][k] = Id{0xdd, byte(k)}
	}
}

// P3.5, rule 4: bytes that are put, and sets that are read, are new memory each time.
func TestPutAndReadNewMemory(t *testing.T) {
	s := Set{idA, idB, idC}
	first, second := Put(s), Put(s)
	clear(first[:cap(first)])
	if !slices.Equal(s, Set{idA, idB, idC}) || !bytes.Equal(second, Put(s)) {
		t.Error("put shares memory")
	}
	in := string(second)
	one, _ := Read(in, 3)
	two, _ := Read(in, 3)
	spoil(one)
	if !slices.Equal(two, s) || in != string(Put(s)) {
		t.Error("read shares memory")
	}
}

// FuzzParse: what is parsed is what is told, and nothing else is parsed.
func FuzzParse(f *testing.F) {
	f.Add(strings.Repeat("0", 64))
	f.Add("fE" + strings.Repeat("0", 62))
	f.Add("")
	f.Fuzz(func(t *testing.T, s string) {
		i, e := Parse(s)
		b, err := hex.DecodeString(s)
		if right := err == nil && len(b) == 32 && s == strings.ToLower(s); right != (e == api.OK) {
			t.Fatalf("%q: error %d", s, int(e))
		}
		if e == api.OK && Text(i) != s || e != api.OK && (e != api.ErrForm || i != Id{}) {
			t.Errorf("%q: %x, error %d", s, i, int(e))
		}
	})
}

// FuzzRead: whatever bytes and bound come, what is read is right, not above most, and what is put.
func FuzzRead(f *testing.F) {
	f.Add(string(Put(Set{idA, idB})), 2)
	f.Add(string(Put(Set{idB, idA})), 2)
	f.Add("\x08\xff\xff\xff\xff\xff\xff\xff\xff", -1)
	f.Fuzz(func(t *testing.T, b string, most int) {
		s, e := Read(b, most)
		if e != api.OK {
			if len(s) != 0 {
				t.Errorf("error %d: %x", int(e), s)
			}
			return
		}
		if len(s) > most || !s.Right() || string(Put(s)) != b {
			t.Errorf("%x, at most %d: %x", b, most, s)
		}
	})
}
