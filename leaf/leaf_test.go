package leaf

import (
	"bytes"
	"encoding/binary"
	"encoding/hex"
	"math"
	"math/big"
	"slices"
	"strings"
	"testing"

	"saddlebag/api"
	"saddlebag/short"
)

// far are numbers at the edges of an int's range, and such as would be others, if some of their bytes were cut.
var far = []int{math.MinInt, math.MinInt + 1, math.MinInt32, -65536, -65535, -256, -255, -1, 65536, 65537, 1 << 32, 1<<32 + 1, math.MaxInt - 1, math.MaxInt}

// meantLess holds two texts against each other byte by byte.
func meantLess(a, b string) bool {
	for i := range len(a) {
		if i >= len(b) || a[i] != b[i] {
			return i < len(b) && a[i] < b[i]
		}
	}
	return len(a) < len(b)
}

// meantBytes tells a leaf's bytes by the words; of one that is not right, something.
func meantBytes(l Leaf) []byte {
	out := []byte{byte(len(l))}
	for _, e := range l {
		out = append(append(out, byte(len(e.Key))), e.Key...)
		out = binary.BigEndian.AppendUint16(out, uint16(e.First))
		out = binary.BigEndian.AppendUint16(out, uint16(e.Len))
	}
	return out
}

func meantBlock(l Leaf) []byte {
	out := meantBytes(l)
	return append(out, make([]byte, max(256-len(out), 0))...)
}

// meantRight tells by the words whether a leaf is right: each key is held against all that are ahead of it.
func meantRight(l Leaf) bool {
	for i, e := range l {
		if len(e.Key) == 0 || len(e.Key) > 40 || e.First < 0 || e.First > 4095 || e.Len < 0 || e.Len > 8192 {
			return false
		}
		for _, o := range l[:i] {
			if !meantLess(o.Key, e.Key) {
				return false
			}
		}
	}
	return len(meantBytes(l)) <= 256
}

// loose tells the leaf that bytes seem to have, as if bytes 0 stood behind them without an end.
func loose(b []byte) Leaf {
	take := func(many int) []byte {
		out := make([]byte, many)
		b = b[copy(out, b):]
		return out
	}
	l := make(Leaf, take(1)[0])
	for i := range l {
		l[i] = Entry{Key: string(take(int(take(1)[0]))), First: int(binary.BigEndian.Uint16(take(2))), Len: int(binary.BigEndian.Uint16(take(2)))}
	}
	return l
}

// meantOf tells the leaf of a block: the one that it seems to have, if that is right, and its block is this one.
func meantOf(block []byte) (Leaf, api.Errno) {
	if len(block) != 256 {
		return nil, 2
	}
	if l := loose(block); len(l) > 0 && meantRight(l) && bytes.Equal(meantBlock(l), block) {
		return l, 0
	}
	return nil, 11
}

// meantFind goes through all keys.
func meantFind(l Leaf, key string) (int, bool) {
	if !meantRight(l) {
		return 0, false
	}
	for i, e := range l {
		if e.Key == key {
			return i, true
		}
		if meantLess(key, e.Key) {
			return i, false
		}
	}
	return len(l), false
}

// meantWith tells the entries that are less than one, that one, and those that are greater; meantWithout all but one.
func meantWith(l Leaf, e Entry) Leaf {
	if !meantRight(l) {
		return nil
	}
	var less, greater Leaf
	for _, o := range l {
		if meantLess(o.Key, e.Key) {
			less = append(less, o)
		}
		if meantLess(e.Key, o.Key) {
			greater = append(greater, o)
		}
	}
	return append(append(less, e), greater...)
}

func meantWithout(l Leaf, key string) Leaf {
	if !meantRight(l) {
		return nil
	}
	return slices.DeleteFunc(slices.Clone(l), func(e Entry) bool { return e.Key == key })
}

// meantHalves gives each half one entry in turn, from both ends.
func meantHalves(l Leaf) (Leaf, Leaf) {
	var first, second Leaf
	if !meantRight(l) {
		return nil, nil
	}
	for len(l) > 0 {
		first, l = append(first, l[0]), l[1:]
		if n := len(l) - 1; n >= 0 {
			second, l = append(Leaf{l[n]}, second...), l[:n]
		}
	}
	return first, second
}

// formed holds what is told of a leaf itself against what is meant, and its block.
func formed(t testing.TB, what string, l Leaf) {
	t.Helper()
	if l.Right() != meantRight(l) || l.Size() != len(meantBytes(l)) {
		t.Fatalf("%s: Right %v, Size %d; not %v, %d: %#v", what, l.Right(), l.Size(), meantRight(l), len(meantBytes(l)), l)
	}
	b, e := l.Put()
	if len(l) == 0 || !meantRight(l) {
		if b != nil || e != 2 {
			t.Fatalf("%s: Put %x, %d, of what is not right, or has no entries: %#v", what, b, e, l)
		}
		return
	}
	if e != 0 || !bytes.Equal(b, meantBlock(l)) {
		t.Fatalf("%s: Put %x, %d; not %x: %#v", what, b, e, meantBlock(l), l)
	}
	if again, e := Of(b); e != 0 || !slices.Equal(again, l) {
		t.Fatalf("%s: Of what was put is %#v, %d; not %#v", what, again, e, l)
	}
}

// asked holds what a leaf tells of keys and entries against what is meant.
func asked(t testing.TB, what string, l Leaf, entries ...Entry) {
	t.Helper()
	for _, e := range entries {
		at, is := l.Find(e.Key)
		if wantAt, want := meantFind(l, e.Key); at != wantAt || is != want {
			t.Fatalf("%s: Find(%q) is %d, %v; not %d, %v: %#v", what, e.Key, at, is, wantAt, want, l)
		}
		if got, want := l.With(e), meantWith(l, e); !slices.Equal(got, want) {
			t.Fatalf("%s: With(%#v) is %#v, not %#v: %#v", what, e, got, want, l)
		}
		if got, want := l.Without(e.Key), meantWithout(l, e.Key); !slices.Equal(got, want) {
			t.Fatalf("%s: Without(%q) is %#v, not %#v: %#v", what, e.Key, got, want, l)
		}
	}
	p, q := l.Halves()
	if wantP, wantQ := meantHalves(l); !slices.Equal(p, wantP) || !slices.Equal(q, wantQ) {
		t.Fatalf("%s: Halves %#v, %#v; not %#v, %#v: %#v", what, p, q, wantP, wantQ, l)
	}
}

// of tells so many entries, right ones, which together have so many bytes of keys: as even as may be.
func of(many, keys int) Leaf {
	out := make(Leaf, many)
	for i := range out {
		long := keys / many
		if i < keys%many {
			long++
		}
		out[i] = Entry{Key: string([]byte{byte(5 * i)}) + strings.Repeat("k", long-1), First: 97 * i % 4096, Len: 8192 - 199*i}
	}
	return out
}

// around tells entries of keys that are had, and that are around them.
func around(l Leaf) []Entry {
	out := []Entry{{Key: ""}, {Key: "\x00"}, {Key: strings.Repeat("\xff", 40), First: 4095, Len: 8192}, {Key: strings.Repeat("\xff", 41)}}
	for i, e := range l {
		out = append(out, Entry{Key: e.Key, First: i}, Entry{Key: e.Key + "\x00", First: i, Len: 1}, Entry{Key: e.Key[:len(e.Key)-1] + "\xff"}, Entry{Key: e.Key[:len(e.Key)-1]})
	}
	return out
}

// P12.1, example 1.
func TestExample(t *testing.T) {
	l := Leaf{{Key: "a", First: 0x0203, Len: 0x1405}}
	b, e := l.Put()
	if e != api.OK || l.Size() != 7 || hex.EncodeToString(b) != "01016102031405"+strings.Repeat("00", 249) {
		t.Errorf("Size %d, Put %x, %d", l.Size(), b, e)
	}
}

// P12.1: each of an entry's numbers, and its key's length, at each edge; alone, and within others.
func TestRightEntries(t *testing.T) {
	key := func(long int) string { return ("k" + strings.Repeat("x", long))[:long] }
	var edges []Entry
	for _, long := range []int{0, 1, 2, 39, 40, 41, 42, 250, 251, 255, 256, 257, 296, 297, 1000} {
		edges = append(edges, Entry{Key: key(long), First: 1, Len: 1})
	}
	for _, n := range append([]int{0, 1, 255, 256, 4094, 4095, 4096, 4097, 8191, 8192, 8193, 65535}, far...) {
		edges = append(edges, Entry{Key: "k", First: n}, Entry{Key: "k", Len: n}, Entry{Key: "k", First: n, Len: n}, Entry{Key: "k", First: 4095, Len: n}, Entry{Key: "k", First: n, Len: 8192})
	}
	low, high := Entry{Key: "a", First: 3, Len: 4}, Entry{Key: "z", First: 5, Len: 6}
	for _, e := range edges {
		for _, l := range []Leaf{{e}, {low, e}, {e, high}, {low, e, high}} {
			formed(t, "an edge", l)
			asked(t, "an edge", l, e, low, high)
		}
		asked(t, "an entry at an edge", Leaf{low, high}, e)
		asked(t, "an entry at an edge, for one that is there", Leaf{low, {Key: "k"}, high}, e)
		asked(t, "an entry at an edge, the first", nil, e)
	}
	for _, c := range []struct {
		e    Entry
		want bool
	}{{Entry{Key: "k", First: 4095, Len: 8192}, true}, {Entry{Key: key(40)}, true}, {Entry{Key: "k", First: 4096}, false}, {Entry{Key: "k", Len: 8193}, false}, {Entry{Key: key(41)}, false}, {Entry{}, false}, {Entry{Key: "k", First: -1}, false}, {Entry{Key: "k", Len: -1}, false}} {
		if got := (Leaf{c.e}).Right(); got != c.want {
			t.Errorf("Right of %#v: %v", c.e, got)
		}
	}
}

// P12.1: keys rise byte by byte, as numbers from 0 to 255, and the shorter one is less, if it begins the other.
func TestOrder(t *testing.T) {
	keys := []string{"\x00", "\x00\x00", "\x00\x01", "\x01", "A", "Z", "a", "a\x00", "aZ", "aa", "ab", "b", "\x7f", "\x7f\xff", "\x80", "\xc3\xa4", "\xef\xbf\xbd", "\xff", "\xff\x00", "\xff\xff"}
	for i, a := range keys {
		for k, b := range keys {
			if got := (Leaf{{Key: a}, {Key: b}}).Right(); got != (i < k) {
				t.Errorf("%q ahead of %q: Right is %v", a, b, got)
			}
			l := Leaf{{Key: a}}
			if at, is := l.Find(b); is != (i == k) || at != 0 && i >= k || at != 1 && i < k {
				t.Errorf("of %q, Find(%q): %d, %v", a, b, at, is)
			}
			formed(t, "two", Leaf{{Key: a}, {Key: b}})
			asked(t, "two", Leaf{{Key: a}, {Key: b}}, Entry{Key: a, Len: 1}, Entry{Key: b, Len: 1})
		}
	}
	var all Leaf
	for _, k := range keys {
		all = append(all, Entry{Key: k})
	}
	formed(t, "all", all)
	asked(t, "all", all, around(all)...)
	for i := range all[1:] {
		turned := slices.Clone(all)
		turned[i], turned[i+1] = turned[i+1], turned[i]
		formed(t, "two turned round", turned)
		asked(t, "two turned round", turned, all...)
		turned[i] = turned[i+1]
		formed(t, "one twice", turned)
		asked(t, "one twice", turned, all...)
	}
}

// P12.1 to P12.3: leaves of each number of entries, one byte less than there is room for, just as many, and more.
func TestRoom(t *testing.T) {
	for many := 1; many <= 50; many++ {
		for _, size := range []int{254, 255, 256, 257, 258, 296} {
			keys := size - 1 - 5*many
			if keys < many || keys > 40*many {
				continue
			}
			l := of(many, keys)
			if l.Size() != size || l.Right() != (size <= 256) {
				t.Fatalf("%d entries: Size %d, not %d; Right %v", many, l.Size(), size, l.Right())
			}
			formed(t, "room", l)
			asked(t, "room", l, around(l)...)
		}
		formed(t, "short keys", of(many, many))
		asked(t, "short keys", of(many, many), around(of(many, many))...)
	}
	for _, c := range []struct {
		many, keys int
		want       bool
	}{{42, 42, true}, {42, 45, true}, {42, 46, false}, {43, 43, false}, {5, 200, true}, {6, 225, true}, {6, 226, false}} {
		if got := of(c.many, c.keys).Right(); got != c.want {
			t.Errorf("%d entries, %d bytes of keys: Right is %v", c.many, c.keys, got)
		}
	}
}

// P12.1: numbers of entries of which one byte tells another one.
func TestManyEntries(t *testing.T) {
	for _, many := range []int{255, 256, 257, 258, 512, 65536, 65537} {
		l := make(Leaf, many)
		for i := range l {
			l[i].Key = string(binary.BigEndian.AppendUint32(nil, uint32(i)))
		}
		if b, e := l.Put(); l.Right() || l.Size() != 1+9*many || b != nil || e != api.ErrArg {
			t.Errorf("%d entries: Right %v, Size %d, Put %x, %d", many, l.Right(), l.Size(), b, e)
		}
		p, q := l.Halves()
		at, is := l.Find(l[1].Key)
		if len(p)+len(q)+len(l.With(l[0]))+len(l.Without(l[0].Key)) != 0 || at != 0 || is {
			t.Errorf("%d entries: something is told of one that is not right", many)
		}
	}
}

// P12.1 to P12.3: every short list of entries, right ones and others.
func TestShort(t *testing.T) {
	entries := []Entry{{Key: "a", First: 1, Len: 2}, {Key: "a", First: 3, Len: 4}, {Key: "a\x00", First: 4095, Len: 8192}, {Key: "ab"}, {Key: "b", First: -1}, {Key: "\xff", Len: 257}, {Key: ""}}
	asks := append(slices.Clone(entries), Entry{Key: "a\x00\x00", First: 9}, Entry{Key: "aa"}, Entry{Key: "b"}, Entry{Key: "\x00"}, Entry{Key: "\xff\xff", Len: 9000})
	most := 4
	if testing.Short() {
		most = 3
	}
	for _, l := range short.Lists(entries, most) {
		formed(t, "short", l)
		asked(t, "short", Leaf(l), asks...)
	}
}

// P12.1, rule 3: one without entries is right, has one byte, and no block; a plain one likewise.
func TestEmpty(t *testing.T) {
	e := Entry{Key: "k", First: 1, Len: 2}
	for name, l := range map[string]Leaf{"nil": nil, "empty": {}, "behind Without": Leaf{e}.Without("k")} {
		b, n := l.Put()
		if !l.Right() || l.Size() != 1 || b != nil || n != api.ErrArg {
			t.Errorf("%s: Right %v, Size %d, Put %x, %d", name, l.Right(), l.Size(), b, n)
		}
		p, q := l.Halves()
		at, is := l.Find("k")
		if len(p)+len(q)+len(l.Without("k")) != 0 || at != 0 || is || !slices.Equal(l.With(e), Leaf{e}) {
			t.Errorf("%s: Halves %#v, %#v, Find %d, %v, With %#v, Without %#v", name, p, q, at, is, l.With(e), l.Without("k"))
		}
	}
}

// P12.1: what has not just the bytes of a block is refused as such, also where it begins with a leaf.
func TestOfSizes(t *testing.T) {
	b := append(meantBlock(of(6, 225)), make([]byte, 300)...)
	for long := range len(b) + 1 {
		want := api.ErrArg
		if long == 256 {
			want = api.OK
		}
		l, e := Of(b[:long])
		if e != want || e != api.OK && l != nil {
			t.Fatalf("of %d bytes: %#v, %d", long, l, e)
		}
	}
	if l, e := Of(nil); l != nil || e != api.ErrArg {
		t.Errorf("of nil: %#v, %d", l, e)
	}
}

// same holds what Of tells of a block against what is meant.
func same(t testing.TB, what string, block []byte) {
	t.Helper()
	l, e := Of(block)
	if want, wantE := meantOf(block); e != wantE || !slices.Equal(l, want) || e != 0 && l != nil {
		t.Fatalf("%s: Of %x is %#v, %d; not %#v, %d", what, block, l, e, want, wantE)
	}
}

// P12.1: blocks of which one byte is another one, each of them: some are leaves, most are none.
func TestOfOtherByte(t *testing.T) {
	leaves := []Leaf{{{Key: "a", First: 1, Len: 2}}, {{Key: "a", First: 1, Len: 2}, {Key: "ab", First: 4095, Len: 8192}, {Key: "b"}}, of(42, 45), of(6, 225), of(6, 224), of(5, 200)}
	if testing.Short() {
		leaves = leaves[:2]
	}
	for _, l := range leaves {
		block := meantBlock(l)
		for i := range block {
			was := block[i]
			for c := range 256 {
				block[i] = byte(c)
				same(t, "another byte", block)
			}
			block[i] = was
		}
	}
}

// P12.1: blocks that seem to have any number of entries, of which the last one ends anywhere, or behind the block.
func TestOfAnyBlocks(t *testing.T) {
	for c := range 256 {
		for _, fill := range []byte{0, 1, 2, 15, 40, 41, 250, 251, 252, 255} {
			block := bytes.Repeat([]byte{fill}, 256)
			block[0] = byte(c)
			same(t, "all alike", block)
			same(t, "all alike, but the end", append(block[:255:255], 0))
			same(t, "as far as entries", meantBlock(loose(block))[:256])
		}
	}
	for many := 1; many <= 42; many++ {
		for keys := many; keys <= 40*many && 1+5*many+keys <= 300; keys++ {
			same(t, "cut", meantBlock(of(many, keys))[:256])
		}
	}
}

// P12.1: what is not right has no block, by any way: the block that it would have is none.
func TestOfWrong(t *testing.T) {
	good := Entry{Key: "m", First: 1, Len: 1}
	for _, l := range []Leaf{
		{},
		{{Key: ""}},
		{{Key: strings.Repeat("k", 41)}},
		{{Key: "k", First: 4096}},
		{{Key: "k", First: 65535}},
		{{Key: "k", Len: 8193}},
		{{Key: "k", Len: 65535}},
		{good, good},
		{good, {Key: "a"}},
		{good, {Key: ""}},
		{good, {Key: "n"}, {Key: "mm"}},
	} {
		if got, e := Of(meantBlock(l)); got != nil || e != api.ErrForm {
			t.Errorf("Of the block of %#v: %#v, %d", l, got, e)
		}
	}
}

// P12.2: of one that is not right no key is found, and nothing is made of it, however it is wrong.
func TestNotRight(t *testing.T) {
	for name, l := range map[string]Leaf{
		"falling":   {{Key: "b"}, {Key: "a"}},
		"twice":     {{Key: "a"}, {Key: "b"}, {Key: "b"}},
		"no key":    {{Key: ""}, {Key: "b"}},
		"long key":  {{Key: "a"}, {Key: "b"}, {Key: strings.Repeat("k", 41)}},
		"First":     {{Key: "a"}, {Key: "b", First: 4096}},
		"Len":       {{Key: "a"}, {Key: "b", Len: -1}},
		"too great": of(43, 43),
	} {
		at, is := l.Find("b")
		p, q := l.Halves()
		if l.Right() || at != 0 || is || len(l.With(Entry{Key: "c"}))+len(l.Without("b"))+len(p)+len(q) != 0 {
			t.Errorf("%s: Find %d, %v, With %#v, Without %#v, Halves %#v, %#v", name, at, is, l.With(Entry{Key: "c"}), l.Without("b"), p, q)
		}
	}
}

// P12.2: the place of each key of a leaf, and of those between, ahead and behind, and of some that no entry may have.
func TestFind(t *testing.T) {
	l := Leaf{{Key: "b"}, {Key: "ba"}, {Key: "d"}}
	for _, c := range []struct {
		key string
		at  int
		is  bool
	}{{"", 0, false}, {"a", 0, false}, {"azz", 0, false}, {"b", 0, true}, {"b\x00", 1, false}, {"ba", 1, true}, {"baa", 2, false}, {"c", 2, false}, {"d", 2, true}, {"d\x00", 3, false}, {"e", 3, false}, {"\xff", 3, false}, {strings.Repeat("c", 1000), 2, false}} {
		if at, is := l.Find(c.key); at != c.at || is != c.is {
			t.Errorf("Find(%q): %d, %v", c.key, at, is)
		}
	}
}

// P12.3: an entry in place of one, and at its place; one less; halves, of which the first one is not the lesser one.
func TestChanges(t *testing.T) {
	a, b, c := Entry{Key: "a", First: 1}, Entry{Key: "b", First: 2}, Entry{Key: "c", First: 3}
	other := Entry{Key: "b", First: 7, Len: 8}
	for _, x := range []struct{ got, want Leaf }{
		{Leaf{a, c}.With(b), Leaf{a, b, c}},
		{Leaf{b, c}.With(a), Leaf{a, b, c}},
		{Leaf{a, b}.With(c), Leaf{a, b, c}},
		{Leaf{a, b, c}.With(other), Leaf{a, other, c}},
		{Leaf{a, b, c}.Without("a"), Leaf{b, c}},
		{Leaf{a, b, c}.Without("b"), Leaf{a, c}},
		{Leaf{a, b, c}.Without("c"), Leaf{a, b}},
		{Leaf{a, b, c}.Without("bb"), Leaf{a, b, c}},
		{Leaf{a, b, c}.Without(""), Leaf{a, b, c}},
	} {
		if !slices.Equal(x.got, x.want) {
			t.Errorf("%#v, not %#v", x.got, x.want)
		}
	}
	for many := range 43 {
		l := of(max(many, 1), max(many, 1))[:many]
		p, q := l.Halves()
		if len(p) != many-many/2 || len(q) != many/2 || !slices.Equal(append(slices.Clone(p), q...), l) {
			t.Errorf("Halves of %d: %d, %d", many, len(p), len(q))
		}
	}
}

// P12.3: With tells one that is too great, if it comes to that; of that one nothing more is made.
func TestTooGreat(t *testing.T) {
	l := of(42, 42)
	e := Entry{Key: "\xfc" + strings.Repeat("z", 39), First: 1, Len: 1}
	big := l.With(e)
	if len(big) != 43 || big[42] != e || big.Size() != 253+45 || big.Right() {
		t.Fatalf("%d entries, Size %d, Right %v", len(big), big.Size(), big.Right())
	}
	if p, q := big.Halves(); len(p)+len(q)+len(big.With(e))+len(big.Without(e.Key)) != 0 {
		t.Errorf("Halves %#v, %#v, With %#v, Without %#v", p, q, big.With(e), big.Without(e.Key))
	}
	if wrong := l.Without(l[3].Key).With(Entry{}); len(wrong) != 42 || wrong[0] != (Entry{}) || wrong.Right() {
		t.Errorf("with an entry that is not right: %#v", wrong)
	}
}

// P12.4: each number of bytes that a value may have, and more; by counting.
func TestBlocks(t *testing.T) {
	blocks := 0
	for n := range 10000 {
		if blocks*256 < n {
			blocks++
		}
		if got := Blocks(n); got != blocks {
			t.Fatalf("Blocks(%d): %d, not %d", n, got, blocks)
		}
	}
	for _, c := range []struct{ bytes, want int }{{0, 0}, {1, 1}, {255, 1}, {256, 1}, {257, 2}, {512, 2}, {513, 3}, {8192, 32}, {8193, 33}} {
		if got := Blocks(c.bytes); got != c.want {
			t.Errorf("Blocks(%d): %d, not %d", c.bytes, got, c.want)
		}
	}
	for _, n := range append([]int{-8192, -257, -2, math.MaxInt - 254, math.MaxInt - 255, math.MaxInt - 256, math.MaxInt - 257}, far...) {
		want := new(big.Int).Add(big.NewInt(int64(n)), big.NewInt(255))
		want.Rsh(want, 8)
		if n < 1 {
			want.SetInt64(0)
		}
		if got := Blocks(n); int64(got) != want.Int64() {
			t.Errorf("Blocks(%d): %d, not %d", n, got, want)
		}
	}
}

// spoil writes over a leaf that was told, its spare room too, which holds nothing of anybody's.
func spoil(t *testing.T, what string, l Leaf) {
	for i, e := range l[len(l):cap(l)] {
		if e != (Entry{}) {
			t.Errorf("%s: %#v is handed out behind the length, at %d", what, e, i)
		}
	}
	l = l[:cap(l)]
	for i := range l {
		l[i] = Entry{Key: "spoilt", First: -1, Len: -1}
	}
}

// Rule 4: a leaf that is handed in is not changed, its spare room neither; what is told is new memory, all of it.
func TestOwnLeaves(t *testing.T) {
	for many := range 7 {
		whole := append(of(max(many, 1), 9)[:many:many], Entry{Key: "y", First: 8}, Entry{Key: "z", First: 9})
		want := slices.Clone(whole)
		l := whole[:many]
		for _, e := range append(around(l), want[many:]...) {
			p, q := l.Halves()
			got := []Leaf{p, q, l.With(e), l.Without(e.Key)}
			wantP, wantQ := meantHalves(want[:many])
			meant := []Leaf{wantP, wantQ, meantWith(want[:many], e), meantWithout(want[:many], e.Key)}
			if b, e := l.Put(); e == api.OK {
				clear(b[:cap(b)])
			}
			for i := range got {
				if !slices.Equal(got[i], meant[i]) {
					t.Fatalf("%d entries, With %#v, the answer %d: %#v, not %#v", many, e, i, got[i], meant[i])
				}
				spoil(t, "an answer", got[i])
			}
			if !slices.Equal(whole, want) {
				t.Fatalf("%d entries, With %#v: what was handed in is changed: %#v", many, e, whole)
			}
		}
	}
}

// Rule 4: what is told stays as it is, whatever becomes of what was handed in.
func TestKeepsNothing(t *testing.T) {
	l := of(5, 30)
	want := slices.Clone(l)
	p, q := l.Halves()
	with, without, none := l.With(Entry{Key: "z"}), l.Without(l[2].Key), l.Without("none")
	b, _ := l.Put()
	spoil(t, "a leaf", l)
	wantP, wantQ := meantHalves(want)
	for i, x := range []struct{ got, want Leaf }{{p, wantP}, {q, wantQ}, {with, meantWith(want, Entry{Key: "z"})}, {without, meantWithout(want, want[2].Key)}, {none, want}} {
		if !slices.Equal(x.got, x.want) {
			t.Errorf("the answer %d: %#v, not %#v", i, x.got, x.want)
		}
	}
	if !bytes.Equal(b, meantBlock(want)) {
		t.Errorf("Put: %x", b)
	}
}

// Rule 4: a block that is handed in is not changed, its spare room neither, and not kept.
func TestOwnBlocks(t *testing.T) {
	for _, l := range []Leaf{of(1, 1), of(6, 225), of(42, 45)} {
		whole := append(meantBlock(l), 1, 2, 3)
		want := slices.Clone(whole)
		got, e := Of(whole[:256])
		if !bytes.Equal(whole, want) {
			t.Fatalf("what was handed in is changed: %x", whole)
		}
		clear(whole)
		if e != api.OK || !slices.Equal(got, l) {
			t.Fatalf("behind a change of what was handed in: %#v, %d", got, e)
		}
		spoil(t, "of a block", got)
		if again, e := Of(want[:256]); e != api.OK || !slices.Equal(again, l) {
			t.Fatalf("again: %#v, %d", again, e)
		}
	}
}

// P12.1 to P12.4: any block, the leaf that it seems to have, any entry, and any number of bytes.
func FuzzLeaf(f *testing.F) {
	f.Add(meantBlock(of(6, 225)), "k", 1, 2)
	f.Add(meantBlock(of(42, 45)), strings.Repeat("\xff", 40), 4095, 8192)
	f.Add(meantBlock(nil), "", -1, math.MaxInt)
	f.Add([]byte{2, 1, 'a', 0, 0, 0, 0, 1, 'b'}, "ab", 4096, 8193)
	f.Fuzz(func(t *testing.T, block []byte, key string, first, long int) {
		same(t, "as it is", block)
		same(t, "as a block", append(slices.Clone(block), make([]byte, 256)...)[:256])
		l := loose(block)
		e := Entry{Key: key, First: first, Len: long}
		formed(t, "loose", l)
		asked(t, "loose", l, append(slices.Clone(l), e)...)
		with := l.With(e)
		formed(t, "With", with)
		asked(t, "With", with, append(slices.Clone(l), e)...)
		if n := Blocks(long); n < 0 || long < 1 && n != 0 || long >= 1 && (n < 1 || (n-1)*256 >= long || n < math.MaxInt/256 && n*256 < long) {
			t.Fatalf("Blocks(%d): %d", long, n)
		}
	})
}
