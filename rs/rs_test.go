package rs

import (
	"bytes"
	"math"
	"slices"
	"testing"

	"saddlebag/api"
	"saddlebag/gf"
	"saddlebag/short"
)

// coder makes one, which must be.
func coder(t testing.TB, data, more int) *Coder {
	t.Helper()
	c, e := New(data, more)
	if e != api.OK || c == nil {
		t.Fatalf("New of %d and %d: error %d", data, more, int(e))
	}
	return c
}

// notMade tells the two kinds of a Coder that no call made.
func notMade() map[string]*Coder { return map[string]*Coder{"nil": nil, "plain": {}} }

// mixed tells shards of bytes that go up and down, other ones for each seed; one without bytes is there, too.
func mixed(many, size, seed int) [][]byte {
	state := uint32(seed)*2654435761 + 1
	out := make([][]byte, many)
	for i := range out {
		out[i] = []byte{}
		for range size {
			state = state*1664525 + 1013904223
			out[i] = append(out[i], byte(state>>24))
		}
	}
	return out
}

// chance tells numbers that go up and down, from 0 to below n.
func chance(seed int) func(n int) int {
	state := uint64(seed)*0x9e3779b97f4a7c15 + 1
	return func(n int) int {
		state = state*6364136223846793005 + 1442695040888963407
		return int(state>>33) % n
	}
}

// cloned tells shards in other memory; those that are not there are not there either.
func cloned(l [][]byte) [][]byte {
	out := make([][]byte, len(l))
	for i, s := range l {
		if s != nil {
			out[i] = append([]byte{}, s...)
		}
	}
	return out
}

// alike tells whether two lists are, and have shards at the same places.
func alike(a, b [][]byte) bool {
	return slices.EqualFunc(a, b, func(x, y []byte) bool { return (x == nil) == (y == nil) && bytes.Equal(x, y) })
}

// meantNumber tells what a shard of data is multiplied with in one of the shards more: by the words of chapter 5.
func meantNumber(data, row, col int) byte {
	return gf.New().Inv(byte(row+data) ^ byte(col))
}

// meantAll goes byte by byte.
func meantAll(data [][]byte, more int) [][]byte {
	out := cloned(data)
	for row := range more {
		shard := make([]byte, len(data[0]))
		for k := range shard {
			for col := range data {
				shard[k] ^= gf.New().Mul(data[col][k], meantNumber(len(data), row, col))
			}
		}
		out = append(out, shard)
	}
	return out
}

// meantLevel tells whether the shards that are there are of one length.
func meantLevel(l [][]byte) bool {
	for _, a := range l {
		for _, b := range l {
			if a != nil && b != nil && len(a) != len(b) {
				return false
			}
		}
	}
	return true
}

func count(l [][]byte) int {
	n := 0
	for _, s := range l {
		if s != nil {
			n++
		}
	}
	return n
}

// check holds an answer against what is meant; where an error is, nothing else may be.
func check(t *testing.T, what string, got [][]byte, e api.Errno, want [][]byte, bad api.Errno) {
	t.Helper()
	if e != bad || bad != api.OK && len(got) != 0 || bad == api.OK && !alike(got, want) {
		t.Fatalf("%s: %x, error %d; not %x, error %d", what, got, int(e), want, int(bad))
	}
}

// P6.1: every two numbers about the edges, and those at the ends of the range, where a sum would leave it.
func TestNewCounts(t *testing.T) {
	numbers := []int{math.MinInt, math.MinInt + 1, math.MinInt32, -255, math.MaxInt32, math.MaxInt - 255, math.MaxInt - 254, math.MaxInt - 1, math.MaxInt, 1 << 32, 1<<32 + 1, 65536, 65537}
	for i := -3; i <= 260; i++ {
		numbers = append(numbers, i)
	}
	for _, data := range numbers {
		for _, more := range numbers {
			right := data >= 1 && data <= 255 && more >= 0 && more <= 255 && data+more <= 255
			c, e := New(data, more)
			if right != (e == api.OK) || right != (c != nil) || !right && e != api.ErrArg {
				t.Fatalf("New of %d and %d: %v, error %d", data, more, c, int(e))
			}
			if d, m := c.Counts(); right && (d != data || m != more) || !right && (d != 0 || m != 0) {
				t.Fatalf("Counts of %d and %d: %d, %d", data, more, d, m)
			}
		}
	}
}

// P6.1: by hand.
func TestNewByHand(t *testing.T) {
	for _, c := range []struct {
		data, more int
		want       api.Errno
	}{{1, 0, 0}, {1, 254, 0}, {255, 0, 0}, {254, 1, 0}, {0, 0, 2}, {0, 5, 2}, {1, -1, 2}, {-1, 3, 2}, {1, 255, 2}, {256, 0, 2}, {255, 1, 2}, {256, -1, 2}, {-1, 256, 2}, {128, 128, 2}} {
		if _, e := New(c.data, c.more); e != c.want {
			t.Errorf("New of %d and %d: error %d", c.data, c.more, int(e))
		}
	}
}

// P6.1 to P6.3, rule 1: of one that no call made, whatever it is given.
func TestNotMade(t *testing.T) {
	for name, c := range notMade() {
		if data, more := c.Counts(); data != 0 || more != 0 {
			t.Errorf("%s: Counts %d, %d", name, data, more)
		}
		for _, l := range short.Lists([][]byte{nil, {}, {1}, {1, 2}}, 3) {
			got, e := c.Encode(l)
			check(t, name+": Encode", got, e, nil, api.ErrNil)
			got, e = c.Decode(l)
			check(t, name+": Decode", got, e, nil, api.ErrNil)
			if c.Right(l) {
				t.Errorf("%s: Right of %x", name, l)
			}
		}
	}
}

func checkEncode(t *testing.T, c *Coder, data [][]byte) {
	t.Helper()
	of, more := c.Counts()
	want, bad := [][]byte(nil), api.ErrArg
	if len(data) == of && count(data) == of && meantLevel(data) {
		want, bad = meantAll(data, more), api.OK
	}
	got, e := c.Encode(data)
	check(t, "Encode", got, e, want, bad)
	if bad == api.OK && !c.Right(got) {
		t.Fatalf("Right of %x, which Encode told: false", got)
	}
}

// P6.2: every short list of shards, those that may not be, too.
func TestEncodeShort(t *testing.T) {
	lists := short.Lists([][]byte{nil, {}, {0}, {2}, {0x80, 1}, {1, 2}}, 4)
	for _, counts := range [][2]int{{1, 0}, {1, 1}, {1, 2}, {2, 0}, {2, 1}, {2, 3}, {3, 0}, {3, 2}} {
		c := coder(t, counts[0], counts[1])
		for _, l := range lists {
			checkEncode(t, c, l)
		}
	}
}

// P6.2: at the edges of how many shards there may be, without bytes, with one, and with more than there are numbers; and one too many, one too few, one that is nil, or of another length.
func TestEncodeEdges(t *testing.T) {
	for _, counts := range edges() {
		c := coder(t, counts[0], counts[1])
		for _, size := range []int{0, 1, 3} {
			l := mixed(counts[0], size, size)
			checkEncode(t, c, l)
			checkEncode(t, c, l[1:])
			checkEncode(t, c, append(cloned(l), make([]byte, size)))
			for _, i := range []int{0, counts[0] / 2, counts[0] - 1} {
				for _, other := range [][]byte{nil, {}, make([]byte, size+1)} {
					bad := cloned(l)
					bad[i] = other
					checkEncode(t, c, bad)
				}
			}
		}
	}
	checkEncode(t, coder(t, 3, 2), mixed(3, 3000, 1))
	checkEncode(t, coder(t, 1, 1), mixed(1, api.MaxBundle, 1))
}

// edges tells counts at which something ends.
func edges() [][2]int {
	return [][2]int{{1, 0}, {1, 1}, {1, 254}, {2, 253}, {3, 2}, {16, 4}, {127, 128}, {128, 127}, {200, 55}, {254, 0}, {254, 1}, {255, 0}}
}

// P6.2: the chapter's example, and others, by hand.
func TestEncodeByHand(t *testing.T) {
	f := gf.New()
	got, e := coder(t, 1, 2).Encode([][]byte{{1, 2, 0x80}})
	check(t, "1 of data, 2 more", got, e, [][]byte{{1, 2, 0x80}, {1, 2, 0x80}, {0x8e, 1, 0x40}}, api.OK)

	got, e = coder(t, 2, 1).Encode([][]byte{{2, 0}, {0, 3}})
	check(t, "2 of data, 1 more", got, e, [][]byte{{2, 0}, {0, 3}, {1, 1}}, api.OK)

	got, e = coder(t, 3, 2).Encode([][]byte{{1, 0, 0}, {0, 1, 0}, {0, 0, 1}})
	check(t, "3 of data, 2 more", got, e, [][]byte{{1, 0, 0}, {0, 1, 0}, {0, 0, 1}, {f.Inv(3), f.Inv(2), 1}, {f.Inv(4), f.Inv(5), f.Inv(6)}}, api.OK)

	got, e = coder(t, 2, 0).Encode([][]byte{{7}, {8}})
	check(t, "2 of data, none more", got, e, [][]byte{{7}, {8}}, api.OK)

	got, e = coder(t, 1, 1).Encode([][]byte{{}})
	check(t, "one without bytes", got, e, [][]byte{{}, {}}, api.OK)
}

// P6.2, example 1: of one shard of data each one is a multiple, and not 0.
func TestEncodeMultiples(t *testing.T) {
	f := gf.New()
	all, _ := coder(t, 1, 254).Encode([][]byte{{1, 5, 0xff}})
	for _, s := range all {
		if s[0] == 0 || !bytes.Equal(s, f.Scale([]byte{1, 5, 0xff}, s[0])) {
			t.Fatalf("no multiple: %x", s)
		}
	}
}

// P6.2: every short list: whether it is all shards.
func TestRightShort(t *testing.T) {
	lists := short.Lists([][]byte{nil, {}, {0}, {1}, {2}, {0x8e}, {0, 0}, {1, 2}}, 4)
	for _, counts := range [][2]int{{1, 0}, {1, 1}, {1, 2}, {2, 0}, {2, 1}, {2, 2}, {3, 0}, {3, 1}} {
		c := coder(t, counts[0], counts[1])
		for _, l := range lists {
			want := len(l) == counts[0]+counts[1] && count(l) == len(l) && meantLevel(l) && alike(l, meantAll(l[:counts[0]], counts[1]))
			if got := c.Right(l); got != want {
				t.Fatalf("Right of %x, %v: %v", l, counts, got)
			}
		}
	}
}

// P6.2: all shards, with one byte that is another one, one byte more or fewer, one shard that is nil, one more or fewer, or two that are changed with each other.
func TestRightEdges(t *testing.T) {
	for _, counts := range edges() {
		c := coder(t, counts[0], counts[1])
		all := meantAll(mixed(counts[0], 4, 9), counts[1])
		if !c.Right(all) {
			t.Fatalf("%v: not right", counts)
		}
		if c.Right(all[1:]) || c.Right(all[:len(all)-1]) || c.Right(append(cloned(all), make([]byte, 4))) || c.Right(append(cloned(all), nil)) || c.Right(nil) || c.Right(all[:counts[0]-1]) {
			t.Errorf("%v: right with shards too many, or too few", counts)
		}
		if counts[1] > 0 {
			checkRightSpoilt(t, c, all)
		}
		empty := meantAll(mixed(counts[0], 0, 0), counts[1])
		if !c.Right(empty) {
			t.Errorf("%v: not right, without bytes", counts)
		}
		for _, i := range []int{0, counts[0] - 1, len(all) - 1} {
			empty[i] = nil
			if c.Right(empty) {
				t.Errorf("%v: right, with shard %d not there", counts, i)
			}
			empty[i] = []byte{}
		}
	}
}

// checkRightSpoilt needs shards more, since of data alone all are right that are of one length.
func checkRightSpoilt(t *testing.T, c *Coder, all [][]byte) {
	t.Helper()
	data, _ := c.Counts()
	for _, i := range []int{0, data - 1, data, len(all) - 1} {
		for _, other := range [][]byte{nil, {}, all[i][:3], append(slices.Clone(all[i]), 0), {all[i][0] ^ 1, all[i][1], all[i][2], all[i][3]}, {all[i][0], all[i][1], all[i][2], all[i][3] ^ 0x80}} {
			bad := cloned(all)
			bad[i] = other
			if c.Right(bad) {
				t.Fatalf("right, with shard %d: %x", i, other)
			}
		}
	}
	if data > 1 {
		bad := cloned(all)
		bad[0], bad[1] = bad[1], bad[0]
		if c.Right(bad) {
			t.Error("right, turned round")
		}
	}
}

// checkDecode goes by the words: of what is told, Encode must tell the first shards that are there, at their places. (There is just one such answer, as TestAnyMakeAll shows.)
func checkDecode(t *testing.T, c *Coder, l [][]byte) {
	t.Helper()
	data, more := c.Counts()
	got, e := c.Decode(l)
	switch {
	case len(l) != data+more || !meantLevel(l):
		check(t, "Decode", got, e, nil, api.ErrArg)
		return
	case count(l) < data:
		check(t, "Decode", got, e, nil, api.ErrFew)
		return
	}
	if e != api.OK || len(got) != data || count(got) != data {
		t.Fatalf("Decode of %x: %x, error %d", l, got, int(e))
	}
	all := meantAll(got, more)
	left := data
	for i, s := range l {
		if s == nil || left == 0 {
			continue
		}
		left--
		if !bytes.Equal(s, all[i]) {
			t.Fatalf("Decode of %x: %x, of which shard %d is %x", l, got, i, all[i])
		}
	}
}

// P6.3: every short list of shards, whether they go together or not, and those that may not be.
func TestDecodeShort(t *testing.T) {
	lists := short.Lists([][]byte{nil, {}, {0}, {2}, {0x80, 1}, {0x1d, 2}}, 5)
	for _, counts := range [][2]int{{1, 0}, {1, 1}, {1, 2}, {1, 3}, {2, 0}, {2, 1}, {2, 2}, {3, 0}, {3, 1}, {2, 3}, {3, 2}, {4, 1}} {
		c := coder(t, counts[0], counts[1])
		for _, l := range lists {
			checkDecode(t, c, l)
		}
	}
}

// P6.3: the first shards that are there count, data many; those behind them may be anything of their length.
func TestDecodeFirst(t *testing.T) {
	c := coder(t, 3, 4)
	data := mixed(3, 5, 2)
	all := meantAll(data, 4)
	for chosen := range 1 << 7 {
		l := make([][]byte, 7)
		left := 3
		for i := range l {
			if chosen>>i&1 == 0 {
				continue
			}
			l[i] = []byte("wrong")
			if left > 0 {
				l[i] = all[i]
			}
			left--
		}
		got, e := c.Decode(l)
		if left > 0 {
			check(t, "too few", got, e, nil, api.ErrFew)
		} else {
			check(t, "first ones right", got, e, data, api.OK)
		}
	}
}

// P6.3: by hand, with errors in their order: what may not be is told ahead of too few.
func TestDecodeByHand(t *testing.T) {
	for _, c := range []struct {
		data, more int
		l, want    [][]byte
		bad        api.Errno
	}{
		{1, 2, [][]byte{nil, nil, {0x8e, 1}}, [][]byte{{1, 2}}, api.OK},
		{1, 2, [][]byte{nil, {1, 2}, {9, 9}}, [][]byte{{1, 2}}, api.OK},
		{1, 2, [][]byte{{7, 7}, {1, 2}, {9, 9}}, [][]byte{{7, 7}}, api.OK},
		{1, 2, [][]byte{nil, {1, 2}, {9}}, nil, api.ErrArg},
		{1, 2, [][]byte{nil, nil, nil}, nil, api.ErrFew},
		{1, 2, [][]byte{nil, nil, {}}, [][]byte{{}}, api.OK},
		{1, 2, [][]byte{{}, nil, nil}, [][]byte{{}}, api.OK},
		{1, 2, [][]byte{{1}, nil, {}}, nil, api.ErrArg},
		{1, 2, [][]byte{{1}, {1}}, nil, api.ErrArg},
		{1, 2, [][]byte{nil, nil}, nil, api.ErrArg},
		{1, 2, nil, nil, api.ErrArg},
		{1, 2, [][]byte{}, nil, api.ErrArg},
		{1, 2, [][]byte{{1}, nil, nil, nil}, nil, api.ErrArg},
		{2, 1, [][]byte{nil, {0, 3}, {1, 1}}, [][]byte{{2, 0}, {0, 3}}, api.OK},
		{2, 1, [][]byte{{2, 0}, nil, {1, 1}}, [][]byte{{2, 0}, {0, 3}}, api.OK},
		{2, 1, [][]byte{{2, 0}, {0, 3}, nil}, [][]byte{{2, 0}, {0, 3}}, api.OK},
		{2, 1, [][]byte{{2, 0}, nil, nil}, nil, api.ErrFew},
		{2, 1, [][]byte{nil, nil, {1, 1}}, nil, api.ErrFew},
		{3, 1, [][]byte{{2, 0}, nil, {1}, nil}, nil, api.ErrArg},
		{2, 0, [][]byte{{5}, {6}}, [][]byte{{5}, {6}}, api.OK},
		{2, 0, [][]byte{{5}, nil}, nil, api.ErrFew},
		{2, 0, [][]byte{{5}, {}}, nil, api.ErrArg},
	} {
		got, e := coder(t, c.data, c.more).Decode(c.l)
		check(t, "Decode", got, e, c.want, c.bad)
	}
}

// P6.3: at the edges of how many shards there may be: all, just enough, one too few, one of another length, one more.
func TestDecodeEdges(t *testing.T) {
	for _, counts := range edges() {
		c := coder(t, counts[0], counts[1])
		for _, size := range []int{0, 1, 3} {
			all := mixed(counts[0]+counts[1], size, size)
			checkDecode(t, c, all)
			checkDecode(t, c, all[1:])
			checkDecode(t, c, append(cloned(all), nil))
			few := cloned(all)
			for i := range counts[1] {
				few[i] = nil
			}
			checkDecode(t, c, few)
			last := cloned(few)
			last[len(last)-1] = nil
			checkDecode(t, c, last)
			last[len(last)-1] = make([]byte, size+1)
			checkDecode(t, c, last)
		}
	}
}

// kept tells shards of which just those are there that are chosen.
func kept(l [][]byte, chosen []int) [][]byte {
	out := make([][]byte, len(l))
	for _, i := range chosen {
		out[i] = l[i]
	}
	return out
}

// P6.5: of small coders, every choice of shards that is great enough makes the data again, and each smaller one is too few.
func TestAnyMakeAll(t *testing.T) {
	for data := 1; data <= 6; data++ {
		for more := 0; more <= 5; more++ {
			c := coder(t, data, more)
			for _, size := range []int{0, 1, 4} {
				first := mixed(data, size, data+more)
				all, _ := c.Encode(first)
				for chosen := range 1 << (data + more) {
					var places []int
					for i := range all {
						if chosen>>i&1 == 1 {
							places = append(places, i)
						}
					}
					got, e := c.Decode(kept(all, places))
					if len(places) < data {
						check(t, "too few", got, e, nil, api.ErrFew)
					} else {
						check(t, "enough", got, e, first, api.OK)
					}
				}
			}
		}
	}
}

// P6.5: of great coders, choices of just as many as are needed: the last ones, and such by chance.
func TestAnyMakeAllGreat(t *testing.T) {
	for n, counts := range edges() {
		c := coder(t, counts[0], counts[1])
		first := mixed(counts[0], 5, n)
		all, _ := c.Encode(first)
		pick := chance(n)
		tries := 3
		if testing.Short() {
			tries = 1
		}
		for try := range tries {
			var places []int
			for i := range all {
				places = append(places, i)
			}
			for try > 0 && len(places) > counts[0] {
				i := pick(len(places))
				places = slices.Delete(places, i, i+1)
			}
			got, e := c.Decode(kept(all, places[len(places)-counts[0]:]))
			check(t, "enough", got, e, first, api.OK)
		}
	}
}

// meantCut goes byte by byte.
func meantCut(b []byte, many int) [][]byte {
	size := 1
	for size*many < len(b) {
		size++
	}
	out := make([][]byte, many)
	for i := range size * many {
		x := byte(0)
		if i < len(b) {
			x = b[i]
		}
		out[i/size] = append(out[i/size], x)
	}
	return out
}

func checkCut(t *testing.T, b []byte, many int) {
	t.Helper()
	want, bad := [][]byte(nil), api.ErrArg
	if many >= 1 && many <= 255 {
		want, bad = meantCut(b, many), api.OK
	}
	got, e := Cut(b, many)
	check(t, "Cut", got, e, want, bad)
	if bad == api.OK {
		again, e := Join(got, len(b))
		checkBytes(t, "Cut, and joined", again, e, b, api.OK)
	}
}

func checkBytes(t *testing.T, what string, got []byte, e api.Errno, want []byte, bad api.Errno) {
	t.Helper()
	if e != bad || bad != api.OK && len(got) != 0 || bad == api.OK && !bytes.Equal(got, want) {
		t.Fatalf("%s: %x, error %d; not %x, error %d", what, got, int(e), want, int(bad))
	}
}

// P6.4: bytes of all small lengths as any number of shards that may be, and the edges; they join again.
func TestCut(t *testing.T) {
	for long := range 40 {
		b := mixed(1, long, long)[0]
		for many := -2; many <= 260; many++ {
			checkCut(t, b, many)
		}
	}
	for _, long := range []int{0, 1, 253, 254, 255, 256, 257, 509, 510, 511, 765, api.MaxBundle - 1, api.MaxBundle, api.MaxBundle + 1} {
		b := mixed(1, long, long)[0]
		for _, many := range []int{math.MinInt, -255, -1, 0, 1, 2, 3, 127, 128, 254, 255, 256, 257, 511, 65537, math.MaxInt32, 1<<32 + 1, math.MaxInt} {
			checkCut(t, b, many)
		}
	}
	checkCut(t, nil, 0)
	checkCut(t, nil, 1)
	checkCut(t, nil, 255)
}

// P6.4: by hand: a last shard that is not filled, and one that has nothing at all.
func TestCutByHand(t *testing.T) {
	for _, c := range []struct {
		b    string
		many int
		want []string
		bad  api.Errno
	}{
		{"abcdefgh", 3, []string{"abc", "def", "gh\x00"}, 0},
		{"abcd", 3, []string{"ab", "cd", "\x00\x00"}, 0},
		{"abcdef", 3, []string{"ab", "cd", "ef"}, 0},
		{"abcdefg", 3, []string{"abc", "def", "g\x00\x00"}, 0},
		{"abcdef", 4, []string{"ab", "cd", "ef", "\x00\x00"}, 0},
		{"abc", 1, []string{"abc"}, 0},
		{"a", 3, []string{"a", "\x00", "\x00"}, 0},
		{"", 2, []string{"\x00", "\x00"}, 0},
		{"", 1, []string{"\x00"}, 0},
		{"abc", 0, nil, api.ErrArg},
		{"abc", -1, nil, api.ErrArg},
		{"abc", 256, nil, api.ErrArg},
		{"", 0, nil, api.ErrArg},
	} {
		var want [][]byte
		for _, s := range c.want {
			want = append(want, []byte(s))
		}
		got, e := Cut([]byte(c.b), c.many)
		check(t, "Cut", got, e, want, c.bad)
	}
}

func checkJoin(t *testing.T, l [][]byte, many int) {
	t.Helper()
	var all []byte
	for _, s := range l {
		all = append(all, s...)
	}
	want, bad := []byte(nil), api.OK
	switch {
	case many < 0:
		bad = api.ErrArg
	case many > len(all):
		bad = api.ErrEnd
	default:
		want = all[:many]
	}
	got, e := Join(l, many)
	checkBytes(t, "Join", got, e, want, bad)
}

// P6.4: every short list of shards, of unlike lengths too, and nil ones; any number of bytes.
func TestJoinShort(t *testing.T) {
	for _, l := range short.Lists([][]byte{nil, {}, {0}, {1, 2}, {3, 4, 5}}, 4) {
		for many := -2; many <= 14; many++ {
			checkJoin(t, l, many)
		}
	}
}

// P6.4: numbers for which there could be no memory, and more shards than a coder has.
func TestJoinEdges(t *testing.T) {
	for _, l := range [][][]byte{nil, {}, {nil}, {{}}, {{1}}, {nil, {1, 2}, nil, {3}, {}}, mixed(255, 3, 1), mixed(300, 7, 1), mixed(1, api.MaxBundle+1, 1)} {
		long := 0
		for _, s := range l {
			long += len(s)
		}
		for _, many := range []int{math.MinInt, math.MinInt32, -1, 0, 1, long - 1, long, long + 1, long + 255, math.MaxInt32, math.MaxInt32 + 1, math.MaxInt - 1, math.MaxInt} {
			checkJoin(t, l, many)
		}
	}
	got, e := Join([][]byte{[]byte("abc"), nil, []byte("d"), []byte("efg")}, 5)
	checkBytes(t, "Join by hand", got, e, []byte("abcde"), api.OK)
}

// P6.4, P6.5, example 4 of the whole: what is cut and encoded comes again of any three.
func TestCutEncodeDecodeJoin(t *testing.T) {
	c := coder(t, 3, 2)
	data, _ := Cut([]byte("abcdefgh"), 3)
	all, _ := c.Encode(data)
	for i := range all {
		for j := range i {
			l := cloned(all)
			l[i], l[j] = nil, nil
			back, e := c.Decode(l)
			check(t, "Decode", back, e, data, api.OK)
			b, e := Join(back, 8)
			checkBytes(t, "Join", b, e, []byte("abcdefgh"), api.OK)
		}
	}
}

// calls tells each call that answers lists, of 3 shards of data and 2 more, by its name; l is all shards, some of which are not there.
func calls(t *testing.T) map[string]func(l [][]byte) ([][]byte, api.Errno) {
	c := coder(t, 3, 2)
	return map[string]func(l [][]byte) ([][]byte, api.Errno){
		"Encode":       func(l [][]byte) ([][]byte, api.Errno) { return c.Encode(l[2:5]) },
		"Encode alone": func(l [][]byte) ([][]byte, api.Errno) { return coder(t, 3, 0).Encode(l[2:5]) },
		"Encode twice": func(l [][]byte) ([][]byte, api.Errno) { return c.Encode([][]byte{l[2], l[2], l[2]}) },
		"Decode":       c.Decode,
		"Decode alone": func(l [][]byte) ([][]byte, api.Errno) { return coder(t, 3, 0).Decode(l[2:5]) },
		"Decode few":   func(l [][]byte) ([][]byte, api.Errno) { return coder(t, 1, 4).Decode(l) },
		"Cut":          func(l [][]byte) ([][]byte, api.Errno) { return Cut(l[2], 2) },
		"Cut once":     func(l [][]byte) ([][]byte, api.Errno) { return Cut(l[2], 1) },
		"Join": func(l [][]byte) ([][]byte, api.Errno) {
			b, e := Join(l, 7)
			return [][]byte{b}, e
		},
		"Join one": func(l [][]byte) ([][]byte, api.Errno) {
			b, e := Join(l[2:3], 4)
			return [][]byte{b}, e
		},
		"Right": func(l [][]byte) ([][]byte, api.Errno) {
			if c.Right(l) || !coder(t, 3, 0).Right(l[2:5]) {
				return nil, api.ErrForm
			}
			return nil, api.OK
		},
	}
}

// roomy tells shards with spare room behind them, and behind each of them; whole is all of that.
func roomy(l [][]byte) (out, whole [][]byte) {
	for _, s := range l {
		if s == nil {
			whole = append(whole, nil)
			continue
		}
		whole = append(whole, append(slices.Clone(s), 0xee, 0xdd))
	}
	for range 4 {
		whole = append(whole, []byte{0xcc, 0xbb})
	}
	out = slices.Clone(whole)[:len(l)]
	for i := range out {
		out[i] = out[i][:len(l[i])]
	}
	return out, whole
}

// behind tells what stands in a list's spare room.
func behind(l [][]byte) [][]byte { return l[len(l):cap(l)] }

// spoil changes all of a list, spare room too.
func spoil(l []byte) {
	l = l[:cap(l)]
	for i := range l {
		l[i] ^= 0xa5
	}
}

// Rule 4: what is handed in stays as it was, with what lies behind it; what is handed out is the caller's own, and so is each shard of it.
func TestOwnMemory(t *testing.T) {
	all := meantAll(mixed(3, 4, 1), 2)
	all[0], all[1] = nil, nil
	for name, call := range calls(t) {
		l, whole := roomy(all)
		was, tail := cloned(whole), cloned(behind(l))
		same := func() bool { return alike(whole, was) && alike(l, all) && alike(behind(l), tail) }
		got, e := call(l)
		if e != api.OK || !same() {
			t.Fatalf("%s: error %d, or what was handed in is changed", name, int(e))
		}
		want := cloned(got)
		for i := range got {
			spoil(got[i])
			for j := range got {
				if j > i && !bytes.Equal(got[j], want[j]) {
					t.Fatalf("%s: shards %d and %d share memory", name, i, j)
				}
			}
		}
		clear(got[:cap(got)])
		if !same() {
			t.Fatalf("%s: what was handed out is what was handed in", name)
		}
		again, e := call(l)
		for i := range whole {
			spoil(whole[i])
		}
		check(t, name+" again, with what was handed in spoilt", again, e, want, api.OK)
	}
}

// Rule 4: nothing is changed either where there is an error.
func TestOwnMemoryWrong(t *testing.T) {
	c := coder(t, 3, 2)
	all := [][]byte{nil, {1, 2}, nil, {3}, {4, 5}}
	l, whole := roomy(all)
	was, tail := cloned(whole), cloned(behind(l))
	for _, e := range []api.Errno{
		func() api.Errno { _, e := c.Encode(l[:3]); return e }(),
		func() api.Errno { _, e := c.Encode(l); return e }(),
		func() api.Errno { _, e := c.Decode(l); return e }(),
		func() api.Errno { _, e := c.Decode(l[1:]); return e }(),
		func() api.Errno { _, e := coder(t, 4, 0).Decode([][]byte{l[1], nil, nil, l[4]}); return e }(),
		func() api.Errno { _, e := Join(l, 6); return e }(),
		func() api.Errno { _, e := Join(l, -1); return e }(),
		func() api.Errno { _, e := Cut(l[1], 0); return e }(),
	} {
		if e == api.OK {
			t.Error("no error")
		}
	}
	if c.Right(l) || !alike(whole, was) || !alike(l, all) || !alike(behind(l), tail) {
		t.Errorf("what was handed in: %x", whole)
	}
}

// Rule 5: what was done with a coder ahead of a call is not told.
func TestNothingKept(t *testing.T) {
	c := coder(t, 3, 2)
	for seed := range 20 {
		checkEncode(t, c, mixed(3, seed, seed))
		checkDecode(t, c, mixed(5, 20-seed, seed))
		c.Encode(nil)
		c.Decode([][]byte{nil, nil, nil, {1}, {2}})
		c.Right([][]byte{{1}})
		if data, more := c.Counts(); data != 3 || more != 2 {
			t.Fatalf("Counts: %d, %d", data, more)
		}
	}
}

// FuzzDecode looks for shards of which Decode tells something that is not meant, and for data that do not come again.
func FuzzDecode(f *testing.F) {
	f.Add([]byte("abcdefgh"), byte(3), byte(2), uint64(0b11001), byte(1))
	f.Add([]byte{}, byte(1), byte(0), uint64(1), byte(0))
	f.Add([]byte{1, 2, 3}, byte(2), byte(7), uint64(0b110000000), byte(9))
	f.Fuzz(func(t *testing.T, b []byte, data, more byte, chosen uint64, long byte) {
		if len(b) > 4096 {
			return
		}
		c := coder(t, int(data)%24+1, int(more)%24)
		of, behind := c.Counts()
		checkCut(t, b, of)
		cut, _ := Cut(b, of)
		checkEncode(t, c, cut)
		all, _ := c.Encode(cut)
		l := make([][]byte, len(all))
		wild := make([][]byte, len(all))
		for i := range l {
			if chosen>>i&1 == 1 {
				l[i] = all[i]
				wild[i] = make([]byte, int(long)%8)
				copy(wild[i], b[min(i*3, len(b)):])
			}
		}
		checkDecode(t, c, l)
		checkDecode(t, c, wild)
		if got, e := c.Decode(l); count(l) >= of {
			check(t, "Decode", got, e, cut, api.OK)
			checkJoin(t, got, len(b))
			checkJoin(t, got, int(long)*behind)
		}
	})
}
