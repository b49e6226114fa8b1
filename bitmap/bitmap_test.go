package bitmap

import (
	"bytes"
	"math"
	"math/big"
	"slices"
	"testing"

	"saddlebag/api"
	"saddlebag/short"
)

// far are numbers at the edges of an int's range, and around those of numbers that are kept shorter.
var far = []int{math.MinInt, math.MinInt + 1, math.MinInt32, -65536, -4097, -4096, -256, -8, -2, -1, 4095, 4096, 4097, 65536, 1 << 32, math.MaxInt - 4096, math.MaxInt - 1, math.MaxInt}

// meantBytes tells the bytes of which each block is in use: of each one that is, the power of 2 is added.
func meantBytes(used []bool) []byte {
	out := make([]byte, len(used)/8+min(len(used)%8, 1))
	for n, is := range used {
		if is {
			out[n/8] += byte(math.Pow(2, float64(n%8)))
		}
	}
	return out
}

// meantOf tells of each block whether it is in use by bytes.
func meantOf(b []byte, blocks int) []bool {
	used := make([]bool, min(max(blocks, 0), 4096))
	for n := range used {
		used[n] = n/8 < len(b) && b[n/8]/byte(math.Pow(2, float64(n%8)))%2 == 1
	}
	return used
}

// meantSet tells of each block whether it is in use behind a run that is, or is not: by whole numbers, without an end.
func meantSet(used []bool, from, many int, is bool) []bool {
	first := big.NewInt(int64(from))
	behind := new(big.Int).Add(first, big.NewInt(int64(many)))
	out := slices.Clone(used)
	for n := range out {
		if at := big.NewInt(int64(n)); first.Cmp(at) <= 0 && at.Cmp(behind) < 0 {
			out[n] = is
		}
	}
	return out
}

// meantRun tells the least run, by going through all of them.
func meantRun(used []bool, many int) int {
	for n := range used {
		if many >= 1 && many <= len(used)-n && !slices.Contains(used[n:n+many], true) {
			return n
		}
	}
	return -1
}

// chance tells numbers that go up and down, from 0 to below n.
func chance(seed int) func(n int) int {
	state := uint64(seed)*0x9e3779b97f4a7c15 + 1
	return func(n int) int {
		state = state*6364136223846793005 + 1442695040888963407
		return int(state>>33) % n
	}
}

// mixed tells so many blocks, of which runs of at most so many are in use, or are not.
func mixed(seed, blocks, most int) []bool {
	pick := chance(seed)
	var out []bool
	for len(out) < blocks {
		out = append(out, slices.Repeat([]bool{pick(2) == 0}, 1+pick(most))...)
	}
	return out[:blocks]
}

// of tells the one that is meant.
func of(used []bool) Bits { return Of(meantBytes(used), len(used)) }

// holds holds what one tells against what is meant, but its runs.
func holds(t testing.TB, what string, s Bits, used []bool) {
	t.Helper()
	many := 0
	for n, is := range used {
		if s.Has(n) != is {
			t.Fatalf("%s: Has(%d) is %v, not %v", what, n, s.Has(n), is)
		}
		if is {
			many++
		}
	}
	if s.Len() != len(used) || s.Used() != many {
		t.Fatalf("%s: Len %d, Used %d; not %d, %d", what, s.Len(), s.Used(), len(used), many)
	}
	for _, n := range append([]int{len(used), len(used) + 1, len(used) + 7, len(used) + 8}, far...) {
		if (n < 0 || n >= len(used)) && s.Has(n) {
			t.Fatalf("%s: Has(%d), which is none", what, n)
		}
	}
	if b := s.Bytes(); !bytes.Equal(b, meantBytes(used)) {
		t.Fatalf("%s: Bytes %x, not %x", what, b, meantBytes(used))
	}
}

// runs holds each run that one tells against what is meant.
func runs(t testing.TB, what string, s Bits, used []bool) {
	t.Helper()
	for many := -2; many <= len(used)+9; many++ {
		if got, want := s.Run(many), meantRun(used, many); got != want {
			t.Fatalf("%s: of %x, Run(%d) is %d, not %d", what, s.Bytes(), many, got, want)
		}
	}
	for _, many := range far {
		if got, want := s.Run(many), meantRun(used, many); got != want {
			t.Fatalf("%s: of %x, Run(%d) is %d, not %d", what, s.Bytes(), many, got, want)
		}
	}
}

// P11.3, example 1.
func TestExample(t *testing.T) {
	s := New(8).With(0, 2).With(4, 1)
	for many, want := range []int{-1, 2, 2, 5, -1, -1} {
		if got := s.Run(many); got != want {
			t.Errorf("Run(%d): %d, not %d", many, got, want)
		}
	}
	if b := s.Bytes(); !bytes.Equal(b, []byte{0b00010011}) {
		t.Errorf("Bytes: %x", b)
	}
}

// P11.1: each number of blocks that there may be, and those that are cut, or are none.
func TestNew(t *testing.T) {
	for blocks := range api.MaxBlocks + 1 {
		s := New(blocks)
		if s.Len() != blocks || s.Used() != 0 || len(s.Bytes()) != (blocks+7)/8 || s.Has(0) || s.Has(blocks-1) {
			t.Fatalf("New(%d): Len %d, Used %d, %d bytes", blocks, s.Len(), s.Used(), len(s.Bytes()))
		}
		if full := s.With(0, blocks); full.Used() != blocks {
			t.Fatalf("%d blocks, all in use: %d", blocks, full.Used())
		}
	}
	for _, blocks := range far {
		want := make([]bool, min(max(blocks, 0), 4096))
		holds(t, "New, far", New(blocks), want)
		holds(t, "Of, far", Of(nil, blocks), want)
		all := slices.Repeat([]bool{true}, len(want))
		holds(t, "Of of many bytes, far", Of(bytes.Repeat([]byte{255}, 600), blocks), all)
	}
}

// P11.1: each byte, of each number of blocks around its edges: the bits of blocks that there are, lowest first; and bytes too few, or too many.
func TestOf(t *testing.T) {
	for c := range 256 {
		b := []byte{byte(c), byte(255 - c), byte(c)}
		for blocks := range 34 {
			for long := range len(b) + 1 {
				s := Of(b[:long], blocks)
				holds(t, "Of", s, meantOf(b[:long], blocks))
				holds(t, "Of again", Of(s.Bytes(), blocks), meantOf(b[:long], blocks))
			}
		}
	}
	s := Of([]byte{0x01, 0x80}, 16)
	if !s.Has(0) || !s.Has(15) || s.Used() != 2 {
		t.Errorf("the lowest bit is not the first block's: %x", s.Bytes())
	}
}

// P11.1: bits behind the last block are none of it, whatever is done with it later.
func TestBitsBehind(t *testing.T) {
	for blocks := range 20 {
		s := Of(bytes.Repeat([]byte{255}, 9), blocks)
		all := slices.Repeat([]bool{true}, blocks)
		holds(t, "all in use", s, all)
		holds(t, "With", s.With(0, math.MaxInt), all)
		holds(t, "Without", s.Without(0, math.MaxInt), make([]bool, blocks))
	}
}

// P11.2, P11.3: every short list of blocks, and each run in it, around it, and far off.
func TestShort(t *testing.T) {
	most := 9
	if testing.Short() {
		most = 6
	}
	for _, used := range short.Lists([]bool{false, true}, most) {
		s := of(used)
		holds(t, "Of", s, used)
		runs(t, "Of", s, used)
		for from := -2; from <= len(used)+2; from++ {
			for many := -1; many <= len(used)+4; many++ {
				holds(t, "With", s.With(from, many), meantSet(used, from, many, true))
				holds(t, "Without", s.Without(from, many), meantSet(used, from, many, false))
			}
		}
		holds(t, "as it was", s, used)
	}
}

// P11.2: runs that begin, or end, at the edges of the range.
func TestFarRuns(t *testing.T) {
	for _, blocks := range []int{0, 1, 8, 17, 4096} {
		used := mixed(blocks, blocks, 5)
		s := of(used)
		for _, from := range append([]int{0, 1, 7, 8, 9, blocks - 1, blocks, blocks + 1}, far...) {
			for _, many := range append([]int{0, 1, 2, 8}, far...) {
				if got, want := s.With(from, many).Bytes(), meantBytes(meantSet(used, from, many, true)); !bytes.Equal(got, want) {
					t.Fatalf("%d blocks: With(%d, %d): %x, not %x", blocks, from, many, got, want)
				}
				if got, want := s.Without(from, many).Bytes(), meantBytes(meantSet(used, from, many, false)); !bytes.Equal(got, want) {
					t.Fatalf("%d blocks: Without(%d, %d): %x, not %x", blocks, from, many, got, want)
				}
			}
		}
	}
}

// P11.3: long ones, of short runs and of long ones, at the edges of bytes and of all.
func TestLongRuns(t *testing.T) {
	for seed, blocks := range []int{63, 64, 65, 255, 256, 257, 300} {
		for _, most := range []int{1, 3, 9, 40, 200} {
			used := mixed(seed, blocks, most)
			runs(t, "long", of(used), used)
		}
	}
	s := New(api.MaxBlocks)
	for _, c := range []struct{ many, want int }{{1, 0}, {4095, 0}, {4096, 0}, {4097, -1}} {
		if got := s.Run(c.many); got != c.want {
			t.Errorf("none in use: Run(%d): %d, not %d", c.many, got, c.want)
		}
	}
	for _, c := range []struct{ at, many, want int }{{0, 4095, 1}, {0, 4096, -1}, {4095, 4095, 0}, {4095, 4096, -1}, {2000, 2000, 0}, {2000, 2001, 2001}, {2000, 2095, 2001}, {2000, 2096, -1}} {
		if got := s.With(c.at, 1).Run(c.many); got != c.want {
			t.Errorf("block %d in use: Run(%d): %d, not %d", c.at, c.many, got, c.want)
		}
	}
	if got := s.With(0, 4096).Run(1); got != -1 {
		t.Errorf("all in use: Run(1): %d", got)
	}
	if got := s.With(0, 4095).Run(1); got != 4095 {
		t.Errorf("all in use but the last one: Run(1): %d", got)
	}
}

// Rule 1: one that no call made has no blocks.
func TestNotMade(t *testing.T) {
	for name, s := range map[string]Bits{"plain": {}, "New": New(0), "Of": Of([]byte{255}, 0), "below 0": New(-1)} {
		holds(t, name, s, nil)
		runs(t, name, s, nil)
		for _, from := range append([]int{0, 1}, far...) {
			for _, many := range append([]int{0, 1}, far...) {
				holds(t, name+": With", s.With(from, many), nil)
				holds(t, name+": Without", s.Without(from, many), nil)
			}
		}
	}
}

// Rule 4: what is handed in is neither changed nor kept, its spare room neither; what is handed out is new memory, and none changes another one.
func TestOwnMemory(t *testing.T) {
	whole := []byte{0x0f, 0xff, 0x11, 0x22}
	b := whole[:2]
	used := meantOf([]byte{0x0f, 0xff}, 20)
	s := Of(b, 20)
	others := []Bits{s.With(4, 3), s.Without(8, 2), s.With(0, 0), s.Without(19, 5), s.With(-9, 1), s.Without(30, math.MaxInt)}
	want := [][]bool{meantSet(used, 4, 3, true), meantSet(used, 8, 2, false), used, used, used, used}
	if !bytes.Equal(whole, []byte{0x0f, 0xff, 0x11, 0x22}) {
		t.Fatalf("what was handed in is changed: %x", whole)
	}
	for i := range whole {
		whole[i] = 0x55
	}
	spoil := func(s Bits) {
		out := s.Bytes()
		out = out[:cap(out)]
		for i := range out {
			out[i] ^= 0xff
		}
	}
	spoil(s)
	for i, o := range others {
		spoil(o)
		o.With(0, 20)
		o.Without(0, 20)
		holds(t, "another one", o, want[i])
	}
	holds(t, "this one", s, used)
	runs(t, "this one", s, used)
}

// P11.1 to P11.3: any bytes, of any number of blocks, and any run.
func FuzzBits(f *testing.F) {
	f.Add([]byte{0x0f, 0xff}, 11, 9, 5)
	f.Add([]byte{}, -4, -1, 2)
	f.Add([]byte{0x13}, 8, 4, 4)
	f.Add(bytes.Repeat([]byte{0xf0}, 512), 4096, math.MaxInt, math.MaxInt)
	f.Fuzz(func(t *testing.T, b []byte, blocks, from, many int) {
		used := meantOf(b, blocks)
		s := Of(b, blocks)
		holds(t, "Of", s, used)
		holds(t, "With", s.With(from, many), meantSet(used, from, many, true))
		holds(t, "Without", s.Without(from, many), meantSet(used, from, many, false))
		for _, many := range []int{many, from, 1, 2, 3, 8, 17} {
			if got, want := s.Run(many), meantRun(used, many); got != want {
				t.Fatalf("of %x, Run(%d) is %d, not %d", s.Bytes(), many, got, want)
			}
		}
	})
}
