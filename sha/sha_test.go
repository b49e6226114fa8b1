package sha

import (
	"bytes"
	"crypto/sha256"
	"encoding/hex"
	"math"
	"math/big"
	"strings"
	"testing"
)

// some tells so many bytes of which no two blocks are the same.
func some(many int) []byte {
	out := make([]byte, many)
	x := uint32(many) + 1
	for i := range out {
		x = x*1664525 + 1013904223
		out[i] = byte(x >> 24)
	}
	return out
}

func primes(many int) []int64 {
	var out []int64
	for n := int64(2); len(out) < many; n++ {
		if big.NewInt(n).ProbablyPrime(0) {
			out = append(out, n)
		}
	}
	return out
}

// behindPoint tells the first 32 bits behind the point of a prime's root: the greatest whole r with r^power at most prime * 2^(32*power), without its whole part.
func behindPoint(prime int64, power int64) uint32 {
	bound := new(big.Int).Lsh(big.NewInt(prime), uint(32*power))
	r := new(big.Int)
	for bit := 40; bit >= 0; bit-- {
		r.SetBit(r, bit, 1)
		if new(big.Int).Exp(r, big.NewInt(power), nil).Cmp(bound) > 0 {
			r.SetBit(r, bit, 0)
		}
	}
	return uint32(r.Uint64())
}

// P2.1: each constant is worked out from its prime.
func TestConstants(t *testing.T) {
	got := First()
	for i, p := range primes(8) {
		if want := behindPoint(p, 2); got[i] != want {
			t.Errorf("First %d, of %d: %08x, not %08x", i, p, got[i], want)
		}
	}
	all := Rounds()
	for i, p := range primes(64) {
		if want := behindPoint(p, 3); all[i] != want {
			t.Errorf("Rounds %d, of %d: %08x, not %08x", i, p, all[i], want)
		}
	}
}

// P2.1: what is handed out may be changed, and nothing else changes by it.
func TestConstantsAreCopies(t *testing.T) {
	f, r := First(), Rounds()
	clear(f[:])
	clear(r[:])
	if First() == f || Rounds() == r || Of([]byte("abc")) != Sum(sha256.Sum256([]byte("abc"))) {
		t.Error("changed by whom they were told")
	}
}

// P2.2: sums that are known.
func TestOfKnown(t *testing.T) {
	cases := []struct{ in, want string }{
		{"", "e3b0c44298fc1c149afbf4c8996fb92427ae41e4649b934ca495991b7852b855"},
		{"abc", "ba7816bf8f01cfea414140de5dae2223b00361a396177a9cb410ff61f20015ad"},
		{"abcdbcdecdefdefgefghfghighijhijkijkljklmklmnlmnomnopnopq", "248d6a61d20638b8e5c026930c3e6039a33ce45964ff2167f6ecedd419db06c1"},
		{
			"abcdefghbcdefghicdefghijdefghijkefghijklfghijklmghijklmnhijklmnoijklmnopjklmnopqklmnopqrlmnopqrsmnopqrstnopqrstu",
			"cf5b16a778af8380036ce59e7b0492370b249b11e8f07a51afac45037afee9d1",
		},
		{strings.Repeat("a", 1000000), "cdc76e5c9914fb9281a1c7e284d73e67f1809a48a497200e046d39ccc7112cd0"},
	}
	for _, c := range cases {
		got := Of([]byte(c.in))
		if hex.EncodeToString(got[:]) != c.want {
			t.Errorf("%d bytes: %x, not %s", len(c.in), got, c.want)
		}
	}
	if Of(nil) != Of([]byte{}) {
		t.Error("nil and empty bytes are unlike")
	}
}

// P2.2: every length around the first multiples of a block, and some great ones.
func TestOfLengths(t *testing.T) {
	lengths := []int{4095, 4096, 4097, 65535, 65536, 1<<21 - 9, 1 << 21, 1<<21 + 1}
	for n := range 400 {
		lengths = append(lengths, n)
	}
	for _, n := range lengths {
		for name, b := range map[string][]byte{
			"some": some(n), "00": make([]byte, n), "80": bytes.Repeat([]byte{0x80}, n), "ff": bytes.Repeat([]byte{0xff}, n),
		} {
			if got := Of(b); got != Sum(sha256.Sum256(b)) {
				t.Errorf("%d bytes %s: %x", n, name, got)
			}
		}
	}
}

// P2.2: the ending, for lengths of which the bits need more than 32 bits, or more than there are.
func TestEnding(t *testing.T) {
	cases := []struct {
		taken uint64
		zeros int
		many  string
	}{
		{0, 55, "\x00\x00\x00\x00\x00\x00\x00\x00"},
		{1, 54, "\x00\x00\x00\x00\x00\x00\x00\x08"},
		{54, 1, "\x00\x00\x00\x00\x00\x00\x01\xb0"},
		{55, 0, "\x00\x00\x00\x00\x00\x00\x01\xb8"},
		{56, 63, "\x00\x00\x00\x00\x00\x00\x01\xc0"},
		{63, 56, "\x00\x00\x00\x00\x00\x00\x01\xf8"},
		{64, 55, "\x00\x00\x00\x00\x00\x00\x02\x00"},
		{1 << 29, 55, "\x00\x00\x00\x01\x00\x00\x00\x00"},
		{1<<31 - 1, 56, "\x00\x00\x00\x03\xff\xff\xff\xf8"},
		{0x0123456789abcdef, 0x08, "\x09\x1a\x2b\x3c\x4d\x5e\x6f\x78"},
		{1 << 61, 55, "\x00\x00\x00\x00\x00\x00\x00\x00"},
		{math.MaxUint64, 56, "\xff\xff\xff\xff\xff\xff\xff\xf8"},
	}
	for _, c := range cases {
		want := "\x80" + strings.Repeat("\x00", c.zeros) + c.many
		if got := ending(c.taken); string(got) != want {
			t.Errorf("%d: %x, not %x", c.taken, got, want)
		}
	}
}

// P2.2: as many bytes as let the count of bits leave 32 bits.
func TestManyBytes(t *testing.T) {
	if testing.Short() {
		t.Skip("takes in 512 MiB")
	}
	part := some(1 << 20)
	h, want := New(), sha256.New()
	for range 1 << 9 {
		h.Take(part)
		want.Write(part)
	}
	h.Take([]byte("abc"))
	want.Write([]byte("abc"))
	if got := h.Sum(); h.Len() != 1<<29+3 || !bytes.Equal(got[:], want.Sum(nil)) {
		t.Errorf("%d bytes: %x", h.Len(), got)
	}
}

// P2.3: two parts, cut anywhere, and parts of every size.
func TestTakeInParts(t *testing.T) {
	b := some(200)
	want := Sum(sha256.Sum256(b))
	for cut := range len(b) + 1 {
		h := New()
		h.Take(b[:cut])
		h.Take(b[cut:])
		if h.Sum() != want || h.Len() != 200 {
			t.Errorf("cut at %d: %x, %d", cut, h.Sum(), h.Len())
		}
	}
	for size := 1; size <= len(b); size++ {
		h := New()
		for at := 0; at < len(b); at += size {
			h.Take(b[at:min(at+size, len(b))])
			h.Take(nil)
		}
		if h.Sum() != want || h.Len() != 200 {
			t.Errorf("parts of %d: %x, %d", size, h.Sum(), h.Len())
		}
	}
}

// P2.3: a sum that is told in the middle is that of all so far, and changes nothing.
func TestSumInTheMiddle(t *testing.T) {
	b := some(300)
	h := New()
	for n := range b {
		for range 2 {
			if h.Sum() != Sum(sha256.Sum256(b[:n])) || h.Len() != uint64(n) {
				t.Fatalf("behind %d bytes: %x, %d", n, h.Sum(), h.Len())
			}
		}
		h.Take(b[n : n+1])
	}
	if h.Sum() != Sum(sha256.Sum256(b)) || h.Len() != 300 {
		t.Errorf("in the end: %x, %d", h.Sum(), h.Len())
	}
}

func TestNewIsEmpty(t *testing.T) {
	h := New()
	if h == nil || h.Len() != 0 || h.Sum() != Of(nil) {
		t.Fatal("New has bytes")
	}
	h.Take(nil)
	h.Take([]byte{})
	if h.Len() != 0 || h.Sum() != Of(nil) {
		t.Error("nothing was taken in, and something is there")
	}
	h.Take([]byte("abc"))
	if other := New(); other.Len() != 0 || other.Sum() != Of(nil) {
		t.Error("one New has what another one took in")
	}
}

// P2.3: a clone is the same, and each of the two goes on by itself.
func TestClone(t *testing.T) {
	a, b := some(150), bytes.Repeat([]byte{0x5a}, 150)
	for _, n := range []int{0, 1, 55, 56, 63, 64, 65, 127, 128, 150} {
		for _, more := range []int{0, 1, 8, 9, 63, 64, 65, 150} {
			h := New()
			h.Take(a[:n])
			c := h.Clone()
			if c == h || c.Sum() != h.Sum() || c.Len() != uint64(n) {
				t.Fatalf("%d: a clone that is not the same", n)
			}
			h.Take(a[:more])
			if c.Sum() != Sum(sha256.Sum256(a[:n])) || c.Len() != uint64(n) {
				t.Errorf("%d, %d: the clone changed", n, more)
			}
			c.Take(b[:more])
			wantH := Sum(sha256.Sum256(append(bytes.Clone(a[:n]), a[:more]...)))
			wantC := Sum(sha256.Sum256(append(bytes.Clone(a[:n]), b[:more]...)))
			if h.Sum() != wantH || c.Sum() != wantC || h.Len() != uint64(n+more) || c.Len() != uint64(n+more) {
				t.Errorf("%d, %d: %x, %x", n, more, h.Sum(), c.Sum())
			}
			if d := c.Clone(); d.Sum() != wantC {
				t.Errorf("%d, %d: a clone's clone: %x", n, more, d.Sum())
			}
		}
	}
}

// P2.3: nil, and a plain Hash{}, stay what they are.
func TestNobodyMade(t *testing.T) {
	for name, h := range map[string]*Hash{"nil": nil, "plain": {}, "new": new(Hash)} {
		for _, b := range [][]byte{nil, []byte("abc"), some(64), some(200)} {
			h.Take(b)
			if h.Sum() != (Sum{}) || h.Len() != 0 || h.Clone() != nil {
				t.Errorf("%s, behind %d bytes: %x, %d", name, len(b), h.Sum(), h.Len())
			}
		}
		if h != nil && *h != (Hash{}) {
			t.Errorf("%s: something was done to it", name)
		}
	}
}

// Rule 4: what is handed in is neither changed nor kept, its spare room neither.
func TestHandedIn(t *testing.T) {
	for _, n := range []int{0, 1, 55, 64, 70, 128, 150} {
		under := some(200)
		before := bytes.Clone(under)
		h := New()
		h.Take(under[:n])
		want := Sum(sha256.Sum256(before[:n]))
		if Of(under[:n]) != want || h.Sum() != want || !bytes.Equal(under, before) {
			t.Errorf("%d: what was handed in changed, or what lies behind it is read", n)
		}
		clear(under)
		if h.Sum() != want {
			t.Errorf("%d: what was handed in is kept", n)
		}
	}
}

// Rule 4: a sum that was told does not change with what comes behind it.
func TestSumIsACopy(t *testing.T) {
	h := New()
	h.Take([]byte("abc"))
	s := h.Sum()
	clear(s[:])
	if h.Sum() != Of([]byte("abc")) {
		t.Error("changed by whom it was told")
	}
}

// FuzzSha: whatever bytes come, cut anywhere, the sum is the library's.
func FuzzSha(f *testing.F) {
	f.Add([]byte("abc"), uint(1))
	f.Add(some(64), uint(63))
	f.Add(some(200), uint(120))
	f.Fuzz(func(t *testing.T, b []byte, cut uint) {
		at := cut % uint(len(b)+1)
		h := New()
		h.Take(b[:at])
		half := h.Clone()
		h.Take(b[at:])
		if h.Sum() != Sum(sha256.Sum256(b)) || half.Sum() != Sum(sha256.Sum256(b[:at])) || h.Len() != uint64(len(b)) {
			t.Errorf("%x, cut at %d: %x, %x", b, at, h.Sum(), half.Sum())
		}
	})
}
