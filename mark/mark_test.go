package mark

import (
	"bytes"
	"encoding/binary"
	"encoding/hex"
	"math"
	"strings"
	"testing"

	"saddlebag/api"
	"saddlebag/short"
)

// meantMark tells a mark as it stands in a block; meantBlock a whole block by the words.
func meantMark(m Mark) []byte {
	out := []byte{m.Kind}
	out = binary.BigEndian.AppendUint64(out, m.Epoch)
	return binary.BigEndian.AppendUint64(out, m.Seq)
}

func meantBlock(m Mark, b []byte) []byte {
	out := binary.BigEndian.AppendUint16(meantMark(m), uint16(len(b)))
	out = append(out, b...)
	out = append(out, make([]byte, 220-len(b))...)
	return append(out, meantMark(m)...)
}

// meantOpen tells what a block is: the one that is made of the mark and of the bytes that it seems to have, or none.
func meantOpen(block []byte) (Mark, []byte, api.Errno) {
	if len(block) != 256 {
		return Mark{}, nil, api.ErrArg
	}
	m := Mark{block[0], binary.BigEndian.Uint64(block[1:]), binary.BigEndian.Uint64(block[9:])}
	long := int(binary.BigEndian.Uint16(block[17:]))
	if m.Kind == 0 || m.Kind == 3 || long > 220 || !bytes.Equal(block, meantBlock(m, block[19:19+long])) {
		return Mark{}, nil, api.ErrForm
	}
	return m, block[19 : 19+long], api.OK
}

// mixed tells bytes that go up and down, other ones for each seed.
func mixed(many, seed int) []byte {
	pick := chance(seed)
	out := make([]byte, many)
	for i := range out {
		out[i] = byte(pick(256))
	}
	return out
}

// chance tells numbers that go up and down, from 0 to below n.
func chance(seed int) func(n int) int {
	state := uint64(seed)*0x9e3779b97f4a7c15 + 1
	return func(n int) int {
		state = state*6364136223846793005 + 1442695040888963407
		return int(state>>33) % n
	}
}

// full tells a block of one byte.
func full(c byte) []byte { return bytes.Repeat([]byte{c}, 256) }

// sealed makes a block, which must be.
func sealed(t testing.TB, m Mark, b []byte) []byte {
	t.Helper()
	out, e := Seal(m, b)
	if e != api.OK || !bytes.Equal(out, meantBlock(m, b)) {
		t.Fatalf("Seal of %v and %x: %x, error %d; not %x", m, b, out, int(e), meantBlock(m, b))
	}
	return out
}

// checkOpen holds what Open tells against what is meant, and tells the error.
func checkOpen(t testing.TB, what string, block []byte) api.Errno {
	t.Helper()
	m, b, e := Open(block)
	wantM, wantB, want := meantOpen(block)
	if m != wantM || !bytes.Equal(b, wantB) || e != want {
		t.Fatalf("%s: Open of %x: %v, %x, error %d; not %v, %x, %d", what, block, m, b, int(e), wantM, wantB, int(want))
	}
	return e
}

// numbers tells those of 64 bits about each edge of a byte.
func numbers() []uint64 {
	out := []uint64{0, 1, 2, 3, 0x0102030405060708, 0xf8f7f6f5f4f3f2f1, math.MaxUint64, math.MaxUint64 - 1}
	for i := range 64 {
		out = append(out, 1<<i)
		if i%8 == 0 {
			out = append(out, 1<<i-1, 1<<i+1)
		}
	}
	return out
}

// kinds tells those that may be.
func kinds() []byte {
	var out []byte
	for k := range 256 {
		if k != 0 && k != 3 {
			out = append(out, byte(k))
		}
	}
	return out
}

// P8.1, example 1.
func TestSealExample(t *testing.T) {
	b, e := Seal(Mark{Kind: 1, Epoch: 2, Seq: 3}, []byte("ab"))
	if e != api.OK || len(b) != 256 || b[18] != 2 || b[19] != 0x61 {
		t.Errorf("Seal: %x, error %d", b, int(e))
	}
}

// P8.1, P8.2: whole blocks, written out.
func TestByHand(t *testing.T) {
	for _, c := range []struct {
		m     Mark
		b     string
		block string
	}{
		{Mark{1, 2, 3}, "", "01 0000000000000002 0000000000000003 0000" + strings.Repeat("00", 220) + "01 0000000000000002 0000000000000003"},
		{Mark{1, 2, 3}, "ab", "01 0000000000000002 0000000000000003 0002 6162" + strings.Repeat("00", 218) + "01 0000000000000002 0000000000000003"},
		{Mark{2, 0, 0}, "\x00", "02 0000000000000000 0000000000000000 0001" + strings.Repeat("00", 220) + "02 0000000000000000 0000000000000000"},
		{Mark{4, 0x0102030405060708, 0x1112131415161718}, "\x00x\x00", "04 0102030405060708 1112131415161718 0003 007800" + strings.Repeat("00", 217) + "04 0102030405060708 1112131415161718"},
		{Mark{255, math.MaxUint64, math.MaxUint64 - 1}, strings.Repeat("\xff", 220), "ff ffffffffffffffff fffffffffffffffe 00dc" + strings.Repeat("ff", 220) + "ff ffffffffffffffff fffffffffffffffe"},
	} {
		want, err := hex.DecodeString(strings.ReplaceAll(c.block, " ", ""))
		if err != nil || len(want) != 256 {
			t.Fatal(err, len(want))
		}
		if got, e := Seal(c.m, []byte(c.b)); e != api.OK || !bytes.Equal(got, want) {
			t.Errorf("Seal of %v and %q: %x, error %d; not %x", c.m, c.b, got, int(e), want)
		}
		if m, b, e := Open(want); e != api.OK || m != c.m || string(b) != c.b {
			t.Errorf("Open of %x: %v, %q, error %d", want, m, b, int(e))
		}
	}
}

// P8.1: every Kind, with right bytes and with too many: a Kind that may not be is told first.
func TestSealKinds(t *testing.T) {
	for k := range 256 {
		for _, n := range []uint64{0, 1, 3, math.MaxUint64} {
			m := Mark{Kind: byte(k), Epoch: n, Seq: n}
			right, big := api.OK, api.ErrBig
			if k == 0 || k == 3 {
				right, big = api.ErrArg, api.ErrArg
			}
			for long, want := range map[int]api.Errno{0: right, 1: right, 220: right, 221: big, 256: big, 70000: big} {
				if b, e := Seal(m, mixed(long, k)); e != want || e != api.OK && len(b) != 0 || e == api.OK && len(b) != 256 {
					t.Fatalf("Seal of %v and %d bytes: %x, error %d, not %d", m, long, b, int(e), int(want))
				}
			}
		}
	}
}

// P8.1, P8.2: every length that may be, and those that may not, also where their lower bytes would be.
func TestSealLengths(t *testing.T) {
	m := Mark{Kind: 7, Epoch: 8, Seq: 9}
	for long := range 221 {
		for _, b := range [][]byte{make([]byte, long), bytes.Repeat([]byte{255}, long), mixed(long, long)} {
			checkOpen(t, "sealed", sealed(t, m, b))
		}
	}
	for _, long := range []int{221, 222, 237, 238, 239, 240, 255, 256, 257, 300, 512, 65535, 65536, 65537, 65536 + 220, 1 << 17} {
		if b, e := Seal(m, make([]byte, long)); e != api.ErrBig || len(b) != 0 {
			t.Errorf("Seal of %d bytes: %x, error %d", long, b, int(e))
		}
	}
	if b := sealed(t, m, nil); !bytes.Equal(b, sealed(t, m, []byte{})) {
		t.Errorf("Seal of nil: %x", b)
	}
}

// P8.1, P8.2: Kinds, Epochs and Seqs in their whole range are told again, with their bytes.
func TestSealOpen(t *testing.T) {
	for i, n := range numbers() {
		for k, other := range numbers() {
			m := Mark{Kind: kinds()[(i*7+k)%254], Epoch: n, Seq: other}
			want := mixed((i+k)%221, i+100*k)
			got, b, e := Open(sealed(t, m, want))
			if e != api.OK || got != m || !bytes.Equal(b, want) {
				t.Fatalf("Open of a block of %v and %x: %v, %x, error %d", m, want, got, b, int(e))
			}
		}
	}
}

// P8.2: blocks that have not so many bytes, whatever they are.
func TestOpenLengths(t *testing.T) {
	whole := sealed(t, Mark{Kind: 1, Epoch: 2, Seq: 3}, []byte("abc"))
	for long := range 600 {
		b := bytes.Repeat(whole, 3)[:long]
		e := checkOpen(t, "of another length", b)
		if (e == api.ErrArg) != (long != 256) {
			t.Fatalf("Open of %d bytes: error %d", long, int(e))
		}
		if long != 256 {
			checkOpen(t, "bytes 0", make([]byte, long))
			checkOpen(t, "bytes 0 with room", make([]byte, long, 1024))
		}
	}
	checkOpen(t, "nil", nil)
	checkOpen(t, "many", make([]byte, 65536+256))
}

// P8.2: every Kind, sealed by the words: those that may not be are none.
func TestOpenKinds(t *testing.T) {
	for k := range 256 {
		block := meantBlock(Mark{Kind: byte(k), Epoch: 5, Seq: 6}, []byte("abc"))
		if e := checkOpen(t, "of a Kind", block); (e == api.OK) != (k != 0 && k != 3) {
			t.Errorf("Open of Kind %d: error %d", k, int(e))
		}
		checkOpen(t, "of one byte", full(byte(k)))
	}
}

// P8.2: every number for how many bytes there are, with bytes 0 behind, and with others.
func TestOpenEveryLength(t *testing.T) {
	m := Mark{Kind: 9, Epoch: 1, Seq: 2}
	for _, b := range [][]byte{nil, []byte("ab"), mixed(100, 1), make([]byte, 220), append(make([]byte, 219), 1), mixed(220, 2)} {
		block := sealed(t, m, b)
		last := len(bytes.TrimRight(b, "\x00"))
		for long := range 65536 {
			binary.BigEndian.PutUint16(block[17:], uint16(long))
			want := api.ErrForm
			if long >= last && long <= 220 {
				want = api.OK
			}
			if e := checkOpen(t, "told otherwise", block); e != want {
				t.Fatalf("%d bytes, told as %d: error %d, not %d", last, long, int(e), int(want))
			}
		}
	}
}

// P8.2: of a sealed block each byte, and each as each other one; and each byte of both marks at once.
func TestOpenSpoilt(t *testing.T) {
	for _, b := range [][]byte{nil, []byte("ab"), mixed(219, 3), mixed(220, 4)} {
		whole := sealed(t, Mark{Kind: 2, Epoch: 0x0102030405060708, Seq: 3}, b)
		for at := range 256 {
			block := bytes.Clone(whole)
			for c := range 256 {
				block[at] = byte(c)
				checkOpen(t, "a byte that is another one", block)
			}
		}
		for at := range 17 {
			block := bytes.Clone(whole)
			for c := range 256 {
				block[at], block[239+at] = byte(c), byte(c)
				checkOpen(t, "a byte of both marks", block)
				block[239+at]++
				if e := checkOpen(t, "a byte of one mark", block); e != api.ErrForm {
					t.Fatalf("marks that are unlike: error %d", int(e))
				}
			}
		}
	}
}

// P8.2: marks that have the same bytes at other places are unlike: none is taken for the other.
func TestOpenTurned(t *testing.T) {
	m, turned := Mark{Kind: 1, Epoch: 2, Seq: 3}, Mark{Kind: 1, Epoch: 3, Seq: 2}
	block := append(meantBlock(m, []byte("abc"))[:239], meantMark(turned)...)
	if e := checkOpen(t, "turned", block); e != api.ErrForm {
		t.Errorf("Open of marks that are turned: error %d", int(e))
	}
}

// P8.3: every first byte, of blocks of all kinds, is told, and is back again.
func TestCoverBare(t *testing.T) {
	for first := range 256 {
		for seed, block := range [][]byte{full(0), full(3), full(255), mixed(256, first), sealed(t, Mark{Kind: 9, Epoch: 1, Seq: 1}, []byte("abc"))} {
			block[0] = byte(first)
			c, was, e := Cover(block)
			if e != api.OK || was != byte(first) || !bytes.Equal(c, append([]byte{3}, block[1:]...)) {
				t.Fatalf("Cover of %x (%d): %x, %d, error %d", block, seed, c, was, int(e))
			}
			if b, e := Bare(c, was); e != api.OK || !bytes.Equal(b, block) {
				t.Fatalf("Bare of %x, %d: %x, error %d", c, was, b, int(e))
			}
			other := byte(first) + 1
			if b, e := Bare(c, other); e != api.OK || !bytes.Equal(b, append([]byte{other}, block[1:]...)) {
				t.Fatalf("Bare of %x, %d: %x, error %d", c, other, b, int(e))
			}
		}
	}
}

// P8.3: Bare of a block whose first byte is another one, whatever it is to become.
func TestBareOfNone(t *testing.T) {
	for k := range 256 {
		block := full(byte(k))
		for _, first := range []byte{0, 1, 2, 3, 4, byte(k), 255} {
			b, e := Bare(block, first)
			if (e == api.OK) != (k == 3) || k != 3 && (e != api.ErrForm || len(b) != 0) {
				t.Errorf("Bare of a block of %d: %x, error %d", k, b, int(e))
			}
		}
	}
}

// P8.3: blocks that have not so many bytes; that is told ahead of a first byte that is another one.
func TestCoverBareLengths(t *testing.T) {
	lengths := []int{0, 1, 2, 17, 128, 254, 255, 257, 258, 512, 65536, 65536 + 256}
	for _, long := range lengths {
		for _, c := range []byte{0, 1, 3} {
			block := bytes.Repeat([]byte{c}, long)
			if b, first, e := Cover(block); e != api.ErrArg || len(b) != 0 || first != 0 {
				t.Errorf("Cover of %d bytes: %x, %d, error %d", long, b, first, int(e))
			}
			if b, e := Bare(block, c); e != api.ErrArg || len(b) != 0 {
				t.Errorf("Bare of %d bytes: %x, error %d", long, b, int(e))
			}
		}
	}
	if b, first, e := Cover(nil); e != api.ErrArg || len(b) != 0 || first != 0 {
		t.Errorf("Cover of nil: %x, %d, error %d", b, first, int(e))
	}
	if b, e := Bare(nil, 3); e != api.ErrArg || len(b) != 0 {
		t.Errorf("Bare of nil: %x, error %d", b, int(e))
	}
}

// torn tells the first bytes of one block ahead of those of another one.
func torn(one, other []byte, many int) []byte {
	return append(bytes.Clone(one[:many]), other[many:]...)
}

// checkTorn holds every block that is torn of two against these.
func checkTorn(t *testing.T, one, other []byte) {
	t.Helper()
	for many := range 257 {
		b := torn(one, other, many)
		if e := checkOpen(t, "torn", b); e == api.OK && !bytes.Equal(b, one) && !bytes.Equal(b, other) {
			t.Fatalf("%d bytes of %x ahead of %x: it is sealed", many, one, other)
		}
	}
}

// P8.4: marks of few small numbers, that are alike up to somewhere, each against each other one, and bytes 0; with bytes of unlike length.
func TestTornShort(t *testing.T) {
	var blocks [][]byte
	var marks []Mark
	for _, l := range short.Lists([]uint64{0, 1, 256, 1 << 56}, 2) {
		for _, k := range []byte{1, 2, 9} {
			if len(l) == 2 {
				marks = append(marks, Mark{Kind: k, Epoch: l[0], Seq: l[1]})
				blocks = append(blocks, sealed(t, marks[len(marks)-1], mixed(len(blocks)*20%221, len(blocks))))
			}
		}
	}
	for i, one := range blocks {
		checkTorn(t, one, full(0))
		checkTorn(t, full(0), one)
		for k, other := range blocks {
			if marks[i] != marks[k] {
				checkTorn(t, one, other)
			}
		}
	}
}

// P8.4: marks that follow one another, as those of turns do, about each edge of a byte.
func TestTornNext(t *testing.T) {
	for i, n := range numbers() {
		a, b := mixed(i%221, i), mixed((i*13)%221, i+1000)
		for _, k := range []byte{1, 2, 9} {
			one := sealed(t, Mark{Kind: k, Epoch: n, Seq: n}, a)
			for _, m := range []Mark{{k, n, n + 1}, {k, n + 1, n}, {k, n + 1, n + 1}, {k + 9, n, n}} {
				other := sealed(t, m, b)
				checkTorn(t, one, other)
				checkTorn(t, other, one)
			}
		}
	}
}

// P8.4: by hand: of a block that is torn at bytes where both are alike, it is one of the two.
func TestTornByHand(t *testing.T) {
	old := sealed(t, Mark{Kind: 1, Epoch: 1, Seq: 1}, []byte("old"))
	now := sealed(t, Mark{Kind: 1, Epoch: 1, Seq: 2}, []byte("now"))
	for many := range 257 {
		m, b, e := Open(torn(now, old, many))
		switch {
		case many <= 16:
			if e != api.OK || m.Seq != 1 || string(b) != "old" {
				t.Errorf("%d bytes: %v, %q, error %d", many, m, b, int(e))
			}
		case many < 256:
			if e != api.ErrForm || m != (Mark{}) || len(b) != 0 {
				t.Errorf("%d bytes: %v, %q, error %d", many, m, b, int(e))
			}
		default:
			if e != api.OK || m.Seq != 2 || string(b) != "now" {
				t.Errorf("%d bytes: %v, %q, error %d", many, m, b, int(e))
			}
		}
	}
}

// P8.4: a covered block is never sealed, also where its first byte was Covered, or where it looks like one at both its ends.
func TestCoveredIsNotSealed(t *testing.T) {
	for k := range 256 {
		looks := meantBlock(Mark{Kind: byte(k), Epoch: 3, Seq: 4}, []byte("abc"))
		ends := bytes.Clone(looks)
		ends[239] = 3
		for _, block := range [][]byte{looks, ends, full(byte(k)), mixed(256, k)} {
			c, _, e := Cover(block)
			if e != api.OK {
				t.Fatalf("Cover of %x: error %d", block, int(e))
			}
			if e := checkOpen(t, "covered", c); e != api.ErrForm {
				t.Fatalf("Open of %x: error %d", c, int(e))
			}
		}
	}
}

// calls tells each call that takes bytes, and what it hands out of them.
func calls() map[string]func(b []byte) ([]byte, api.Errno) {
	return map[string]func(b []byte) ([]byte, api.Errno){
		"Seal":            func(b []byte) ([]byte, api.Errno) { return Seal(Mark{Kind: 1, Epoch: 2, Seq: 3}, b) },
		"Seal of no Kind": func(b []byte) ([]byte, api.Errno) { return Seal(Mark{}, b) },
		"Open": func(b []byte) ([]byte, api.Errno) {
			_, out, e := Open(b)
			return out, e
		},
		"Cover": func(b []byte) ([]byte, api.Errno) {
			out, _, e := Cover(b)
			return out, e
		},
		"Bare": func(b []byte) ([]byte, api.Errno) { return Bare(b, 7) },
	}
}

// given tells bytes for these calls, right ones and wrong ones.
func given(t *testing.T) [][]byte {
	out := [][]byte{{}, []byte("abc"), mixed(219, 1), mixed(220, 2), mixed(221, 3), mixed(255, 4), mixed(257, 5), full(0), full(3)}
	for _, long := range []int{0, 1, 3, 219, 220} {
		out = append(out, sealed(t, Mark{Kind: 1, Epoch: 2, Seq: 3}, mixed(long, long)))
	}
	return out
}

// Rule 4: nothing that is handed in is changed, its spare room neither, and nothing handed out shares memory with it, spare room too, nor with what the same call hands out next.
func TestOwnMemory(t *testing.T) {
	for name, call := range calls() {
		for _, b := range given(t) {
			whole := append(bytes.Clone(b), mixed(300, 9)...)
			was := bytes.Clone(whole)
			got, e := call(whole[:len(b)])
			want, again := call(b)
			if e != again || !bytes.Equal(got, want) {
				t.Fatalf("%s of %x: %x, error %d; with spare room %x, error %d", name, b, want, int(again), got, int(e))
			}
			kept := bytes.Clone(want)
			for i := range got[:cap(got)] {
				got[:cap(got)][i] ^= 0xff
			}
			if !bytes.Equal(whole, was) || !bytes.Equal(want, kept) {
				t.Fatalf("%s of %x: something is shared", name, b)
			}
		}
	}
}

// Rule 4, rule 8: what lies behind the bytes that are handed in is not read: it changes no answer.
func TestSpareRoomIsNotRead(t *testing.T) {
	m := Mark{Kind: 1, Epoch: 2, Seq: 3}
	for long := range 221 {
		whole := mixed(600, long)
		got, e := Seal(m, whole[:long])
		if e != api.OK || !bytes.Equal(got, meantBlock(m, whole[:long])) {
			t.Fatalf("Seal of %d bytes with others behind: %x, error %d", long, got, int(e))
		}
	}
}

// Rules 4 and 5: bytes that were handed in may be others later; nothing that was told changes, and nothing is kept from call to call.
func TestNothingKept(t *testing.T) {
	b := []byte("abc")
	block := sealed(t, Mark{Kind: 1, Epoch: 2, Seq: 3}, b)
	want := bytes.Clone(block)
	copy(b, "xyz")
	_, out, _ := Open(block)
	c, first, _ := Cover(block)
	again, _ := Bare(c, first)
	copy(block, full(1))
	copy(c, full(2))
	if string(out) != "abc" || !bytes.Equal(again, want) {
		t.Errorf("%q, %x", out, again)
	}
	for range 3 {
		checkOpen(t, "wrong", full(1))
		checkOpen(t, "right", want)
	}
}

func FuzzOpen(f *testing.F) {
	f.Add([]byte{}, []byte{}, byte(1), uint64(2), uint64(3), 100)
	f.Add(full(0), []byte("abc"), byte(3), uint64(0), uint64(1<<63), 18)
	f.Add(meantBlock(Mark{1, 2, 4}, []byte("abc")), []byte("abd"), byte(1), uint64(2), uint64(3), 17)
	f.Fuzz(func(t *testing.T, block, b []byte, kind byte, epoch, seq uint64, many int) {
		checkOpen(t, "any", block)
		m := Mark{Kind: kind, Epoch: epoch, Seq: seq}
		got, e := Seal(m, b)
		switch {
		case kind == 0 || kind == 3:
			if e != api.ErrArg || len(got) != 0 {
				t.Fatalf("Seal of %v: %x, error %d", m, got, int(e))
			}
			return
		case len(b) > 220:
			if e != api.ErrBig || len(got) != 0 {
				t.Fatalf("Seal of %d bytes: %x, error %d", len(b), got, int(e))
			}
			return
		}
		one := sealed(t, m, b)
		other := full(0)
		if was, _, e := Open(block); e == api.OK && was != m {
			other = block
		}
		many = min(max(many, 0), 256)
		mix := torn(one, other, many)
		if e := checkOpen(t, "torn", mix); e == api.OK && !bytes.Equal(mix, one) && !bytes.Equal(mix, other) {
			t.Fatalf("%d bytes of %x ahead of %x: it is sealed", many, one, other)
		}
	})
}
