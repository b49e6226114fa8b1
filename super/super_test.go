package super

import (
	"bytes"
	"encoding/binary"
	"encoding/hex"
	"math"
	"math/big"
	"slices"
	"strings"
	"testing"

	"saddlebag/api"
	"saddlebag/dev"
)

// top is the greatest number that a head may have for Gen, Epoch and Seq.
const top = 1 << 62

// meantRight tells by whole numbers, without an end, whether a head is right.
func meantRight(h Head, blocks int) bool {
	within := func(least, v, most *big.Int) bool { return least.Cmp(v) <= 0 && v.Cmp(most) <= 0 }
	whole := func(v int) *big.Int { return big.NewInt(int64(v)) }
	for _, n := range []uint64{h.Gen, h.Epoch, h.Seq} {
		if !within(whole(1), new(big.Int).SetUint64(n), whole(top)) {
			return false
		}
	}
	less := func(v, w int) *big.Int { return new(big.Int).Sub(whole(v), whole(w)) }
	return within(whole(3), whole(h.Log), less(blocks, 3)) && within(whole(0), whole(h.Pos), less(h.Log, 1))
}

// meantSeal tells a sealed block by the words, also one whose two marks' numbers are unlike.
func meantSeal(kind byte, epoch, seq uint64, b []byte) []byte {
	m := binary.BigEndian.AppendUint64(binary.BigEndian.AppendUint64([]byte{kind}, epoch), seq)
	out := append(binary.BigEndian.AppendUint16(bytes.Clone(m), uint16(len(b))), b...)
	out = append(out, make([]byte, 220-len(b))...)
	return append(out, m...)
}

// meantNumber tells a number by the words.
func meantNumber(v uint64) []byte {
	b := bytes.TrimLeft(binary.BigEndian.AppendUint64(nil, v), "\x00")
	return append([]byte{byte(len(b))}, b...)
}

func meantNumbers(v ...uint64) []byte {
	var out []byte
	for _, n := range v {
		out = append(out, meantNumber(n)...)
	}
	return out
}

func meantBlock(h Head) []byte {
	return meantSeal(9, h.Gen, h.Gen, meantNumbers(h.Epoch, uint64(h.Pos), h.Seq, uint64(h.Log)))
}

// meantOf tells the head of a block: the one that is read loosely, if its block is that one, and if it is right.
func meantOf(block []byte, blocks int) (Head, bool) {
	if len(block) != 256 {
		return Head{}, false
	}
	b := block[19:239]
	number := func() uint64 {
		many := min(int(b[0]), 8)
		n := uint64(0)
		for _, c := range b[1 : 1+many] {
			n = n<<8 | uint64(c)
		}
		b = b[1+many:]
		return n
	}
	v := []uint64{number(), number(), number(), number()}
	if v[1] > math.MaxInt || v[3] > math.MaxInt {
		return Head{}, false
	}
	h := Head{Gen: binary.BigEndian.Uint64(block[1:]), Epoch: v[0], Pos: int(v[1]), Seq: v[2], Log: int(v[3])}
	if !meantRight(h, blocks) || !bytes.Equal(block, meantBlock(h)) {
		return Head{}, false
	}
	return h, true
}

// meantLoad tells the head of two slots' blocks.
func meantLoad(slots [][]byte, blocks int) (Head, api.Errno) {
	var there []Head
	for n, b := range slots {
		if h, ok := meantOf(b, blocks); ok && h.Gen%2 == uint64(n) {
			there = append(there, h)
		}
	}
	switch {
	case len(there) == 0:
		return Head{}, api.ErrNone
	case len(there) == 2 && there[1].Gen > there[0].Gen:
		return there[1], api.OK
	}
	return there[0], api.OK
}

// chance tells numbers that go up and down, from 0 to below n.
func chance(seed int) func(n int) int {
	state := uint64(seed)*0x9e3779b97f4a7c15 + 1
	return func(n int) int {
		state = state*6364136223846793005 + 1442695040888963407
		return int(state>>33) % n
	}
}

// full tells a block of one byte; mixed one of bytes that go up and down.
func full(c byte) []byte { return bytes.Repeat([]byte{c}, 256) }

func mixed(seed int) []byte {
	pick := chance(seed)
	out := make([]byte, 256)
	for i := range out {
		out[i] = byte(pick(256))
	}
	return out
}

// device makes one, which must be, of which each block has other bytes, that are flushed; empty one of bytes 0.
func device(t testing.TB, blocks int) *dev.Dev {
	t.Helper()
	d := empty(t, blocks)
	for n := range blocks {
		d.Write(n, mixed(n))
	}
	wants(t, "Flush", d.Flush(), api.OK)
	return d
}

func empty(t testing.TB, blocks int) *dev.Dev {
	t.Helper()
	d, e := dev.New(blocks)
	if e != api.OK {
		t.Fatalf("New of %d: error %d", blocks, int(e))
	}
	return d
}

// notMade tells the two kinds of a device that no call made.
func notMade() map[string]*dev.Dev { return map[string]*dev.Dev{"nil": nil, "plain": {}} }

func wants(t testing.TB, what string, got, want api.Errno) {
	t.Helper()
	if got != want {
		t.Fatalf("%s: error %d, not %d", what, int(got), int(want))
	}
}

// stands holds a block of a device against what is meant.
func stands(t testing.TB, what string, d *dev.Dev, n int, want []byte) {
	t.Helper()
	got, e := d.Read(n)
	if e != api.OK || !bytes.Equal(got, want) {
		t.Fatalf("%s: block %d is %x, error %d; not %x", what, n, got, int(e), want)
	}
}

// loads holds what Load tells against what is meant.
func loads(t testing.TB, what string, d *dev.Dev, want Head, wantE api.Errno) {
	t.Helper()
	if h, e := Load(d); h != want || e != wantE {
		t.Fatalf("%s: Load: %v, error %d; not %v, %d", what, h, int(e), want, int(wantE))
	}
}

// checkOf holds what Of tells against what is meant, and tells whether there is one.
func checkOf(t testing.TB, what string, block []byte, blocks int) bool {
	t.Helper()
	h, ok := Of(block, blocks)
	if want, there := meantOf(block, blocks); h != want || ok != there {
		t.Fatalf("%s: Of %x, %d blocks: %v, %v; not %v, %v", what, block, blocks, h, ok, want, there)
	}
	return ok
}

// checkRight holds what Right and Put tell against what is meant, and what Of tells of the block that is meant.
func checkRight(t testing.TB, h Head, blocks int) {
	t.Helper()
	if got := h.Right(blocks); got != meantRight(h, blocks) {
		t.Fatalf("%v: Right of %d: %v", h, blocks, got)
	}
	b, e := h.Put()
	if meantRight(h, 4096) {
		if e != api.OK || !bytes.Equal(b, meantBlock(h)) {
			t.Fatalf("%v: Put: %x, error %d; not %x", h, b, int(e), meantBlock(h))
		}
	} else if e != api.ErrArg || len(b) != 0 {
		t.Fatalf("%v: Put: %x, error %d", h, b, int(e))
	}
	checkOf(t, "right or not", meantBlock(h), blocks)
}

// counts tells numbers of 64 bits about the edges of what may be, and about each edge of a byte.
func counts() []uint64 {
	out := []uint64{0, 1, 2, 3, top - 1, top, top + 1, 1<<63 - 1, 1 << 63, 1<<63 + 1, math.MaxUint64 - 1, math.MaxUint64}
	for i := 8; i < 62; i += 8 {
		out = append(out, 1<<i-1, 1<<i, 1<<i+1)
	}
	return out
}

// heads tells right ones of a device of 9 blocks, of every number that may be counted.
func heads() []Head {
	var out []Head
	good := slices.DeleteFunc(counts(), func(n uint64) bool { return n < 1 || n > top })
	for i, n := range good {
		other := good[(i*7+3)%len(good)]
		log := 3 + i%4
		out = append(out, Head{n, other, i % log, n, log}, Head{other, n, log - 1, 1, log}, Head{n, n, 0, other, log})
	}
	return out
}

// P9.1: by hand, each number at its edges, one at a time.
func TestRightByHand(t *testing.T) {
	for _, c := range []struct {
		h      Head
		blocks int
		want   bool
	}{
		{Head{1, 1, 0, 1, 3}, 6, true},
		{Head{1, 1, 0, 1, 3}, 5, false},
		{Head{1, 1, 0, 1, 3}, 7, true},
		{Head{1, 1, 0, 1, 4}, 6, false},
		{Head{1, 1, 0, 1, 2}, 6, false},
		{Head{1, 1, 0, 1, 0}, 6, false},
		{Head{1, 1, 0, 1, -1}, 6, false},
		{Head{1, 1, 2, 1, 3}, 6, true},
		{Head{1, 1, 3, 1, 3}, 6, false},
		{Head{1, 1, -1, 1, 3}, 6, false},
		{Head{0, 1, 0, 1, 3}, 6, false},
		{Head{1, 0, 0, 1, 3}, 6, false},
		{Head{1, 1, 0, 0, 3}, 6, false},
		{Head{top, top, 0, top, 3}, 6, true},
		{Head{top + 1, 1, 0, 1, 3}, 6, false},
		{Head{1, top + 1, 0, 1, 3}, 6, false},
		{Head{1, 1, 0, top + 1, 3}, 6, false},
		{Head{math.MaxUint64, 1, 0, 1, 3}, 6, false},
		{Head{1, 1, 4092, 1, 4093}, 4096, true},
		{Head{1, 1, 4092, 1, 4094}, 4096, false},
		{Head{1, 1, 4092, 1, 4094}, 4097, true},
		{Head{1, 1, 0, 1, 3}, 0, false},
		{Head{1, 1, 0, 1, 3}, -1, false},
		{Head{1, 1, 0, 1, 3}, math.MinInt, false},
		{Head{1, 1, 0, 1, math.MaxInt}, math.MinInt, false},
		{Head{1, 1, 0, 1, math.MaxInt - 2}, math.MinInt, false},
		{Head{1, 1, 0, 1, math.MaxInt}, math.MaxInt, false},
		{Head{1, 1, 0, 1, math.MaxInt - 3}, math.MaxInt, true},
		{Head{1, 1, 0, 1, math.MaxInt - 2}, math.MaxInt, false},
		{Head{1, 1, math.MaxInt - 4, 1, math.MaxInt - 3}, math.MaxInt, true},
		{Head{1, 1, 0, 1, math.MinInt}, math.MinInt, false},
		{Head{1, 1, math.MinInt, 1, 3}, 6, false},
		{Head{}, 6, false},
		{Head{}, math.MaxInt, false},
	} {
		if got := c.h.Right(c.blocks); got != c.want {
			t.Errorf("%v: Right of %d: %v", c.h, c.blocks, got)
		}
		if meantRight(c.h, c.blocks) != c.want {
			t.Errorf("meantRight of %v, %d", c.h, c.blocks)
		}
	}
}

// P9.1: Gen, Epoch and Seq, each against each other one, where the rest is right.
func TestCounts(t *testing.T) {
	for _, gen := range counts() {
		for _, epoch := range counts() {
			for i, seq := range counts() {
				checkRight(t, Head{gen, epoch, i % 3, seq, 3 + i%4}, 9)
			}
		}
	}
}

// P9.1: Pos, Log and blocks, each against each other one, in their whole range, where the rest is right.
func TestPlaces(t *testing.T) {
	numbers := []int{math.MinInt, math.MinInt + 1, math.MinInt + 2, math.MinInt + 3, math.MinInt32, -4096, math.MaxInt32, 1 << 32, math.MaxInt}
	for i := -4; i <= 9; i++ {
		numbers = append(numbers, i, 256+i, 4096+i, 65536+i, math.MaxInt-10+i)
	}
	for _, pos := range numbers {
		for _, log := range numbers {
			for _, blocks := range numbers {
				h := Head{2, 3, pos, 4, log}
				if h.Right(blocks) != meantRight(h, blocks) {
					t.Fatalf("%v: Right of %d: %v", h, blocks, h.Right(blocks))
				}
			}
			checkRight(t, Head{2, 3, pos, 4, log}, 4096)
			checkRight(t, Head{2, 3, pos, 4, log}, math.MaxInt)
		}
	}
}

// P9.1: all small heads of all small devices.
func TestSmall(t *testing.T) {
	for blocks := -1; blocks <= 10; blocks++ {
		for log := -1; log <= 8; log++ {
			for pos := -1; pos <= 8; pos++ {
				for i := range 27 {
					checkRight(t, Head{uint64(i % 3), uint64(i / 3 % 3), pos, uint64(i / 9), log}, blocks)
				}
			}
		}
	}
}

// P9.1: whole blocks, written out.
func TestPutByHand(t *testing.T) {
	for _, c := range []struct {
		h     Head
		long  string
		bytes string
	}{
		{Head{1, 1, 0, 1, 3}, "0007", "0101 00 0101 0103"},
		{Head{4, 2, 1, 9, 5}, "0008", "0102 0101 0109 0105"},
		{Head{5, 300, 255, 256, 4093}, "000b", "02012c 01ff 020100 020ffd"},
		{Head{top, top, 4092, top, 4093}, "0018", "084000000000000000 020ffc 084000000000000000 020ffd"},
	} {
		gen := hex.EncodeToString(binary.BigEndian.AppendUint64(nil, c.h.Gen))
		mark := "09" + gen + gen
		inner := strings.ReplaceAll(c.bytes, " ", "")
		want, err := hex.DecodeString(mark + c.long + inner + strings.Repeat("00", 220-len(inner)/2) + mark)
		if err != nil || len(want) != 256 {
			t.Fatal(err, len(want))
		}
		if b, e := c.h.Put(); e != api.OK || !bytes.Equal(b, want) {
			t.Errorf("%v: Put: %x, error %d; not %x", c.h, b, int(e), want)
		}
		if h, ok := Of(want, 4096); !ok || h != c.h {
			t.Errorf("Of %x: %v, %v", want, h, ok)
		}
	}
}

// P9.1: what is put is told again, on devices that are great enough, and on no others.
func TestPutOf(t *testing.T) {
	for _, h := range heads() {
		b, e := h.Put()
		if e != api.OK {
			t.Fatalf("%v: Put: error %d", h, int(e))
		}
		for _, blocks := range []int{math.MinInt, -1, 0, 3, 5, 6, 7, 8, 9, 10, 4096, 4097, math.MaxInt} {
			got, ok := Of(b, blocks)
			if there := blocks >= h.Log+3; ok != there || there && got != h || !there && got != (Head{}) {
				t.Fatalf("Of a block of %v, %d blocks: %v, %v", h, blocks, got, ok)
			}
		}
	}
}

// P9.1: a log that is too great for every device: Put refuses it; Of takes its block where so many blocks are told.
func TestGreaterThanAll(t *testing.T) {
	h := Head{1, 1, 4093, 1, 4094}
	if b, e := h.Put(); e != api.ErrArg || len(b) != 0 {
		t.Errorf("Put: %x, error %d", b, int(e))
	}
	if got, ok := Of(meantBlock(h), 4096); ok || got != (Head{}) {
		t.Errorf("Of, 4096 blocks: %v, %v", got, ok)
	}
	if got, ok := Of(meantBlock(h), 4097); !ok || got != h {
		t.Errorf("Of, 4097 blocks: %v, %v", got, ok)
	}
}

// P9.1: blocks that have not so many bytes.
func TestOfLengths(t *testing.T) {
	b := meantBlock(Head{4, 2, 1, 9, 5})
	for long := range 600 {
		if got := checkOf(t, "of another length", bytes.Repeat(b, 3)[:long], 9); got != (long == 256) {
			t.Fatalf("Of %d bytes: %v", long, got)
		}
	}
	checkOf(t, "nil", nil, 9)
	checkOf(t, "many", make([]byte, 65536+256), 9)
}

// P9.1: every Kind but that of heads is none; marks whose Epoch and Seq are unlike neither.
func TestOfMarks(t *testing.T) {
	b := meantNumbers(2, 1, 9, 5)
	for k := range 256 {
		if got := checkOf(t, "of a Kind", meantSeal(byte(k), 4, 4, b), 9); got != (k == 9) {
			t.Fatalf("Of Kind %d: %v", k, got)
		}
		checkOf(t, "of one byte", full(byte(k)), 9)
		checkOf(t, "mixed", mixed(k), 9)
	}
	for _, epoch := range counts() {
		for _, seq := range counts() {
			got := checkOf(t, "of a mark", meantSeal(9, epoch, seq, b), 9)
			if got != (epoch == seq && epoch >= 1 && epoch <= top) {
				t.Fatalf("Of Epoch %d, Seq %d: %v", epoch, seq, got)
			}
		}
	}
}

// P9.1: bytes that are not those four numbers, each in its one form, and nothing else.
func TestOfBytes(t *testing.T) {
	right := meantNumbers(2, 1, 9, 5)
	wrong := [][]byte{
		nil,
		make([]byte, 220),
		append(bytes.Clone(right), 0),
		append(bytes.Clone(right), 1),
		append(bytes.Clone(right), right...),
		append([]byte{0}, right...),
		meantNumbers(2, 1, 9),
		meantNumbers(2, 1, 9, 5, 1),
		meantNumbers(2, 1, 9, 5, 0),
		meantNumbers(2, 9, 1, 5),
		meantNumbers(2, 1, 5, 9),
		meantNumbers(2, 1<<63, 9, 5),
		meantNumbers(2, math.MaxUint64, 9, 5),
		meantNumbers(2, 1<<32+1, 9, 5),
		meantNumbers(2, 1, 9, 1<<63),
		meantNumbers(2, 1, 9, 1<<63+5),
		meantNumbers(2, 1, 9, math.MaxUint64),
		meantNumbers(2, 1, 9, 1<<32+5),
		meantNumbers(0, 1, 9, 5),
		meantNumbers(2, 1, 0, 5),
		{2, 0, 2, 1, 1, 1, 9, 1, 5},
		{1, 2, 2, 0, 1, 1, 9, 1, 5},
		{1, 2, 1, 1, 1, 9, 2, 0, 5},
		{1, 0, 1, 1, 1, 9, 1, 5},
		{9, 0, 0, 0, 0, 0, 0, 0, 0, 2, 1, 1, 1, 9, 1, 5},
		{1, 2, 1, 0, 1, 9, 1, 5},
	}
	for many := range right {
		wrong = append(wrong, right[:many])
	}
	for _, b := range wrong {
		for _, blocks := range []int{9, 4096, math.MaxInt} {
			if blocks == 9 && checkOf(t, "wrong bytes", meantSeal(9, 4, 4, b), blocks) {
				t.Errorf("Of bytes %x: there is one", b)
			}
			checkOf(t, "wrong bytes", meantSeal(9, 4, 4, b), blocks)
		}
	}
	if !checkOf(t, "right bytes", meantSeal(9, 4, 4, right), 9) {
		t.Errorf("Of bytes %x: there is none", right)
	}
}

// P9.1: of a block each byte, as each other one; and each byte of both marks at once.
func TestOfSpoilt(t *testing.T) {
	for _, h := range []Head{{4, 2, 1, 9, 5}, {top - 1, top, 0, 1 << 40, 6}} {
		whole := meantBlock(h)
		for at := range 256 {
			b := bytes.Clone(whole)
			for c := range 256 {
				b[at] = byte(c)
				if got := checkOf(t, "a byte that is another one", b, 9); got && (at < 17 || at >= 239) && !bytes.Equal(b, whole) {
					t.Fatalf("Of %x: there is one", b)
				}
			}
		}
		for at := range 17 {
			b := bytes.Clone(whole)
			for c := range 256 {
				b[at], b[239+at] = byte(c), byte(c)
				checkOf(t, "a byte of both marks", b, 9)
			}
		}
	}
}

// P9.2, P9.3, example 1: on a device without heads.
func TestExample(t *testing.T) {
	d := empty(t, 6)
	loads(t, "without heads", d, Head{}, api.ErrNone)
	h := Head{Gen: 1, Epoch: 1, Pos: 0, Seq: 1, Log: 3}
	wants(t, "Save", Save(d, h), api.OK)
	loads(t, "saved", d, h, api.OK)
}

// P9.2, P9.3: a device that no call made: that is told ahead of a head that is not right.
func TestNotMade(t *testing.T) {
	for name, d := range notMade() {
		for _, h := range append(heads(), Head{}, Head{1, 1, -1, 1, math.MinInt}) {
			wants(t, name+": Save", Save(d, h), api.ErrNil)
		}
		loads(t, name, d, Head{}, api.ErrNil)
	}
}

// P9.2: the block is in its slot, and kept; all others stand; it is a write and a flush, and no call else.
func TestSave(t *testing.T) {
	if Slots != 2 {
		t.Fatalf("Slots %d", Slots)
	}
	for i, h := range heads() {
		blocks := []int{9, 10, 40}[i%3]
		d := device(t, blocks)
		ops := d.Ops()
		wants(t, "Save", Save(d, h), api.OK)
		if d.Ops() != ops+2 || d.Waiting() != 0 || d.Down() {
			t.Fatalf("Save of %v: Ops %d behind %d, Waiting %d, Down %v", h, d.Ops(), ops, d.Waiting(), d.Down())
		}
		d.Fall(nil)
		for n := range blocks {
			want := mixed(n)
			if uint64(n) == h.Gen%2 {
				want = meantBlock(h)
			}
			stands(t, "saved", d, n, want)
		}
		loads(t, "saved", d, h, api.OK)
	}
}

// P9.2: heads that are not right there: it is no call, and nothing has changed.
func TestSaveWrong(t *testing.T) {
	wrong := []Head{
		{},
		{0, 1, 0, 1, 3}, {1, 0, 0, 1, 3}, {1, 1, 0, 0, 3},
		{top + 1, 1, 0, 1, 3}, {1, top + 1, 0, 1, 3}, {1, 1, 0, top + 1, 3},
		{1, 1, -1, 1, 3}, {1, 1, 3, 1, 3}, {1, 1, 0, 1, 2}, {1, 1, 0, 1, -3},
		{1, 1, math.MinInt, 1, 3}, {1, 1, 0, 1, math.MinInt}, {1, 1, 0, 1, math.MaxInt},
	}
	for blocks := 1; blocks <= 12; blocks++ {
		d := device(t, blocks)
		d.Write(0, full(1))
		d.Arm(0)
		ops := d.Ops()
		for _, h := range append(wrong, Head{1, 1, 0, 1, max(blocks-2, 3)}, Head{2, 1, 0, 1, 4096}) {
			wants(t, "Save", Save(d, h), api.ErrArg)
		}
		if d.Ops() != ops || d.Waiting() != 1 || d.Down() {
			t.Fatalf("wrong ones are calls: Ops %d behind %d, Waiting %d, Down %v", d.Ops(), ops, d.Waiting(), d.Down())
		}
		d.Arm(-1)
		stands(t, "written", d, 0, full(1))
		for n := 1; n < blocks; n++ {
			stands(t, "wrong ones do nothing", d, n, mixed(n))
		}
		if blocks >= 6 {
			wants(t, "the greatest log", Save(d, Head{3, 1, blocks - 4, 1, blocks - 3}), api.OK)
		}
	}
}

// P9.2, P9.3: the greatest device, and its greatest log.
func TestGreatest(t *testing.T) {
	d := empty(t, 4096)
	wants(t, "Save, too great", Save(d, Head{1, 1, 0, 1, 4094}), api.ErrArg)
	h := Head{1, 1, 4092, 1, 4093}
	wants(t, "Save", Save(d, h), api.OK)
	loads(t, "saved", d, h, api.OK)
}

// P9.2: a device that falls at the write, or at the flush, or that fell: a wrong head is told first; of the calls none is done, or counted, behind one that is not done.
func TestSaveFalls(t *testing.T) {
	h := Head{2, 1, 0, 1, 3}
	for calls, waiting := range []int{0, 1} {
		d := device(t, 6)
		ops := d.Ops()
		d.Arm(calls)
		wants(t, "Save at the fall", Save(d, h), api.ErrDown)
		if d.Ops() != ops+calls+1 || d.Waiting() != waiting || !d.Down() {
			t.Fatalf("armed %d: Ops %d behind %d, Waiting %d, Down %v", calls, d.Ops(), ops, d.Waiting(), d.Down())
		}
		wants(t, "Save behind it", Save(d, h), api.ErrDown)
		wants(t, "Save of none behind it", Save(d, Head{}), api.ErrArg)
		loads(t, "behind it", d, Head{}, api.ErrDown)
		d.Fall(nil)
		for n := range 6 {
			stands(t, "nothing is kept", d, n, mixed(n))
		}
		wants(t, "Save, up again", Save(d, h), api.OK)
		loads(t, "up again", d, h, api.OK)
	}
	d := device(t, 6)
	d.Arm(2)
	wants(t, "Save ahead of the fall", Save(d, h), api.OK)
	loads(t, "the first call behind", d, Head{}, api.ErrDown)
}

// P9.2: what waited ahead of a Save is flushed with it.
func TestSaveFlushesAll(t *testing.T) {
	d := device(t, 6)
	d.Write(4, full(7))
	wants(t, "Save", Save(d, Head{2, 1, 0, 1, 3}), api.OK)
	d.Fall(nil)
	stands(t, "flushed", d, 4, full(7))
}

// P9.3: it reads the slots, and does nothing else; the dev's error at either.
func TestLoadReads(t *testing.T) {
	d := device(t, 6)
	h := Head{2, 1, 0, 1, 3}
	wants(t, "Save", Save(d, h), api.OK)
	d.Write(4, full(7))
	ops := d.Ops()
	loads(t, "saved", d, h, api.OK)
	if d.Ops() != ops+2 || d.Waiting() != 1 {
		t.Fatalf("Load: Ops %d behind %d, Waiting %d", d.Ops(), ops, d.Waiting())
	}
	for _, calls := range []int{0, 1} {
		c := d.Clone()
		c.Arm(calls)
		loads(t, "at the fall", c, Head{}, api.ErrDown)
		loads(t, "behind it", c, Head{}, api.ErrDown)
		if c.Ops() != ops+2+calls+2 || !c.Down() {
			t.Fatalf("armed %d: Ops %d behind %d, Down %v", calls, c.Ops(), ops+2, c.Down())
		}
		c.Fall(nil)
		loads(t, "up again", c, h, api.OK)
	}
	c := d.Clone()
	c.Arm(2)
	loads(t, "ahead of the fall", c, h, api.OK)
	wants(t, "the call behind", c.Flush(), api.ErrDown)
	d.Fall(nil)
	stands(t, "not flushed by a Load", d, 4, mixed(4))
}

// P9.3: small devices: of one block, the second slot is none of its blocks, which is the device's error; of fewer than 6, no head is right there.
func TestLoadSmall(t *testing.T) {
	d := empty(t, 1)
	loads(t, "of one block", d, Head{}, api.ErrArg)
	d.Write(0, meantBlock(Head{2, 1, 0, 1, 3}))
	loads(t, "of one block", d, Head{}, api.ErrArg)
	d.Arm(0)
	loads(t, "of one block", d, Head{}, api.ErrDown)
	for blocks := 2; blocks < 9; blocks++ {
		d := empty(t, blocks)
		loads(t, "empty", d, Head{}, api.ErrNone)
		d.Write(0, meantBlock(Head{2, 1, 0, 1, 3}))
		d.Write(1, meantBlock(Head{3, 1, 0, 1, blocks - 2}))
		want, e := Head{2, 1, 0, 1, 3}, api.OK
		if blocks < 6 {
			want, e = Head{}, api.ErrNone
		}
		loads(t, "small", d, want, e)
	}
}

// slots tells blocks that may stand in one: heads of both slots, right there or not, spoilt ones, others, and none.
func slots() [][]byte {
	out := [][]byte{full(0), full(9), mixed(1), mixed(2)}
	for i, gen := range []uint64{1, 2, 3, 4, 5, 255, 256, 257, 1 << 32, 1<<32 + 1, top - 1, top, top + 1, 0} {
		h := Head{gen, uint64(i + 1), i % 3, uint64(i + 9), 3}
		spoilt, covered := meantBlock(h), meantBlock(h)
		spoilt[200] ^= 1
		covered[0] = 3
		out = append(out, meantBlock(h), spoilt, covered)
		h.Log = 6
		out = append(out, meantBlock(h))
		h.Log = 7
		out = append(out, meantBlock(h))
		out = append(out, meantSeal(9, gen, gen+1, meantNumbers(1, 1, 1, 3)), meantSeal(1, gen, gen, meantNumbers(1, 1, 1, 3)))
	}
	return out
}

// P9.3: each against each other one.
func TestLoadPairs(t *testing.T) {
	d := empty(t, 9)
	for _, a := range slots() {
		for _, b := range slots() {
			d.Write(0, a)
			d.Write(1, b)
			d.Flush()
			want, e := meantLoad([][]byte{a, b}, 9)
			loads(t, "two slots", d, want, e)
		}
	}
}

// P9.3: heads beside their slots, at the other one and behind, are none.
func TestLoadOtherSlot(t *testing.T) {
	even, odd := Head{6, 1, 0, 1, 3}, Head{7, 1, 0, 1, 3}
	d := empty(t, 9)
	d.Write(0, meantBlock(odd))
	d.Write(1, meantBlock(even))
	d.Write(2, meantBlock(even))
	d.Write(3, meantBlock(odd))
	loads(t, "turned", d, Head{}, api.ErrNone)
	d.Write(0, meantBlock(even))
	loads(t, "one of them", d, even, api.OK)
	d.Write(0, meantBlock(odd))
	d.Write(1, meantBlock(odd))
	loads(t, "the other one", d, odd, api.OK)
}

// P9.2, P9.3: many in a row: the last one is told, and the one ahead where the last one is spoilt.
func TestTurns(t *testing.T) {
	for _, first := range []uint64{1, 250, 1<<16 - 5, 1<<56 - 5, top - 20} {
		d := empty(t, 9)
		var ahead Head
		for i := range uint64(20) {
			h := Head{first + i, i/3 + 1, int(i % 4), 10*i + 1, 4}
			wants(t, "Save", Save(d, h), api.OK)
			loads(t, "the last one", d, h, api.OK)
			c := d.Clone()
			c.Write(int(h.Gen%2), mixed(3))
			want, e := ahead, api.OK
			if i == 0 {
				e = api.ErrNone
			}
			loads(t, "the last one is spoilt", c, want, e)
			ahead = h
		}
	}
	d := empty(t, 9)
	wants(t, "Save of the last one", Save(d, Head{top, 1, 0, 1, 3}), api.OK)
	wants(t, "Save behind it", Save(d, Head{top + 1, 1, 0, 1, 3}), api.ErrArg)
	loads(t, "the last one of all", d, Head{top, 1, 0, 1, 3}, api.OK)
}

// whole tells whether the first bytes of a head's block, written to a slot, make that block, which they may also do where the rest is alike.
func whole(h Head, slot []byte, keep int) bool {
	in := min(max(keep, 0), 256)
	return bytes.Equal(meantBlock(h)[in:], slot[in:])
}

// P9.4: behind each number of heads, at each call, with each number of bytes kept: that one, or this one, where its block is whole.
func TestFallEverywhere(t *testing.T) {
	for _, first := range []uint64{1, 2, 254, 255, 256, 65535, 1<<24 - 1, 1<<40 - 2, 1<<56 - 1, top - 3} {
		d := empty(t, 9)
		var last Head
		lastE := api.ErrNone
		for i := range uint64(4) {
			h := Head{first + i, first + i/2, int(i), top - i<<(7*i), 4 + int(i%3)}
			slot, _ := d.Read(int(h.Gen % 2))
			for calls := range 3 {
				for keep := range 257 {
					c := d.Clone()
					c.Arm(calls)
					e := Save(c, h)
					if (e == api.OK) != (calls == 2) {
						t.Fatalf("armed %d: Save: error %d", calls, int(e))
					}
					c.Fall([]int{keep})
					if e == api.OK || calls == 1 && whole(h, slot, keep) {
						loads(t, "this one", c, h, api.OK)
					} else {
						loads(t, "that one", c, last, lastE)
					}
				}
			}
			wants(t, "Save", Save(d, h), api.OK)
			last, lastE = h, api.OK
		}
	}
}

// P9.4: falls within Saves, one behind the other, of which each goes on from what the fall left; heads of one Gen among them, that are unlike.
func TestManyFalls(t *testing.T) {
	runs := 60
	if testing.Short() {
		runs = 6
	}
	for run := range runs {
		pick := chance(run)
		d := empty(t, 9)
		last := Head{[]uint64{1, 200, 1<<16 - 9, 1<<48 - 9, top - 900}[run%5], 1, 0, 1, 3}
		wants(t, "Save", Save(d, last), api.OK)
		for range 300 {
			log := 3 + pick(4)
			h := Head{last.Gen + 1, uint64(1 + pick(1<<30)), pick(log), uint64(1 + pick(300)), log}
			d.Arm(pick(4) - 1)
			e := Save(d, h)
			d.Fall([]int{[]int{0, 256, 17, 239, pick(257), pick(24), 233 + pick(24)}[pick(7)]})
			got, loadE := Load(d)
			if loadE != api.OK || got != h && (e == api.OK || got != last) {
				t.Fatalf("Save of %v behind %v, error %d: Load: %v, error %d", h, last, int(e), got, int(loadE))
			}
			last = got
		}
	}
}

// P9.4: falls within Load, and behind one: nothing changes.
func TestFallWithinLoad(t *testing.T) {
	d := empty(t, 9)
	h := Head{1, 1, 0, 1, 3}
	wants(t, "Save", Save(d, h), api.OK)
	for calls := range 4 {
		d.Arm(calls)
		Load(d)
		d.Fall(nil)
		loads(t, "behind a fall", d, h, api.OK)
	}
}

// Rule 4: a block that is put is new memory; what is handed to Of is not changed, its spare room neither.
func TestOwnMemory(t *testing.T) {
	h := Head{4, 2, 1, 9, 5}
	first, _ := h.Put()
	second, _ := h.Put()
	first = first[:cap(first)]
	for i := range first {
		first[i] ^= 0xff
	}
	if !bytes.Equal(second, meantBlock(h)) {
		t.Error("two answers share memory")
	}
	for _, b := range [][]byte{meantBlock(h), mixed(1), meantBlock(Head{4, 2, 1, 9, 50})} {
		whole := append(bytes.Clone(b), mixed(2)...)
		was := bytes.Clone(whole)
		got, ok := Of(whole[:256], 9)
		if want, there := meantOf(b, 9); got != want || ok != there || !bytes.Equal(whole, was) {
			t.Errorf("Of %x, with spare room: %v, %v", b, got, ok)
		}
		clear(whole)
		if again, _ := Of(b, 9); again != got {
			t.Errorf("Of %x, again: %v", b, again)
		}
	}
}

// P9.1: any block, and any head, on any device; and P9.4 of it, behind a head whose Gen is 1 less.
func FuzzHead(f *testing.F) {
	f.Add([]byte{}, uint64(1), uint64(1), 0, uint64(1), 3, 6, 100)
	f.Add(meantBlock(Head{4, 2, 1, 9, 5}), uint64(5), uint64(3), 4, uint64(11), 5, 8, 18)
	f.Add(meantSeal(9, 4, 4, meantNumbers(2, 1<<63, 9, 5)), uint64(top), uint64(top+1), -1, uint64(0), -1, math.MinInt, 256)
	f.Fuzz(func(t *testing.T, block []byte, gen, epoch uint64, pos int, seq uint64, log, blocks, keep int) {
		checkOf(t, "any", block, blocks)
		h := Head{gen, epoch, pos, seq, log}
		checkRight(t, h, blocks)
		if blocks < 1 || blocks > 4096 {
			return
		}
		d := empty(t, blocks)
		last := Head{gen - 1, 1, 0, 1, 3}
		if !meantRight(h, blocks) || !meantRight(last, blocks) {
			if e := Save(d, h); (e == api.OK) != meantRight(h, blocks) {
				t.Fatalf("Save of %v, %d blocks: error %d", h, blocks, int(e))
			}
			return
		}
		wants(t, "Save", Save(d, last), api.OK)
		d.Arm(1)
		wants(t, "Save at the fall", Save(d, h), api.ErrDown)
		d.Fall([]int{keep})
		want := last
		if whole(h, full(0), keep) {
			want = h
		}
		loads(t, "behind the fall", d, want, api.OK)
	})
}
