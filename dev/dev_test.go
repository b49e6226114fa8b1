package dev

import (
	"bytes"
	"math"
	"slices"
	"testing"

	"saddlebag/api"
	"saddlebag/short"
)

// device makes one, which must be.
func device(t testing.TB, blocks int) *Dev {
	t.Helper()
	d, e := New(blocks)
	if e != api.OK || d == nil {
		t.Fatalf("New of %d: error %d", blocks, int(e))
	}
	return d
}

// notMade tells the two kinds of a Dev that no call made.
func notMade() map[string]*Dev { return map[string]*Dev{"nil": nil, "plain": {}} }

// full tells a block of one byte; pieces one of such pieces, each of so many bytes, and then bytes 0.
func full(c byte) []byte { return bytes.Repeat([]byte{c}, 256) }

type piece struct {
	c    byte
	many int
}

func pieces(l ...piece) []byte {
	out := make([]byte, 0, 256)
	for _, p := range l {
		out = append(out, bytes.Repeat([]byte{p.c}, p.many)...)
	}
	return append(out, make([]byte, 256-len(out))...)
}

// mixed tells a block of bytes that go up and down, other ones for each seed.
func mixed(seed int) []byte {
	pick := chance(seed)
	out := make([]byte, 256)
	for i := range out {
		out[i] = byte(pick(256))
	}
	return out
}

// chance tells numbers that go up and down, from 0 to below n.
func chance(seed int) func(n int) int {
	state := uint64(seed)*0x9e3779b97f4a7c15 + 1
	return func(n int) int {
		state = state*6364136223846793005 + 1442695040888963407
		return int(state>>33) % n
	}
}

// wants does something that must answer an error, or OK.
func wants(t *testing.T, what string, got, want api.Errno) {
	t.Helper()
	if got != want {
		t.Fatalf("%s: error %d, not %d", what, int(got), int(want))
	}
}

// stands holds a block of a device against what is meant.
func stands(t *testing.T, what string, d *Dev, n int, want []byte) {
	t.Helper()
	got, e := d.Read(n)
	if e != api.OK || !bytes.Equal(got, want) {
		t.Fatalf("%s: block %d is %x, error %d; not %x", what, n, got, int(e), want)
	}
}

// tells holds what a device tells of itself against what is meant.
func tells(t *testing.T, what string, d *Dev, ops, waiting int, down bool) {
	t.Helper()
	if d.Ops() != ops || d.Waiting() != waiting || d.Down() != down {
		t.Fatalf("%s: Ops %d, Waiting %d, Down %v; not %d, %d, %v", what, d.Ops(), d.Waiting(), d.Down(), ops, waiting, down)
	}
}

// P7.1: every number about the edges, and those at the ends of the range.
func TestNewLen(t *testing.T) {
	numbers := []int{math.MinInt, math.MinInt + 1, math.MinInt32, -4096, -256, 255, 256, 257, 65535, 65536, 65537, math.MaxInt32, 1 << 32, 1<<32 + 1, math.MaxInt - 1, math.MaxInt}
	for i := -3; i <= 20; i++ {
		numbers = append(numbers, i, 4096+i, 2048+i)
	}
	for _, blocks := range numbers {
		right := blocks >= 1 && blocks <= 4096
		d, e := New(blocks)
		if right != (e == api.OK) || right != (d != nil) || !right && e != api.ErrArg {
			t.Fatalf("New of %d: %v, error %d", blocks, d != nil, int(e))
		}
		if right && d.Len() != blocks || !right && d.Len() != 0 {
			t.Errorf("Len of %d: %d", blocks, d.Len())
		}
	}
}

// P7.1: all bytes are 0, it is up, and no call falls.
func TestNewIsEmpty(t *testing.T) {
	for _, blocks := range []int{1, 2, 3, 4096} {
		d := device(t, blocks)
		tells(t, "new", d, 0, 0, false)
		for n := range blocks {
			stands(t, "new", d, n, make([]byte, 256))
		}
		wants(t, "Flush", d.Flush(), api.OK)
		tells(t, "read, and flushed", d, blocks+1, 0, false)
	}
}

// P7.1 to P7.4, rule 1: of one that no call made, whatever it is given; and nothing is done to it.
func TestNotMade(t *testing.T) {
	for name, d := range notMade() {
		for _, n := range []int{math.MinInt, -1, 0, 1, 4096, math.MaxInt} {
			d.Arm(n)
			d.Fall([]int{n})
			if b, e := d.Read(n); e != api.ErrNil || len(b) != 0 {
				t.Errorf("%s: Read of %d: %x, error %d", name, n, b, int(e))
			}
			for _, b := range [][]byte{nil, {}, full(1)[:255], full(1), append(full(1), 1)} {
				wants(t, name+": Write", d.Write(n, b), api.ErrNil)
			}
			wants(t, name+": Flush", d.Flush(), api.ErrNil)
			tells(t, name, d, 0, 0, false)
		}
		d.Fall(nil)
		if d.Len() != 0 || d.Clone() != nil {
			t.Errorf("%s: Len %d, Clone %v", name, d.Len(), d.Clone() != nil)
		}
		tells(t, name, d, 0, 0, false)
	}
}

// P7.2: what was written is read, with a Flush behind it or without; the last one counts.
func TestReadWriteFlush(t *testing.T) {
	d := device(t, 3)
	wants(t, "Write", d.Write(1, full(7)), api.OK)
	stands(t, "beside a write", d, 0, full(0))
	stands(t, "a write that waits", d, 1, full(7))
	stands(t, "beside a write", d, 2, full(0))
	wants(t, "Write", d.Write(1, mixed(1)), api.OK)
	wants(t, "Write", d.Write(2, mixed(2)), api.OK)
	stands(t, "written twice", d, 1, mixed(1))
	wants(t, "Flush", d.Flush(), api.OK)
	stands(t, "flushed", d, 0, full(0))
	stands(t, "flushed", d, 1, mixed(1))
	stands(t, "flushed", d, 2, mixed(2))
	wants(t, "Write", d.Write(1, full(0)), api.OK)
	stands(t, "bytes 0 over others", d, 1, full(0))
}

// P7.2: at the edges: the first and the last block of small devices and of the greatest.
func TestReadWriteEdges(t *testing.T) {
	for _, blocks := range []int{1, 2, 255, 256, 257, 4095, 4096} {
		d := device(t, blocks)
		for _, n := range []int{0, blocks / 2, blocks - 1} {
			wants(t, "Write", d.Write(n, mixed(n)), api.OK)
		}
		for _, n := range []int{0, blocks / 2, blocks - 1} {
			stands(t, "written", d, n, mixed(n))
		}
	}
}

// P7.2: what may not be: numbers of blocks, also at the ends of the range, and lengths; it is no call, and nothing is done.
func TestWrongArguments(t *testing.T) {
	for _, blocks := range []int{1, 3, 4096} {
		d := device(t, blocks)
		wants(t, "Write", d.Write(0, mixed(3)), api.OK)
		d.Arm(0)
		for _, n := range []int{math.MinInt, math.MinInt32, -4096, -2, -1, blocks, blocks + 1, 4096, 1 << 16, 1 << 32, math.MaxInt32, math.MaxInt} {
			if b, e := d.Read(n); e != api.ErrArg || len(b) != 0 {
				t.Fatalf("Read of %d: %x, error %d", n, b, int(e))
			}
			for _, b := range [][]byte{nil, {}, full(1)[:255], full(1), append(full(1), 1)} {
				wants(t, "Write where there is no block", d.Write(n, b), api.ErrArg)
			}
		}
		for _, long := range []int{0, 1, 128, 254, 255, 257, 258, 511, 512, 65536 + 256} {
			wants(t, "Write of another length", d.Write(0, make([]byte, long)), api.ErrArg)
			wants(t, "Write of another length", d.Write(blocks-1, make([]byte, long, 65536*2)), api.ErrArg)
		}
		wants(t, "Write of nil", d.Write(0, nil), api.ErrArg)
		tells(t, "wrong ones are no calls", d, 1, 1, false)
		d.Arm(-1)
		stands(t, "wrong ones do nothing", d, 0, mixed(3))
	}
}

// P7.2, P7.3: of a device that fell: wrong arguments are told first, and are no calls; all calls are counted, and not done.
func TestFellAlready(t *testing.T) {
	d := device(t, 2)
	wants(t, "Write", d.Write(1, full(9)), api.OK)
	d.Arm(0)
	wants(t, "Flush at the fall", d.Flush(), api.ErrDown)
	tells(t, "fell", d, 2, 1, true)
	for i := range 5 {
		if b, e := d.Read(0); e != api.ErrDown || len(b) != 0 {
			t.Errorf("Read: %x, error %d", b, int(e))
		}
		wants(t, "Write", d.Write(1, full(8)), api.ErrDown)
		wants(t, "Flush", d.Flush(), api.ErrDown)
		if b, e := d.Read(2); e != api.ErrArg || len(b) != 0 {
			t.Errorf("Read of none: %x, error %d", b, int(e))
		}
		wants(t, "Write of none", d.Write(-1, full(8)), api.ErrArg)
		wants(t, "Write of too few", d.Write(1, full(8)[:255]), api.ErrArg)
		tells(t, "fell, with calls behind", d, 5+3*i, 1, true)
	}
	if d.Len() != 2 {
		t.Errorf("Len of one that fell: %d", d.Len())
	}
	d.Fall([]int{256})
	stands(t, "up again", d, 1, full(9))
	tells(t, "up again", d, 18, 0, false)
}

// P7.3: being armed lets no device that fell be up, and a Fall takes it away.
func TestArmWhileDown(t *testing.T) {
	for _, calls := range []int{math.MinInt, -1, 0, 1, 2, 5, math.MaxInt} {
		d := device(t, 1)
		d.Arm(0)
		d.Flush()
		d.Arm(calls)
		tells(t, "armed while down", d, 1, 0, true)
		for range 4 {
			wants(t, "Flush", d.Flush(), api.ErrDown)
		}
		d.Arm(calls)
		d.Fall(nil)
		for range 10 {
			wants(t, "Flush behind a Fall", d.Flush(), api.OK)
		}
		tells(t, "up again", d, 15, 0, false)
	}
}

// does tells each kind of a call that is one, by its name.
func does() map[string]func(d *Dev) api.Errno {
	return map[string]func(d *Dev) api.Errno{
		"Read": func(d *Dev) api.Errno {
			b, e := d.Read(0)
			if e != api.OK && len(b) != 0 {
				return api.ErrForm
			}
			return e
		},
		"Write": func(d *Dev) api.Errno { return d.Write(0, full(5)) },
		"Flush": (*Dev).Flush,
	}
}

// P7.3: the call falls that is so many calls from now, whatever kind it and the others are; those ahead of it are done, those behind it not.
func TestArm(t *testing.T) {
	for ahead, first := range does() {
		for at, fall := range does() {
			for calls := range 6 {
				d := device(t, 1)
				for range 3 {
					first(d)
				}
				d.Arm(calls)
				tells(t, "armed", d, 3, d.Waiting(), false)
				for range calls {
					wants(t, ahead+" ahead", first(d), api.OK)
				}
				was := d.Waiting()
				tells(t, ahead+" ahead", d, 3+calls, was, false)
				wants(t, at+" at the fall", fall(d), api.ErrDown)
				tells(t, at+" at the fall", d, 4+calls, was, true)
				wants(t, ahead+" behind", first(d), api.ErrDown)
				tells(t, ahead+" behind", d, 5+calls, was, true)
			}
		}
	}
}

// P7.3: below 0 none falls; numbers at the ends of the range; being armed anew, the last one counts, from then on.
func TestArmAnew(t *testing.T) {
	for _, calls := range []int{math.MinInt, math.MinInt32, -2, -1, 100, math.MaxInt32, 1 << 32, math.MaxInt - 1, math.MaxInt} {
		for _, ahead := range []int{-1, 0, 1, 99, math.MaxInt} {
			d := device(t, 1)
			d.Flush()
			d.Arm(ahead)
			d.Arm(calls)
			for range 99 {
				wants(t, "Flush", d.Flush(), api.OK)
			}
			tells(t, "none fell", d, 100, 0, false)
			d.Arm(0)
			wants(t, "Flush, armed anew", d.Flush(), api.ErrDown)
		}
	}
	d := device(t, 1)
	d.Arm(3)
	d.Flush()
	d.Flush()
	d.Arm(2)
	wants(t, "first from then on", d.Flush(), api.OK)
	wants(t, "second from then on", d.Flush(), api.OK)
	wants(t, "third from then on", d.Flush(), api.ErrDown)
}

// P7.3: a fall comes once: behind the Fall it is not armed any more, not even if the call had not come yet.
func TestFallDisarms(t *testing.T) {
	for calls := range 4 {
		for done := range 5 {
			d := device(t, 1)
			d.Arm(calls)
			for range done {
				d.Flush()
			}
			tells(t, "armed", d, done, 0, done > calls)
			d.Fall(nil)
			tells(t, "up", d, done, 0, false)
			for range 10 {
				wants(t, "Flush", d.Flush(), api.OK)
			}
		}
	}
}

// P7.3: writes wait until a Flush that answers OK; each is one, also of the same block and the same bytes; Reads are none.
func TestWaiting(t *testing.T) {
	d := device(t, 4)
	for i := range 10 {
		wants(t, "Write", d.Write(i%3, full(1)), api.OK)
		stands(t, "written", d, i%3, full(1))
		tells(t, "written", d, 2*i+2, i+1, false)
	}
	d.Arm(0)
	wants(t, "Flush that falls", d.Flush(), api.ErrDown)
	wants(t, "Flush behind the fall", d.Flush(), api.ErrDown)
	tells(t, "not flushed", d, 22, 10, true)
	d.Fall([]int{256, 256, 256})
	tells(t, "fallen", d, 22, 0, false)
	wants(t, "Write", d.Write(0, full(1)), api.OK)
	wants(t, "Flush", d.Flush(), api.OK)
	tells(t, "flushed", d, 24, 0, false)
	wants(t, "Flush", d.Flush(), api.OK)
	tells(t, "flushed twice", d, 25, 0, false)
}

// P7.4, example 1 and example 5 of the whole: a write without a Flush, and a fall: the block is as it was.
func TestFallExample(t *testing.T) {
	d := device(t, 2)
	d.Write(0, mixed(1))
	d.Fall(nil)
	stands(t, "of bytes 0", d, 0, full(0))
	d.Write(0, mixed(1))
	d.Flush()
	d.Write(0, mixed(2))
	d.Fall(nil)
	stands(t, "of others", d, 0, mixed(1))
	tells(t, "up", d, 6, 0, false)
}

// P7.4: of one write, every number of bytes, and numbers out of the range of a block.
func TestFallEveryNumber(t *testing.T) {
	numbers := []int{math.MinInt, math.MinInt32, -257, -256, -2, 257, 258, 511, 512, 513, 1 << 16, 1 << 32, math.MaxInt32, math.MaxInt}
	for i := -1; i <= 256; i++ {
		numbers = append(numbers, i)
	}
	for _, many := range numbers {
		d := device(t, 2)
		d.Write(1, mixed(1))
		d.Flush()
		d.Write(1, mixed(2))
		d.Fall([]int{many})
		in := min(max(many, 0), 256)
		stands(t, "torn", d, 1, append(mixed(2)[:in:in], mixed(1)[in:]...))
		stands(t, "beside it", d, 0, full(0))
	}
}

// P7.4: by hand: several writes, to the same block and to others, with fewer numbers, or more, than writes.
func TestFallByHand(t *testing.T) {
	type w struct {
		n int
		c byte
	}
	for _, c := range []struct {
		writes []w
		keep   []int
		want   [][]byte
	}{
		{nil, nil, [][]byte{full(1), full(0)}},
		{nil, []int{256, 256}, [][]byte{full(1), full(0)}},
		{[]w{{0, 5}, {0, 6}}, []int{200, 100}, [][]byte{pieces(piece{6, 100}, piece{5, 100}, piece{1, 56}), full(0)}},
		{[]w{{0, 5}, {0, 6}}, []int{100, 200}, [][]byte{pieces(piece{6, 200}, piece{1, 56}), full(0)}},
		{[]w{{0, 5}, {0, 6}}, []int{0, 200}, [][]byte{pieces(piece{6, 200}, piece{1, 56}), full(0)}},
		{[]w{{0, 5}, {0, 6}}, []int{200}, [][]byte{pieces(piece{5, 200}, piece{1, 56}), full(0)}},
		{[]w{{0, 5}, {0, 6}}, []int{256, 1}, [][]byte{pieces(piece{6, 1}, piece{5, 255}), full(0)}},
		{[]w{{0, 5}, {0, 6}}, []int{256, 255}, [][]byte{pieces(piece{6, 255}, piece{5, 1}), full(0)}},
		{[]w{{0, 5}, {0, 6}}, []int{256, 256}, [][]byte{full(6), full(0)}},
		{[]w{{0, 5}, {1, 6}}, []int{3, 4}, [][]byte{pieces(piece{5, 3}, piece{1, 253}), pieces(piece{6, 4})}},
		{[]w{{1, 5}, {0, 6}}, []int{3, 4}, [][]byte{pieces(piece{6, 4}, piece{1, 252}), pieces(piece{5, 3})}},
		{[]w{{1, 5}, {0, 6}, {1, 7}, {0, 8}}, []int{30, 40, 20, -1}, [][]byte{pieces(piece{6, 40}, piece{1, 216}), pieces(piece{7, 20}, piece{5, 10})}},
		{[]w{{1, 5}, {1, 6}, {1, 7}}, []int{9, 300, 3, 256, 256}, [][]byte{full(1), pieces(piece{7, 3}, piece{6, 253})}},
		{[]w{{1, 5}, {1, 6}, {1, 7}}, []int{}, [][]byte{full(1), full(0)}},
		{[]w{{1, 5}, {1, 1}, {1, 5}}, []int{0, 0, 1}, [][]byte{full(1), pieces(piece{5, 1})}},
	} {
		d := device(t, 2)
		d.Write(0, full(1))
		d.Flush()
		for _, x := range c.writes {
			wants(t, "Write", d.Write(x.n, full(x.c)), api.OK)
		}
		d.Fall(c.keep)
		tells(t, "up", d, 2+len(c.writes), 0, false)
		for n, want := range c.want {
			stands(t, "by hand", d, n, want)
		}
		d.Fall([]int{256, 256, 256})
		for n, want := range c.want {
			stands(t, "nothing waits any more", d, n, want)
		}
	}
}

// P7.4, P7.5: a call that is not done leaves nothing behind, whatever is kept of the others.
func TestFallOfTheCall(t *testing.T) {
	d := device(t, 2)
	d.Write(0, full(1))
	d.Arm(0)
	wants(t, "Write at the fall", d.Write(0, full(2)), api.ErrDown)
	wants(t, "Write behind it", d.Write(1, full(3)), api.ErrDown)
	d.Fall([]int{256, 256, 256, 256})
	stands(t, "the write ahead", d, 0, full(1))
	stands(t, "the write behind", d, 1, full(0))

	d.Write(0, full(4))
	d.Arm(0)
	wants(t, "Flush at the fall", d.Flush(), api.ErrDown)
	d.Fall(nil)
	stands(t, "a Flush that was not done", d, 0, full(1))
}

// P7.5: blocks that a Flush kept stay, whatever falls; blocks that were not written stay as they were, though others are torn.
func TestFlushedStays(t *testing.T) {
	const blocks = 9
	d := device(t, blocks)
	for n := range 6 {
		d.Write(n, mixed(n))
	}
	d.Flush()
	for try := range 200 {
		pick := chance(try)
		var keep []int
		for i := range pick(6) {
			d.Write(3+pick(3), mixed(100+try+i))
			keep = append(keep, pick(300)-20)
		}
		if pick(2) == 0 {
			d.Arm(pick(2))
			d.Read(0)
			d.Flush()
			d.Write(1, full(1))
		}
		d.Fall(keep)
		for n := range 3 {
			stands(t, "flushed", d, n, mixed(n))
			stands(t, "never written", d, 6+n, full(0))
		}
	}
}

// P7.5: what a Fall left is as good as flushed: the next one takes nothing of it away.
func TestFallenStays(t *testing.T) {
	d := device(t, 1)
	d.Write(0, full(1))
	d.Fall([]int{10})
	d.Fall(nil)
	stands(t, "fallen twice", d, 0, pieces(piece{1, 10}))
	d.Write(0, full(2))
	d.Fall([]int{3})
	stands(t, "fallen again", d, 0, pieces(piece{2, 3}, piece{1, 7}))
}

// meant is a device by the words: blocks as the last Flush left them, and the writes behind it.
type meant struct {
	kept  [][]byte
	waits []meantWrite
	ops   uint64
	at    uint64 // how many calls are ahead of the one that is not done
	armed bool
	down  bool
}

type meantWrite struct {
	n int
	b []byte
}

func newMeant(blocks int) *meant {
	m := &meant{}
	for range blocks {
		m.kept = append(m.kept, make([]byte, 256))
	}
	return m
}

func (m *meant) clone() *meant {
	out := *m
	out.waits = slices.Clone(m.waits)
	out.kept = nil
	for _, b := range m.kept {
		out.kept = append(out.kept, bytes.Clone(b))
	}
	return &out
}

// call tells what one answers.
func (m *meant) call(right bool) api.Errno {
	if !right {
		return api.ErrArg
	}
	m.down = m.down || m.armed && m.ops == m.at
	m.ops++
	if m.down {
		return api.ErrDown
	}
	return api.OK
}

func (m *meant) has(n int) bool { return 0 <= n && n < len(m.kept) }

func (m *meant) block(n int) []byte {
	out := m.kept[n]
	for _, w := range m.waits {
		if w.n == n {
			out = w.b
		}
	}
	return out
}

func (m *meant) fall(keep []int) {
	for i, w := range m.waits {
		for k := range 256 {
			if i < len(keep) && k < keep[i] {
				m.kept[w.n][k] = w.b[k]
			}
		}
	}
	m.waits, m.armed, m.down = nil, false, false
}

// act is something that is done to a device.
type act struct {
	kind byte
	n    int
	b    []byte
	keep []int
}

// do does the same to both, and holds the answers against each other.
func do(t testing.TB, d *Dev, m *meant, a act) {
	t.Helper()
	switch a.kind {
	case 'r':
		got, e := d.Read(a.n)
		want := m.call(m.has(a.n))
		if e != want || e == api.OK && !bytes.Equal(got, m.block(a.n)) || e != api.OK && len(got) != 0 {
			t.Fatalf("Read of %d: %x, error %d, not %d", a.n, got, int(e), int(want))
		}
	case 'w':
		e := d.Write(a.n, a.b)
		want := m.call(m.has(a.n) && len(a.b) == 256)
		if e != want {
			t.Fatalf("Write of %d: error %d, not %d", a.n, int(e), int(want))
		}
		if e == api.OK {
			m.waits = append(m.waits, meantWrite{a.n, a.b})
		}
	case 'f':
		e := d.Flush()
		want := m.call(true)
		if e != want {
			t.Fatalf("Flush: error %d, not %d", int(e), int(want))
		}
		if e == api.OK {
			for n := range m.kept {
				m.kept[n] = bytes.Clone(m.block(n))
			}
			m.waits = nil
		}
	case 'a':
		d.Arm(a.n)
		m.armed = a.n >= 0
		m.at = m.ops + uint64(max(a.n, 0))
	case 'x':
		d.Fall(a.keep)
		m.fall(a.keep)
	}
	if d.Ops() != int(m.ops) || d.Waiting() != len(m.waits) || d.Down() != m.down || d.Len() != len(m.kept) {
		t.Fatalf("behind %c: Ops %d, Waiting %d, Down %v, Len %d; not %d, %d, %v, %d", a.kind, d.Ops(), d.Waiting(), d.Down(), d.Len(), m.ops, len(m.waits), m.down, len(m.kept))
	}
}

// peek looks at clones, so that the device itself does not change: at all blocks as they stand, and behind falls.
func peek(t testing.TB, d *Dev, m *meant) {
	t.Helper()
	many := len(m.waits)
	for _, keep := range [][]int{nil, slices.Repeat([]int{256}, many), slices.Repeat([]int{100, 200, 50}, many)} {
		c, w := d.Clone(), m.clone()
		if !w.down {
			do(t, c, w, act{kind: 'a', n: -1})
			readAll(t, c, w)
		}
		do(t, c, w, act{kind: 'x', keep: keep})
		readAll(t, c, w)
	}
}

func readAll(t testing.TB, d *Dev, m *meant) {
	t.Helper()
	for n := range m.kept {
		do(t, d, m, act{kind: 'r', n: n})
	}
}

// P7.1 to P7.5: everything that may be done in few acts, one behind the other.
func TestShortRuns(t *testing.T) {
	acts := []act{
		{kind: 'w', n: 0, b: mixed(1)},
		{kind: 'w', n: 0, b: mixed(2)},
		{kind: 'w', n: 1, b: mixed(3)},
		{kind: 'w', n: 2, b: mixed(4)},
		{kind: 'r', n: 0},
		{kind: 'f'},
		{kind: 'a', n: 0},
		{kind: 'a', n: 1},
		{kind: 'a', n: -1},
		{kind: 'x'},
		{kind: 'x', keep: []int{200, 100}},
		{kind: 'x', keep: []int{-1, 300, 7}},
	}
	most := 5
	if testing.Short() {
		most = 4
	}
	for _, run := range short.Lists(acts, most) {
		d, m := device(t, 2), newMeant(2)
		for _, a := range run {
			do(t, d, m, a)
		}
		if len(run) < 5 {
			peek(t, d, m)
		}
		do(t, d, m, act{kind: 'x', keep: []int{90, 180}})
		readAll(t, d, m)
	}
}

// anyAct tells one by chance, wrong ones among them.
func anyAct(pick func(n int) int, blocks int) act {
	switch pick(12) {
	case 0, 1, 2, 3, 4:
		b := mixed(pick(1000))
		if pick(20) == 0 {
			b = b[:pick(256)]
		}
		return act{kind: 'w', n: pick(blocks+2) - 1, b: b}
	case 5, 6, 7:
		return act{kind: 'r', n: pick(blocks+2) - 1}
	case 8:
		return act{kind: 'f'}
	case 9:
		return act{kind: 'a', n: pick(12) - 3}
	case 10:
		return act{kind: 'a', n: []int{math.MinInt, math.MaxInt}[pick(2)]}
	}
	var keep []int
	for range pick(12) {
		keep = append(keep, pick(320)-32)
	}
	return act{kind: 'x', keep: keep}
}

// P7.1 to P7.5: long runs by chance.
func TestLongRuns(t *testing.T) {
	runs := 60
	if testing.Short() {
		runs = 6
	}
	for run := range runs {
		blocks := []int{1, 2, 5, 40}[run%4]
		pick := chance(run)
		d, m := device(t, blocks), newMeant(blocks)
		for step := range 500 {
			do(t, d, m, anyAct(pick, blocks))
			if step%25 == 0 {
				peek(t, d, m)
			}
		}
	}
}

// P7.1: a clone goes on as the other one would have: same blocks, same writes that wait, same calls, armed and down alike; and neither knows of what is done to the other.
func TestClone(t *testing.T) {
	for run := range 40 {
		blocks := []int{1, 3, 4096}[run%3]
		pick := chance(run + 1000)
		d, m := device(t, blocks), newMeant(blocks)
		for range 30 {
			do(t, d, m, anyAct(pick, blocks))
		}
		c, w := d.Clone(), m.clone()
		if c == nil || c == d {
			t.Fatal("Clone: no other device")
		}
		for range 60 {
			do(t, d, m, anyAct(pick, blocks))
			do(t, c, w, anyAct(pick, blocks))
		}
		if run < 2 {
			peek(t, d, m)
			peek(t, c, w)
		}
	}
}

// P7.1: by hand: a clone of one that is armed, of one that fell, and of one with writes that wait.
func TestCloneByHand(t *testing.T) {
	d := device(t, 1)
	for i := range 3 {
		d.Write(0, full(byte(i)))
	}
	d.Arm(1)
	c := d.Clone()
	tells(t, "clone", c, 3, 3, false)
	wants(t, "Write", d.Write(0, full(8)), api.OK)
	wants(t, "Write of the clone", c.Write(0, full(9)), api.OK)
	stillUp := c.Clone()
	wants(t, "Flush", d.Flush(), api.ErrDown)
	wants(t, "Flush of the clone", c.Flush(), api.ErrDown)
	fell := c.Clone()
	tells(t, "clone of one that fell", fell, 5, 4, true)
	wants(t, "Flush of it", fell.Flush(), api.ErrDown)
	tells(t, "clone ahead of the fall", stillUp, 4, 4, false)
	d.Fall([]int{0, 0, 0, 5})
	c.Fall([]int{0, 0, 0, 6})
	fell.Fall([]int{0, 0, 256, 7})
	stands(t, "the first one", d, 0, pieces(piece{8, 5}))
	stands(t, "the clone", c, 0, pieces(piece{9, 6}))
	stands(t, "the clone's clone", fell, 0, pieces(piece{9, 7}, piece{2, 249}))
	stillUp.Arm(-1)
	stands(t, "the one that is up", stillUp, 0, full(9))
}

// Rule 4: what is written is not changed, spare room neither, and not kept: changed behind the call, it changes nothing.
func TestWriteOwnMemory(t *testing.T) {
	whole := append(mixed(1), 0xee, 0xdd)
	b := whole[:256]
	d := device(t, 2)
	d.Write(0, b)
	d.Write(1, b)
	d.Write(0, b[:255])
	d.Write(2, b)
	d.Arm(0)
	d.Write(0, b)
	if !bytes.Equal(whole, append(mixed(1), 0xee, 0xdd)) {
		t.Fatalf("changed: %x", whole)
	}
	clear(whole)
	c := d.Clone()
	c.Fall([]int{256, 100})
	stands(t, "kept of a write", c, 0, mixed(1))
	stands(t, "kept of a write", c, 1, append(mixed(1)[:100], make([]byte, 156)...))

	d.Fall(nil)
	b = mixed(2)
	d.Write(0, b)
	clear(b)
	stands(t, "written", d, 0, mixed(2))
	d.Flush()
	stands(t, "flushed", d, 0, mixed(2))
}

// Rule 4: what is read is new memory, spare room too.
func TestReadOwnMemory(t *testing.T) {
	d := device(t, 3)
	for n := range 3 {
		d.Write(n, mixed(n))
	}
	for range 2 {
		first, _ := d.Read(1)
		second, _ := d.Read(1)
		first = first[:cap(first)]
		for i := range first {
			first[i] ^= 0xff
		}
		if !bytes.Equal(second, mixed(1)) {
			t.Error("two answers share memory")
		}
		for n := range 3 {
			stands(t, "read, and spoilt", d, n, mixed(n))
		}
		c := d.Clone()
		c.Fall([]int{256, 256, 256})
		for n := range 3 {
			stands(t, "kept, behind a spoilt answer", c, n, mixed(n))
		}
		d.Flush()
	}
}

// Rules 4 and 8: the numbers of a Fall are not changed, and those behind their length neither read.
func TestFallOwnMemory(t *testing.T) {
	for _, made := range []bool{true, false} {
		d := &Dev{}
		if made {
			d = device(t, 1)
		}
		d.Write(0, full(1))
		d.Write(0, full(2))
		whole := []int{-5, 300, 256, 7}
		d.Fall(whole[:1])
		if !slices.Equal(whole, []int{-5, 300, 256, 7}) {
			t.Errorf("changed: %v", whole)
		}
		if made {
			stands(t, "behind the length", d, 0, full(0))
		}
	}
}

// Rule 5: devices do not know of one another.
func TestApart(t *testing.T) {
	a, b := device(t, 2), device(t, 2)
	a.Write(0, full(1))
	a.Arm(0)
	a.Flush()
	tells(t, "the other one", b, 0, 0, false)
	stands(t, "the other one", b, 0, full(0))
	tells(t, "the one", a, 2, 1, true)
}

// P7.3 to P7.5: more writes than blocks, without a Flush, and the greatest device.
func TestManyWrites(t *testing.T) {
	d, m := device(t, 4096), newMeant(4096)
	for i := range 10000 {
		n := i * 7 % 4096
		do(t, d, m, act{kind: 'w', n: n, b: full(byte(i >> 3))})
	}
	var keep []int
	for i := range 9000 {
		keep = append(keep, i%260)
	}
	do(t, d, m, act{kind: 'x', keep: keep})
	readAll(t, d, m)
}

// P7.1 to P7.5: bytes as acts.
func FuzzDev(f *testing.F) {
	f.Add([]byte("w0w1fw0a1r0x\x02\x10"))
	f.Add([]byte{0, 1, 1, 0, 3, 0, 4, 2, 0, 2, 9, 5, 3, 200, 100, 50})
	f.Fuzz(func(t *testing.T, b []byte) {
		next := func() int {
			if len(b) == 0 {
				return 0
			}
			x := b[0]
			b = b[1:]
			return int(x)
		}
		d, m := device(t, 3), newMeant(3)
		for len(b) > 0 {
			switch next() % 6 {
			case 0:
				do(t, d, m, act{kind: 'w', n: next()%5 - 1, b: mixed(next())})
			case 1:
				do(t, d, m, act{kind: 'w', n: next()%3 - 1, b: make([]byte, 2*next())})
			case 2:
				do(t, d, m, act{kind: 'r', n: next()%5 - 1})
			case 3:
				do(t, d, m, act{kind: 'f'})
			case 4:
				do(t, d, m, act{kind: 'a', n: next()%8 - 2})
			case 5:
				var keep []int
				for range next() % 8 {
					keep = append(keep, 2*next()-100)
				}
				do(t, d, m, act{kind: 'x', keep: keep})
			}
		}
		peek(t, d, m)
	})
}
