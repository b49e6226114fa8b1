package journal

import (
	"bytes"
	"encoding/binary"
	"encoding/hex"
	"math"
	"slices"
	"strings"
	"testing"

	"saddlebag/api"
	"saddlebag/dev"
	"saddlebag/short"
	"saddlebag/super"
)

// top is the greatest number that a head may have for Gen, Epoch and Seq.
const top = 1 << 62

// meantSeal tells a sealed block by the words.
func meantSeal(kind byte, epoch, seq uint64, b []byte) []byte {
	m := binary.BigEndian.AppendUint64(binary.BigEndian.AppendUint64([]byte{kind}, epoch), seq)
	out := append(binary.BigEndian.AppendUint16(bytes.Clone(m), uint16(len(b))), b...)
	out = append(out, make([]byte, 220-len(b))...)
	return append(out, m...)
}

// meantHead tells a head's block by the words.
func meantHead(gen, epoch uint64, pos int, seq uint64, log int) []byte {
	var out []byte
	for _, v := range []uint64{epoch, uint64(pos), seq, uint64(log)} {
		b := bytes.TrimLeft(binary.BigEndian.AppendUint64(nil, v), "\x00")
		out = append(append(out, byte(len(b))), b...)
	}
	return meantSeal(9, gen, gen, out)
}

// meantPlaces tells a transaction by the words, also of changes that may not be.
func meantPlaces(epoch, seq uint64, c []Change) [][]byte {
	var told []byte
	out := [][]byte{nil}
	for _, x := range c {
		told = append(told, byte(x.N/256), byte(x.N%256), x.B[0])
		covered := bytes.Clone(x.B)
		covered[0] = 3
		out = append(out, covered)
	}
	out[0] = meantSeal(1, epoch, seq, told)
	return append(out, meantSeal(2, epoch, seq, nil))
}

// meantIsSealed tells whether a block is sealed, by the words.
func meantIsSealed(b []byte) bool {
	long := int(binary.BigEndian.Uint16(b[17:]))
	if b[0] == 0 || b[0] == 3 || long > 220 || !bytes.Equal(b[:17], b[239:]) {
		return false
	}
	return bytes.Equal(b, meantSeal(b[0], binary.BigEndian.Uint64(b[1:]), binary.BigEndian.Uint64(b[9:]), b[19:19+long]))
}

// meantMixes tells whether first bytes of a sealed block, ahead of what was there, are one that is neither; or whether what was there has its mark.
func meantMixes(sealed, was []byte) bool {
	if meantIsSealed(was) && bytes.Equal(was[:17], sealed[:17]) {
		return true
	}
	torn := bytes.Clone(was)
	for k := range 256 {
		if meantIsSealed(torn) && !bytes.Equal(torn, sealed) && !bytes.Equal(torn, was) {
			return true
		}
		torn[k] = sealed[k]
	}
	return false
}

// call is a write of a device, or a flush, where there are no bytes.
type call struct {
	n int
	b []byte
}

// model is a device with its log, as they are meant. Its calls write down what they let the device do; they change no block, but take another one, so that a copy of the list is a model of its own.
type model struct {
	blocks          [][]byte
	gen, epoch, seq uint64
	log, pos, used  int // pos is that of the next transaction
	home            [][]byte
	unlaid          []bool
	calls           []call
	settled         int // of the calls, those of a Settle
}

func (m *model) copied() *model {
	c := *m
	c.blocks, c.home, c.unlaid = slices.Clone(m.blocks), slices.Clone(m.home), slices.Clone(m.unlaid)
	c.calls, c.settled = nil, 0
	return &c
}

func (m *model) write(n int, b []byte) {
	m.blocks[n] = b
	m.calls = append(m.calls, call{n, b})
}

func (m *model) flush() { m.calls = append(m.calls, call{}) }

func (m *model) save() {
	m.gen++
	m.write(int(m.gen%2), meantHead(m.gen, m.epoch, m.pos, m.seq, m.log))
	m.flush()
	m.used = 0
}

// may tells whether these changes may be a transaction.
func (m *model) may(c []Change) bool {
	for i, x := range c {
		if x.N < 0 || x.N >= len(m.home) || len(x.B) != 256 {
			return false
		}
		for _, y := range c[i+1:] {
			if x.N == y.N {
				return false
			}
		}
	}
	return len(c) >= 1 && len(c) <= 70
}

func (m *model) settle() {
	if m.used == 0 {
		return
	}
	for n, b := range m.home {
		if m.unlaid[n] {
			m.write(2+m.log+n, b)
			m.unlaid[n] = false
		}
	}
	m.flush()
	m.save()
	m.settled = len(m.calls)
}

func (m *model) commit(c []Change) api.Errno {
	switch {
	case !m.may(c):
		return api.ErrArg
	case len(c)+2 > m.log:
		return api.ErrFull
	case m.used+len(c)+2 > m.log:
		m.settle()
	}
	places := meantPlaces(m.epoch, m.seq, c)
	m.blank(places)
	for i, b := range places {
		if i == len(places)-1 {
			m.flush()
		}
		m.write(2+m.pos, b)
		m.pos = (m.pos + 1) % m.log
	}
	m.flush()
	for _, x := range c {
		m.home[x.N] = bytes.Clone(x.B)
		m.unlaid[x.N] = true
	}
	m.used += len(places)
	m.seq++
	return api.OK
}

// blank lets a first place, or a last one, be bytes 0 and flushed where it may be mixed with what is there. Nothing of it is to be seen behind a Commit.
func (m *model) blank(places [][]byte) {
	blanks := 0
	for _, i := range []int{0, len(places) - 1} {
		if n := 2 + (m.pos+i)%m.log; meantMixes(places[i], m.blocks[n]) {
			m.write(n, full(0))
			blanks++
		}
	}
	if blanks > 0 {
		m.flush()
	}
}

// meantFormat tells the device behind a Format, and what that let it do.
func meantFormat(blocks [][]byte, log int) *model {
	m := &model{blocks: slices.Clone(blocks), epoch: 1, seq: 1, log: log}
	for n := 2 + log; n < len(blocks); n++ {
		m.write(n, full(0))
	}
	m.flush()
	m.save()
	return m
}

// meantNext tells the next transaction that is on the device: the one that is read loosely, if its places are just those on the device, and if it may be.
func (m *model) meantNext(room int) ([]Change, bool) {
	at := func(i int) []byte { return m.blocks[2+(m.pos+i)%m.log] }
	first := at(0)
	many := int(binary.BigEndian.Uint16(first[17:])) / 3
	if many > 73 || many+2 > room {
		return nil, false
	}
	var c []Change
	for i := range many {
		told := first[19+3*i:]
		b := bytes.Clone(at(1 + i))
		b[0] = told[2]
		c = append(c, Change{N: int(told[0])*256 + int(told[1]), B: b})
	}
	for i, b := range meantPlaces(m.epoch, m.seq, c) {
		if !bytes.Equal(at(i), b) {
			return nil, false
		}
	}
	return c, m.may(c)
}

// meantOpen tells a device behind an Open.
func meantOpen(blocks [][]byte) (*model, api.Errno) {
	var last super.Head
	for n := range 2 {
		if h, ok := super.Of(blocks[n], len(blocks)); ok && h.Gen%2 == uint64(n) && h.Gen > last.Gen {
			last = h
		}
	}
	if last.Gen == 0 {
		return nil, api.ErrNone
	}
	m := &model{blocks: slices.Clone(blocks), gen: last.Gen, epoch: last.Epoch, seq: last.Seq, log: last.Log, pos: last.Pos}
	m.home = make([][]byte, len(blocks)-2-m.log)
	m.unlaid = make([]bool, len(m.home))
	var done []Change
	for room := m.log; ; {
		c, ok := m.meantNext(room)
		if !ok {
			break
		}
		done = append(done, c...)
		room -= len(c) + 2
		m.pos = (m.pos + len(c) + 2) % m.log
		m.seq++
	}
	if m.gen == top || m.epoch == top || m.seq > top {
		return nil, api.ErrArg
	}
	for _, x := range done {
		m.write(2+m.log+x.N, x.B)
	}
	if len(done) > 0 {
		m.flush()
	}
	m.epoch++
	m.save()
	copy(m.home, m.blocks[2+m.log:])
	return m, api.OK
}

// fallen tells blocks behind a fall: the first calls are done, and of each write that waits then, so many bytes are kept; and how many these are.
func fallen(blocks [][]byte, done []call, keep []int) ([][]byte, int) {
	out := slices.Clone(blocks)
	var waits []call
	for _, c := range done {
		if c.b != nil {
			waits = append(waits, c)
			continue
		}
		for _, w := range waits {
			out[w.n] = w.b
		}
		waits = nil
	}
	for i, w := range waits {
		if i < len(keep) {
			b := bytes.Clone(out[w.n])
			copy(b, w.b[:min(max(keep[i], 0), 256)])
			out[w.n] = b
		}
	}
	return out, len(waits)
}

// chance tells numbers that go up and down, from 0 to below n.
func chance(seed int) func(n int) int {
	state := uint64(seed)*0x9e3779b97f4a7c15 + 1
	return func(n int) int {
		state = state*6364136223846793005 + 1442695040888963407
		return int(state>>33) % n
	}
}

// full tells a block of one byte; mixed one of bytes that go up and down.
func full(c byte) []byte { return bytes.Repeat([]byte{c}, 256) }

func mixed(seed int) []byte {
	pick := chance(seed)
	out := make([]byte, 256)
	for i := range out {
		out[i] = byte(pick(256))
	}
	return out
}

// mixture tells so many of them.
func mixture(blocks int) [][]byte {
	out := make([][]byte, blocks)
	for n := range out {
		out[n] = mixed(n)
	}
	return out
}

// changes tells changes of these blocks, each to other bytes.
func changes(seed int, of ...int) []Change {
	var out []Change
	for i, n := range of {
		out = append(out, Change{N: n, B: mixed(1000*seed + i + 5)})
	}
	return out
}

// rising tells so many numbers from 0 on.
func rising(many int) []int {
	out := make([]int, many)
	for i := range out {
		out[i] = i
	}
	return out
}

func wants(t testing.TB, what string, got, want api.Errno) {
	t.Helper()
	if got != want {
		t.Fatalf("%s: error %d, not %d", what, int(got), int(want))
	}
}

// device makes one, which must be, of these blocks, that are flushed.
func device(t testing.TB, blocks [][]byte) *dev.Dev {
	t.Helper()
	d, e := dev.New(len(blocks))
	wants(t, "New", e, api.OK)
	for n, b := range blocks {
		wants(t, "Write", d.Write(n, b), api.OK)
	}
	wants(t, "Flush", d.Flush(), api.OK)
	return d
}

// stands holds all blocks of a device that is up against what is meant.
func stands(t testing.TB, what string, d *dev.Dev, want [][]byte) {
	t.Helper()
	c := d.Clone()
	c.Arm(-1)
	for n, b := range want {
		if got, e := c.Read(n); e != api.OK || !bytes.Equal(got, b) {
			t.Fatalf("%s: block %d of the device is %x, error %d; not %x", what, n, got, int(e), b)
		}
	}
}

// pair is a log on a device, and both as they are meant.
type pair struct {
	d *dev.Dev
	l *Log
	m *model
}

// holds holds everything that a log tells, and its device, against what is meant.
func (p *pair) holds(t testing.TB, what string) {
	t.Helper()
	l, m := p.l, p.m
	if l.Home() != len(m.home) || l.Used() != m.used || l.Seq() != m.seq || l.Epoch() != m.epoch || l.Down() {
		t.Fatalf("%s: Home %d, Used %d, Seq %d, Epoch %d, Down %v; not %d, %d, %d, %d, false", what, l.Home(), l.Used(), l.Seq(), l.Epoch(), l.Down(), len(m.home), m.used, m.seq, m.epoch)
	}
	stands(t, what, p.d, m.blocks)
	if p.d.Waiting() != 0 {
		t.Fatalf("%s: %d writes wait", what, p.d.Waiting())
	}
	for n, want := range m.home {
		ops, calls := p.d.Ops(), 1
		if m.unlaid[n] {
			calls = 0
		}
		if b, e := l.Read(n); e != api.OK || !bytes.Equal(b, want) || p.d.Ops() != ops+calls {
			t.Fatalf("%s: Read of %d: %x, error %d, %d calls; not %x", what, n, b, int(e), p.d.Ops()-ops, want)
		}
	}
}

// done holds what a call answered, and did, against what is meant.
func (p *pair) done(t testing.TB, what string, ops int, got, want api.Errno) {
	t.Helper()
	wants(t, what, got, want)
	if p.d.Ops() != ops+len(p.m.calls) {
		t.Fatalf("%s: %d calls of the device, not %d", what, p.d.Ops()-ops, len(p.m.calls))
	}
	p.m.calls, p.m.settled = nil, 0
	p.holds(t, what)
}

func (p *pair) commit(t testing.TB, what string, c []Change) api.Errno {
	t.Helper()
	ops := p.d.Ops()
	e := p.l.Commit(c)
	p.done(t, what, ops, e, p.m.commit(c))
	return e
}

func (p *pair) settle(t testing.TB, what string) {
	t.Helper()
	ops := p.d.Ops()
	e := p.l.Settle()
	p.m.settle()
	p.done(t, what, ops, e, api.OK)
}

// opened tells a pair of a device with these blocks, that must be one.
func opened(t testing.TB, what string, d *dev.Dev, blocks [][]byte) *pair {
	t.Helper()
	m, want := meantOpen(blocks)
	l, e := Open(d)
	wants(t, what+": Open", e, want)
	if want != api.OK || l == nil {
		t.Fatalf("%s: Open: %v, error %d", what, l, int(e))
	}
	m.calls = nil
	p := &pair{d, l, m}
	p.holds(t, what+": Open")
	return p
}

func (p *pair) reopen(t testing.TB, what string) {
	t.Helper()
	*p = *opened(t, what, p.d, p.m.blocks)
}

// fresh tells a pair of a device that is formatted.
func fresh(t testing.TB, log, home int) *pair {
	t.Helper()
	blocks := mixture(2 + log + home)
	d := device(t, blocks)
	wants(t, "Format", Format(d, log), api.OK)
	return opened(t, "fresh", d, meantFormat(blocks, log).blocks)
}

// copied tells another pair that is the same; its log is another Log on another device, and yet not opened again.
func (p *pair) copied() *pair {
	l := *p.l
	l.d = p.d.Clone()
	l.waits, l.alike = map[int][]byte{}, map[int][]byte{}
	for n, b := range p.l.waits {
		l.waits[n] = bytes.Clone(b)
	}
	for n, b := range p.l.alike {
		l.alike[n] = bytes.Clone(b)
	}
	return &pair{l.d, &l, p.m.copied()}
}

// P10.4, example 1: a log of 3 blocks has room for one change.
func TestExample(t *testing.T) {
	p := fresh(t, 3, 2)
	wants(t, "the first one", p.commit(t, "the first one", changes(1, 0)), api.OK)
	if p.l.Used() != 3 {
		t.Fatalf("Used %d", p.l.Used())
	}
	if b, _ := p.d.Read(5); !bytes.Equal(b, full(0)) {
		t.Fatalf("it is laid: %x", b)
	}
	wants(t, "the next one", p.commit(t, "the next one", changes(2, 1)), api.OK)
	if b, _ := p.d.Read(5); !bytes.Equal(b, changes(1, 0)[0].B) || p.l.Used() != 3 {
		t.Fatalf("it is not laid: %x, Used %d", b, p.l.Used())
	}
}

// P10.2, P10.4: Most is told, and the blocks of a transaction, written out.
func TestPlacesByHand(t *testing.T) {
	if Most != 70 {
		t.Fatalf("Most %d", Most)
	}
	d := device(t, mixture(2+6+300))
	wants(t, "Format", Format(d, 6), api.OK)
	l, e := Open(d)
	wants(t, "Open", e, api.OK)
	wants(t, "Commit", l.Commit([]Change{{N: 259, B: full(0xab)}, {N: 2, B: full(3)}, {N: 0, B: full(0)}}), api.OK)
	rest := func(many int) string { return strings.Repeat("00", many) }
	marks := []string{"01" + "0000000000000002" + "0000000000000001", "02" + "0000000000000002" + "0000000000000001"}
	for n, text := range []string{
		1: "09" + "0000000000000001" + "0000000000000001" + "0007" + "0101" + "00" + "0101" + "0106" + rest(213) + "09" + "0000000000000001" + "0000000000000001",
		0: "09" + "0000000000000002" + "0000000000000002" + "0007" + "0102" + "00" + "0101" + "0106" + rest(213) + "09" + "0000000000000002" + "0000000000000002",
		2: marks[0] + "0009" + "0103ab" + "000203" + "000000" + rest(211) + marks[0],
		3: "03" + strings.Repeat("ab", 255),
		4: strings.Repeat("03", 256),
		5: "03" + rest(255),
		6: marks[1] + "0000" + rest(220) + marks[1],
	} {
		want, err := hex.DecodeString(text)
		if err != nil || len(want) != 256 {
			t.Fatalf("block %d: %v, %d bytes", n, err, len(want))
		}
		if b, _ := d.Read(n); !bytes.Equal(b, want) {
			t.Errorf("block %d: %x, not %x", n, b, want)
		}
	}
	if b, _ := d.Read(7); !bytes.Equal(b, mixed(7)) {
		t.Errorf("the place behind it is written: %x", b)
	}
}

// P10.1: every small device and log: the blocks for use are bytes 0, and the head is in its slot; all others stand.
func TestFormat(t *testing.T) {
	for blocks := 6; blocks <= 14; blocks++ {
		for log := 3; log <= blocks-3; log++ {
			was := mixture(blocks)
			d := device(t, was)
			ops := d.Ops()
			wants(t, "Format", Format(d, log), api.OK)
			m := meantFormat(was, log)
			if d.Ops() != ops+len(m.calls) || d.Waiting() != 0 {
				t.Fatalf("Format of %d, %d: %d calls, not %d; %d wait", blocks, log, d.Ops()-ops, len(m.calls), d.Waiting())
			}
			d.Fall(nil)
			stands(t, "Format", d, m.blocks)
			want := super.Head{Gen: 1, Epoch: 1, Pos: 0, Seq: 1, Log: log}
			if h, e := super.Load(d); h != want || e != api.OK {
				t.Fatalf("Format of %d, %d: the head is %v, error %d", blocks, log, h, int(e))
			}
		}
	}
}

// P10.1: a device that has had a log: it is written as any other one, and nothing of the log's blocks, nor of the other slot.
func TestFormatAgain(t *testing.T) {
	for _, settles := range []int{0, 1, 2} {
		p := fresh(t, 5, 3)
		for i := range settles {
			p.commit(t, "Commit", changes(i, 0, 2))
			p.settle(t, "Settle")
		}
		wants(t, "Format", Format(p.d, 4), api.OK)
		m := meantFormat(p.m.blocks, 4)
		stands(t, "Format", p.d, m.blocks)
		opened(t, "again", p.d, m.blocks)
	}
}

// P10.1: a device that no call made, whatever the log is; that is told first.
func TestFormatNotMade(t *testing.T) {
	for name, d := range map[string]*dev.Dev{"nil": nil, "plain": {}} {
		for _, log := range []int{math.MinInt, -1, 0, 3, 4093, math.MaxInt} {
			wants(t, name+": Format", Format(d, log), api.ErrNil)
		}
		if l, e := Open(d); l != nil || e != api.ErrNil {
			t.Errorf("%s: Open: %v, error %d", name, l, int(e))
		}
	}
}

// P10.1: logs that may not be, in the whole range; nothing is a call then, also of a device that fell.
func TestFormatWrong(t *testing.T) {
	for blocks := 1; blocks <= 12; blocks++ {
		was := mixture(blocks)
		d := device(t, was)
		d.Arm(0)
		ops := d.Ops()
		logs := []int{math.MinInt, math.MinInt + 1, math.MinInt32, -256, 4093, 65536 + 3, 1<<32 + 3, math.MaxInt - 3, math.MaxInt - 2, math.MaxInt - 1, math.MaxInt}
		for n := range 20 {
			logs = append(logs, n-5, blocks-2+n)
		}
		for _, log := range logs {
			if log < 3 || log > blocks-3 {
				wants(t, "Format", Format(d, log), api.ErrArg)
			}
		}
		if d.Ops() != ops || d.Down() {
			t.Fatalf("wrong ones are calls: %d, Down %v", d.Ops()-ops, d.Down())
		}
		stands(t, "wrong ones", d, was)
		d.Flush()
		wants(t, "Format of none, fallen", Format(d, 2), api.ErrArg)
		if blocks >= 6 {
			wants(t, "Format, fallen", Format(d, 3), api.ErrDown)
		}
	}
}

// P10.1: a fall at each of its calls: those behind are not done; what is kept of those ahead is as they were written, in order.
func TestFormatFalls(t *testing.T) {
	was := mixture(10)
	m := meantFormat(was, 4)
	for at := range m.calls {
		for _, keep := range keeps(7) {
			d := device(t, was)
			ops := d.Ops()
			d.Arm(at)
			wants(t, "Format at the fall", Format(d, 4), api.ErrDown)
			want, waits := fallen(was, m.calls[:at], keep)
			if d.Ops() != ops+at+1 || d.Waiting() != waits {
				t.Fatalf("armed %d: %d calls, %d wait, not %d", at, d.Ops()-ops, d.Waiting(), waits)
			}
			d.Fall(keep)
			stands(t, "behind the fall", d, want)
			wants(t, "Format, up again", Format(d, 4), api.OK)
		}
	}
	d := device(t, was)
	d.Arm(len(m.calls))
	wants(t, "Format ahead of the fall", Format(d, 4), api.OK)
}

// keeps tells lists of how many bytes are kept: alike ones of each edge, and some by chance.
func keeps(many int) [][]int {
	out := [][]int{nil, {256}, {-1, 300}, {math.MinInt, math.MaxInt}}
	for _, k := range []int{1, 17, 19, 22, 128, 238, 239, 240, 248, 255, 256} {
		out = append(out, slices.Repeat([]int{k}, many))
	}
	pick := chance(many)
	for range 4 {
		var some []int
		for range many {
			some = append(some, []int{0, 256, pick(257), pick(257)}[pick(4)])
		}
		out = append(out, some)
	}
	return out
}

// P10.1, P10.2: the greatest device, and its greatest log, and its least one, whose blocks for use are the most.
func TestGreatest(t *testing.T) {
	for _, log := range []int{4093, 3} {
		d, _ := dev.New(4096)
		wants(t, "Format, too great", Format(d, 4094), api.ErrArg)
		wants(t, "Format", Format(d, log), api.OK)
		l, e := Open(d)
		wants(t, "Open", e, api.OK)
		home := 4094 - log
		if l.Home() != home {
			t.Fatalf("Home %d", l.Home())
		}
		b := mixed(1)
		wants(t, "Commit", l.Commit([]Change{{home - 1, b}}), api.OK)
		wants(t, "Commit of none", l.Commit([]Change{{home, b}}), api.ErrArg)
		for _, l := range []*Log{l, reopened(t, d)} {
			if got, e := l.Read(home - 1); e != api.OK || !bytes.Equal(got, b) {
				t.Fatalf("Read: %x, error %d", got, int(e))
			}
			if got, e := l.Read(home); e != api.ErrArg || len(got) != 0 {
				t.Fatalf("Read of none: %x, error %d", got, int(e))
			}
		}
	}
}

func reopened(t testing.TB, d *dev.Dev) *Log {
	t.Helper()
	l, e := Open(d)
	wants(t, "Open", e, api.OK)
	return l
}

// P10.2: where there are no changes, nothing is flushed ahead of the head: what waits beside does so until it is saved.
func TestOpenFlushes(t *testing.T) {
	p := fresh(t, 5, 3)
	d := p.d.Clone()
	ops := d.Ops()
	reopened(t, d)
	all := d.Ops() - ops
	for at := range all {
		d := p.d.Clone()
		d.Write(9, mixed(9))
		d.Arm(at)
		if l, e := Open(d); l != nil || e != api.ErrDown {
			t.Fatalf("armed %d: Open: %v, error %d", at, l, int(e))
		}
		want := 1
		if at == all-1 {
			want = 2
		}
		if d.Waiting() != want {
			t.Fatalf("armed %d: %d wait, not %d", at, d.Waiting(), want)
		}
	}
}

// P10.2: the errors of super's Load; nothing is told then.
func TestOpenWithoutHead(t *testing.T) {
	for blocks := 1; blocks <= 8; blocks++ {
		was := mixture(blocks)
		d := device(t, was)
		want := api.ErrNone
		if blocks == 1 {
			want = api.ErrArg
		}
		if l, e := Open(d); l != nil || e != want {
			t.Fatalf("%d blocks: Open: %v, error %d", blocks, l, int(e))
		}
		stands(t, "without a head", d, was)
		d.Arm(0)
		if l, e := Open(d); l != nil || e != api.ErrDown {
			t.Fatalf("%d blocks, fallen: Open: %v, error %d", blocks, l, int(e))
		}
	}
}

// P10.2: a device that was formatted: an epoch more with each Open, the rest is as it was.
func TestOpenAgain(t *testing.T) {
	p := fresh(t, 5, 3)
	for n := range 5 {
		if p.l.Epoch() != uint64(2+n) || p.l.Seq() != 1 || p.l.Used() != 0 || p.l.Home() != 3 {
			t.Fatalf("Epoch %d, Seq %d, Used %d, Home %d", p.l.Epoch(), p.l.Seq(), p.l.Used(), p.l.Home())
		}
		if h, _ := super.Load(p.d); h.Gen != uint64(2+n) {
			t.Fatalf("the head is %v", h)
		}
		p.reopen(t, "again")
	}
}

// P10.2, P10.6: an Open that finds transactions, by hand: these are laid, and the head is behind them.
func TestOpenByHand(t *testing.T) {
	blocks := mixture(2 + 7 + 5)
	blocks[0] = meantHead(8, 3, 5, 40, 7)
	blocks[1] = meantHead(7, 9, 0, 1, 7)
	one, two := changes(1, 4), changes(2, 0, 4)
	for i, b := range append(meantPlaces(3, 40, one), meantPlaces(3, 41, two)...) {
		blocks[2+(5+i)%7] = b
	}
	d := device(t, blocks)
	l := reopened(t, d)
	if l.Used() != 0 || l.Seq() != 42 || l.Epoch() != 4 || l.Home() != 5 || l.Down() {
		t.Errorf("Used %d, Seq %d, Epoch %d, Home %d, Down %v", l.Used(), l.Seq(), l.Epoch(), l.Home(), l.Down())
	}
	blocks[1] = meantHead(9, 4, 5, 42, 7)
	blocks[9], blocks[13] = two[0].B, two[1].B
	stands(t, "by hand", d, blocks)
}

// logs tells devices of 5 blocks for use, with a log of 7, and a head whose Pos is another one each time: right transactions on them, and wrong ones, of each kind.
func logs() map[string][][]byte {
	place := func(pos int, many ...[][]byte) [][]byte {
		blocks := mixture(14)
		blocks[0] = meantHead(4, 2, pos, 9, 7)
		for i, b := range slices.Concat(many...) {
			blocks[2+(pos+i)%7] = b
		}
		return blocks
	}
	with := func(c []Change, i int, b []byte) [][]byte {
		out := meantPlaces(2, 9, c)
		out[i] = b
		return out
	}
	bytesOf := func(c ...Change) []byte { return meantPlaces(2, 9, c)[0][19 : 19+3*len(c)] }
	one, two, three := changes(1, 3), changes(2, 1, 3), changes(3, 2, 1, 0)
	behind, end := meantPlaces(2, 10, one), meantSeal(2, 2, 9, nil)
	far := Change{N: 5, B: mixed(1)}
	return map[string][][]byte{
		"none":                       place(3),
		"one":                        place(0, meantPlaces(2, 9, one)),
		"one that goes round":        place(6, meantPlaces(2, 9, one)),
		"two":                        place(1, meantPlaces(2, 9, one), meantPlaces(2, 10, two)),
		"two, of one block":          place(5, meantPlaces(2, 9, two), meantPlaces(2, 10, one)),
		"two, in the other order":    place(5, meantPlaces(2, 10, two), meantPlaces(2, 9, one)),
		"all places":                 place(4, meantPlaces(2, 9, changes(4, 4, 3, 2, 1, 0))),
		"all places, by two":         place(2, meantPlaces(2, 9, one), meantPlaces(2, 10, two)),
		"a gap":                      place(0, meantPlaces(2, 9, one), meantPlaces(2, 11, two)),
		"the number is less":         place(0, meantPlaces(2, 8, one), meantPlaces(2, 9, two)),
		"the number is more":         place(0, meantPlaces(2, 10, one), meantPlaces(2, 11, two)),
		"the number stays":           place(0, meantPlaces(2, 9, one), meantPlaces(2, 9, two)),
		"the epoch is less":          place(0, meantPlaces(1, 9, one)),
		"the epoch is more":          place(0, meantPlaces(3, 9, one), behind),
		"the next one's is":          place(0, meantPlaces(2, 9, one), meantPlaces(3, 10, one)),
		"one place further":          place(0, [][]byte{full(0)}, meantPlaces(2, 9, one)),
		"torn ahead of one":          place(0, with(one, 2, full(0)), behind),
		"no changes":                 place(0, meantPlaces(2, 9, nil), behind),
		"more places than the log":   place(0, meantPlaces(2, 9, append(changes(5, 4, 3, 2, 1, 0), far))[:7]),
		"more together than the log": place(0, meantPlaces(2, 9, two), meantPlaces(2, 10, two)[:3]),
		"no such block":              place(0, meantPlaces(2, 9, []Change{far})),
		"no such block behind one":   place(0, meantPlaces(2, 9, append(changes(1, 4), far))),
		"no such block, far":         place(0, meantPlaces(2, 9, []Change{{N: 65535, B: mixed(1)}})),
		"no such block, its low is":  place(0, meantPlaces(2, 9, []Change{{N: 256, B: mixed(1)}})),
		"a block twice":              place(0, meantPlaces(2, 9, changes(1, 2, 2))),
		"a block twice, not at once": place(0, meantPlaces(2, 9, changes(1, 2, 1, 2))),
		"a block is not covered":     place(0, with(three, 2, full(4)), behind),
		"a block is one of bytes 0":  place(0, with(three, 3, full(0)), behind),
		"a block is sealed":          place(0, with(three, 1, end), behind),
		"the first one is covered":   place(0, with(three, 0, full(3)), behind),
		"the last one is covered":    place(0, with(three, 4, full(3)), behind),
		"the last one has a byte":    place(0, with(one, 2, meantSeal(2, 2, 9, []byte{0})), behind),
		"the last one has changes":   place(0, with(one, 2, meantSeal(2, 2, 9, bytesOf(one...))), behind),
		"the last one is a first":    place(0, with(one, 2, meantSeal(1, 2, 9, nil)), behind),
		"the last one is a head":     place(0, with(one, 2, meantSeal(9, 2, 9, nil)), behind),
		"the last one's epoch":       place(0, with(one, 2, meantSeal(2, 3, 9, nil)), behind),
		"the last one's number":      place(0, with(one, 2, meantSeal(2, 2, 10, nil)), behind),
		"the last one ahead":         place(0, [][]byte{end}, meantPlaces(2, 9, one)),
		"the first one is a last":    place(0, with(one, 0, meantSeal(2, 2, 9, bytesOf(one...))), behind),
		"the first one is a head":    place(0, with(one, 0, meantSeal(9, 2, 9, bytesOf(one...))), behind),
		"a byte more":                place(0, with(one, 0, meantSeal(1, 2, 9, append(bytesOf(one...), 0))), behind),
		"two bytes more":             place(0, with(one, 0, meantSeal(1, 2, 9, append(bytesOf(one...), 0, 2))), behind),
		"a byte less":                place(0, with(two, 0, meantSeal(1, 2, 9, bytesOf(two...)[:5])), behind),
		"one byte":                   place(0, with(one, 0, meantSeal(1, 2, 9, []byte{0})), behind),
		"a change more":              place(0, with(two, 0, meantSeal(1, 2, 9, bytesOf(three...))), behind),
		"a change less":              place(0, with(two, 0, meantSeal(1, 2, 9, bytesOf(one...))), behind),
		"no bytes":                   place(0, with(one, 0, meantSeal(1, 2, 9, nil)), behind),
		"many bytes":                 place(0, with(one, 0, meantSeal(1, 2, 9, make([]byte, 220))), behind),
	}
}

// P10.2: what is whole is laid, nothing else; the whole device, and all that is told, against what is meant.
func TestOpenLogs(t *testing.T) {
	seq := map[string]uint64{"one": 10, "one that goes round": 10, "two": 11, "two, of one block": 11, "all places": 10, "all places, by two": 11, "a gap": 10, "the number stays": 10, "the next one's is": 10, "more together than the log": 10}
	for name, blocks := range logs() {
		p := opened(t, name, device(t, blocks), blocks)
		if want := max(seq[name], 9); p.l.Seq() != want {
			t.Errorf("%s: Seq %d, not %d", name, p.l.Seq(), want)
		}
		p.commit(t, name, changes(7, 4))
		p.reopen(t, name)
	}
}

// P10.2: each byte of each place of a transaction, as others: it is whole just where it is one.
func TestOpenSpoilt(t *testing.T) {
	blocks := logs()["two, of one block"]
	for n := 2; n < 9; n++ {
		for at := range 256 {
			if testing.Short() && at > 24 && at < 236 {
				continue
			}
			for _, c := range []byte{0, 1, 2, 3, 4, 9, 255, blocks[n][at] + 1, blocks[n][at] ^ 128} {
				was := slices.Clone(blocks)
				was[n] = bytes.Clone(was[n])
				was[n][at] = c
				opened(t, "a byte that is another one", device(t, was), was)
			}
		}
	}
}

// P10.2: as many changes as the first place has room for: 70 may be, 71 not, nor 73.
func TestOpenMost(t *testing.T) {
	for many := 68; many <= 73; many++ {
		for _, log := range []int{many + 1, many + 2, many + 10} {
			blocks := mixture(2 + log + 80)
			blocks[1] = meantHead(5, 2, 1, 9, log)
			for i, b := range meantPlaces(2, 9, changes(1, rising(many)...)) {
				blocks[2+(1+i)%log] = b
			}
			p := opened(t, "Most", device(t, blocks), blocks)
			if whole := many <= 70 && many+2 <= log; whole != (p.l.Seq() == 10) {
				t.Fatalf("%d changes, a log of %d: Seq %d", many, log, p.l.Seq())
			}
		}
	}
}

// P10.2, P10.5: heads at the end of what is counted: there is no head behind them, which is an argument that may not be, and nothing has changed then.
func TestTop(t *testing.T) {
	for _, c := range []struct {
		gen, epoch, seq uint64
		many            int
		want            api.Errno
	}{
		{top, 1, 1, 0, api.ErrArg},
		{top, 1, 1, 1, api.ErrArg},
		{1, top, 1, 0, api.ErrArg},
		{1, top, 1, 1, api.ErrArg},
		{1, 1, top, 0, api.OK},
		{1, 1, top, 1, api.ErrArg},
		{1, 1, top - 1, 1, api.OK},
		{top - 1, top - 1, top - 1, 1, api.OK},
	} {
		blocks := mixture(2 + 5 + 3)
		blocks[c.gen%2] = meantHead(c.gen, c.epoch, 4, c.seq, 5)
		for i, b := range meantPlaces(c.epoch, c.seq, changes(1, 2)) {
			if c.many > 0 {
				blocks[2+(4+i)%5] = b
			}
		}
		d := device(t, blocks)
		if c.want == api.OK {
			opened(t, "at the end", d, blocks)
			continue
		}
		if l, e := Open(d); l != nil || e != c.want {
			t.Fatalf("%v: Open: %v, error %d", c, l, int(e))
		}
		stands(t, "at the end", d, blocks)
	}
	blocks := mixture(2 + 5 + 3)
	blocks[1] = meantHead(top-1, 1, 4, 1, 5)
	p := opened(t, "the last head", device(t, blocks), blocks)
	p.settle(t, "of no places")
	p.commit(t, "the last one", changes(1, 2))
	wants(t, "Settle behind the last head", p.l.Settle(), api.ErrArg)
	wants(t, "Commit behind the last head", p.l.Commit(changes(2, 1)), api.ErrArg)
	p.holds(t, "behind the last head")
}

// P10.3: Read of blocks in the whole range, that are not; it is no call.
func TestReadWrong(t *testing.T) {
	p := fresh(t, 4, 3)
	p.commit(t, "Commit", changes(1, 2))
	p.d.Arm(0)
	ops := p.d.Ops()
	for _, n := range []int{-1, -2, -6, 3, 4, 256, 65536, 1 << 32, math.MinInt, math.MinInt + 6, math.MaxInt, math.MaxInt - 5} {
		if b, e := p.l.Read(n); e != api.ErrArg || len(b) != 0 {
			t.Errorf("Read of %d: %x, error %d", n, b, int(e))
		}
	}
	if p.d.Ops() != ops || p.d.Down() {
		t.Errorf("wrong ones are calls: %d", p.d.Ops()-ops)
	}
}

// P10.3, P10.6: Read of a block that is laid is a call, which may fall; of one that is not it is none.
func TestReadFalls(t *testing.T) {
	p := fresh(t, 4, 3)
	c := changes(1, 2)
	p.commit(t, "Commit", c)
	p.d.Arm(0)
	if b, e := p.l.Read(2); e != api.OK || !bytes.Equal(b, c[0].B) || p.l.Down() {
		t.Fatalf("Read of one that is not laid: %x, error %d, Down %v", b, int(e), p.l.Down())
	}
	for _, asked := range []bool{true, false} {
		q := p.copied()
		if b, e := q.l.Read(0); e != api.ErrDown || len(b) != 0 {
			t.Fatalf("Read at the fall: %x, error %d", b, int(e))
		}
		if asked {
			q.isDown(t, "at the fall")
		}
		q.d.Fall(nil)
		q.isDown(t, "up again")
		q.reopen(t, "behind the fall")
	}
}

// isDown holds that a log is down, which is told ahead of wrong arguments, and that it calls its device no more.
func (p *pair) isDown(t testing.TB, what string) {
	t.Helper()
	ops := p.d.Ops()
	for n := -1; n <= len(p.m.home); n++ {
		if b, e := p.l.Read(n); e != api.ErrDown || len(b) != 0 {
			t.Fatalf("%s: Read of %d: %x, error %d", what, n, b, int(e))
		}
	}
	wants(t, what+": Commit", p.l.Commit(changes(9, 0)), api.ErrDown)
	wants(t, what+": Commit of none", p.l.Commit(nil), api.ErrDown)
	wants(t, what+": Settle", p.l.Settle(), api.ErrDown)
	if !p.l.Down() || p.d.Ops() != ops {
		t.Fatalf("%s: Down %v, %d calls", what, p.l.Down(), p.d.Ops()-ops)
	}
	if p.l.Home() != len(p.m.home) || p.l.Used() != p.m.used || p.l.Seq() != p.m.seq || p.l.Epoch() != p.m.epoch {
		t.Fatalf("%s: Home %d, Used %d, Seq %d, Epoch %d; not %d, %d, %d, %d", what, p.l.Home(), p.l.Used(), p.l.Seq(), p.l.Epoch(), len(p.m.home), p.m.used, p.m.seq, p.m.epoch)
	}
}

// P10.3, P10.6: a device that fell at a call that was not the log's: its device fell, whatever the log is asked, also of a block that is not laid, and where no place is in use; and once told, that stays.
func TestFallElsewhere(t *testing.T) {
	for _, used := range []bool{false, true} {
		p := fresh(t, 4, 3)
		if used {
			p.commit(t, "Commit", changes(1, 2))
		}
		p.d.Arm(0)
		p.d.Flush()
		for _, asked := range []func(q *pair) bool{
			func(q *pair) bool { return q.l.Down() },
			func(q *pair) bool { _, e := q.l.Read(2); return e == api.ErrDown },
			func(q *pair) bool { return q.l.Settle() == api.ErrDown },
			func(q *pair) bool { return q.l.Commit(changes(2, 1)) == api.ErrDown },
		} {
			q := p.copied()
			if !asked(q) {
				t.Fatalf("used %v: it is not told", used)
			}
			q.d.Fall(nil)
			q.isDown(t, "up again")
			q.reopen(t, "behind the fall")
		}
	}
}

// P10.4: changes that may not be, ahead of a log that is too small: nothing has changed.
func TestCommitWrong(t *testing.T) {
	for _, log := range []int{3, 4, 7, 80} {
		p := fresh(t, log, 75)
		p.commit(t, "ahead", changes(1, 0))
		b := mixed(1)
		wrong := map[string][]Change{
			"nil": nil, "none": {},
			"a block twice":      {{1, b}, {1, b}},
			"a block twice, far": {{1, b}, {2, b}, {3, b}, {1, mixed(2)}},
			"71":                 changes(1, rising(71)...),
			"75":                 changes(1, rising(75)...),
			"many":               slices.Repeat([]Change{{1, b}}, 70000),
		}
		for _, n := range []int{-1, -2, -3 - log, 75, 76, 256 + 1, 65536, 65537, 1 << 32, math.MinInt, math.MaxInt} {
			wrong["no such block, first"] = []Change{{n, b}, {1, b}}
			wrong["no such block, last"] = append(changes(1, 2, 3, 4), Change{n, b})
			for _, long := range []int{0, 1, 255, 257, 512, 65536 + 256} {
				long := make([]byte, long)
				wrong["a length, first"] = []Change{{1, long}, {2, b}}
				wrong["a length, last"] = append(changes(1, 2, 3, 4, 5, 6), Change{1, long})
				wrong["nil bytes"] = []Change{{1, nil}}
				for name, c := range wrong {
					ops := p.d.Ops()
					wants(t, name, p.l.Commit(c), api.ErrArg)
					if p.d.Ops() != ops {
						t.Fatalf("%s: %d calls", name, p.d.Ops()-ops)
					}
				}
			}
		}
		p.holds(t, "behind wrong ones")
	}
}

// P10.4: a log of each length, and transactions of each: they and 2 are more than its blocks, or just fit, or Settle is first; and Most and one more.
func TestCommitRoom(t *testing.T) {
	for log := 3; log <= 76; log++ {
		p := fresh(t, log, 72)
		for many := 1; many <= 71; many++ {
			if many > 6 && many < 60 && many != log-3 && many != log-2 && many != log-1 {
				continue
			}
			want := api.OK
			switch {
			case many > 70:
				want = api.ErrArg
			case many+2 > log:
				want = api.ErrFull
			}
			wants(t, "Commit", p.commit(t, "Commit", changes(many, rising(many)...)), want)
		}
		p.reopen(t, "again")
	}
}

// P10.4: ErrFull: nothing has changed, though places are in use, and it is no call.
func TestCommitFull(t *testing.T) {
	p := fresh(t, 5, 6)
	p.commit(t, "ahead", changes(1, 0, 1))
	p.d.Arm(0)
	wants(t, "Commit", p.l.Commit(changes(2, 0, 1, 2, 3)), api.ErrFull)
	p.d.Arm(-1)
	p.holds(t, "full")
	wants(t, "one less", p.commit(t, "one less", changes(2, 0, 1, 2)), api.OK)
}

// P10.3, P10.4: blocks whose first byte, and others, are such as marks have.
func TestCommitFirstBytes(t *testing.T) {
	p := fresh(t, 9, 4)
	for c := range 256 {
		p.commit(t, "full", []Change{{c % 4, full(byte(c))}, {(c + 1) % 4, mixed(c)}})
		p.commit(t, "sealed", []Change{{(c + 2) % 4, meantSeal(byte(c), p.l.Epoch(), p.l.Seq(), nil)}})
		if c%3 == 0 {
			p.reopen(t, "again")
		}
	}
}

// P10.5: where no place is in use it is nothing; a head of Gen 1 more else, and the blocks that are not laid alone are written, rising.
func TestSettle(t *testing.T) {
	p := fresh(t, 12, 6)
	p.settle(t, "nothing")
	gen := func() uint64 { h, _ := super.Load(p.d); return h.Gen }
	if gen() != 2 {
		t.Fatalf("Gen %d", gen())
	}
	p.commit(t, "Commit", changes(1, 5, 0))
	p.commit(t, "of one block again", changes(2, 3, 5))
	was := p.m.blocks
	q := p.m.copied()
	q.settle()
	if len(q.calls) != 6 || q.calls[0].n != 14 || q.calls[1].n != 17 || q.calls[2].n != 19 {
		t.Fatalf("the calls are %v", q.calls)
	}
	for at := range q.calls {
		for _, keep := range keeps(3) {
			c := p.copied()
			c.d.Arm(at)
			wants(t, "Settle at the fall", c.l.Settle(), api.ErrDown)
			want, waits := fallen(was, q.calls[:at], keep)
			if c.d.Waiting() != waits {
				t.Fatalf("armed %d: %d wait, not %d", at, c.d.Waiting(), waits)
			}
			c.isDown(t, "at the fall")
			c.d.Fall(keep)
			stands(t, "behind the fall", c.d, want)
			c.isDown(t, "up again")
		}
	}
	p.settle(t, "Settle")
	if gen() != 3 || p.l.Used() != 0 || p.l.Seq() != 3 || p.l.Epoch() != 2 {
		t.Fatalf("Gen %d, Used %d, Seq %d, Epoch %d", gen(), p.l.Used(), p.l.Seq(), p.l.Epoch())
	}
	p.settle(t, "nothing, again")
	if gen() != 3 {
		t.Fatalf("Gen %d", gen())
	}
}

// P10.6 and rule 1: logs that no call made.
func TestNotMade(t *testing.T) {
	for name, l := range map[string]*Log{"nil": nil, "plain": {}} {
		for _, n := range []int{-1, 0, 1, math.MaxInt} {
			if b, e := l.Read(n); e != api.ErrNil || len(b) != 0 {
				t.Errorf("%s: Read of %d: %x, error %d", name, n, b, int(e))
			}
		}
		wants(t, name+": Commit", l.Commit(changes(1, 0)), api.ErrNil)
		wants(t, name+": Commit of none", l.Commit(nil), api.ErrNil)
		wants(t, name+": Settle", l.Settle(), api.ErrNil)
		if l.Home() != 0 || l.Used() != 0 || l.Seq() != 0 || l.Epoch() != 0 || l.Down() {
			t.Errorf("%s: Home %d, Used %d, Seq %d, Epoch %d, Down %v", name, l.Home(), l.Used(), l.Seq(), l.Epoch(), l.Down())
		}
	}
}

// act is a Commit of changes, a Settle where there are none, or an Open.
type act struct {
	opens bool
	c     []Change
}

func (p *pair) do(t testing.TB, what string, a act) {
	t.Helper()
	switch {
	case a.opens:
		p.reopen(t, what)
	case len(a.c) == 0:
		p.settle(t, what)
	default:
		p.commit(t, what, a.c)
	}
}

// letters tells short acts: the bytes are others at each place.
func letters(of []int) []act {
	var out []act
	for i, one := range of {
		out = append(out, map[int]act{
			'a': {c: changes(i, 0)},
			'b': {c: changes(i, 2, 0)},
			'c': {c: changes(i, 1, 0, 2)},
			'd': {c: changes(i, 0, 1, 2, 3)},
			's': {},
			'o': {opens: true},
		}[one])
	}
	return out
}

// P10.2 to P10.6: every short run, of which each act is held against what is meant.
func TestShortRuns(t *testing.T) {
	most := 5
	if testing.Short() {
		most = 3
	}
	for _, acts := range short.Lists([]int{'a', 'b', 'c', 'd', 's', 'o'}, most) {
		p := fresh(t, 5, 3)
		for _, a := range letters(acts) {
			p.do(t, "short", a)
		}
	}
}

// after tells the model behind an act that is no Open, with its calls.
func (m *model) after(a act) *model {
	c := m.copied()
	if len(a.c) == 0 {
		c.settle()
	} else {
		c.commit(a.c)
	}
	return c
}

// fall does an act that is no Open, at whose call so many calls from then on the device falls, and holds what is told, and what is on the device behind the fall. The model's device is that one then.
func (p *pair) fall(t testing.TB, a act, at int, keep []int) {
	t.Helper()
	after := p.m.after(a)
	ops := p.d.Ops()
	p.d.Arm(at)
	if len(a.c) == 0 {
		wants(t, "Settle at the fall", p.l.Settle(), api.ErrDown)
	} else {
		wants(t, "Commit at the fall", p.l.Commit(a.c), api.ErrDown)
	}
	want, waits := fallen(p.m.blocks, after.calls[:at], keep)
	if p.d.Ops() != ops+at+1 || p.d.Waiting() != waits {
		t.Fatalf("armed %d: %d calls, %d wait, not %d", at, p.d.Ops()-ops, p.d.Waiting(), waits)
	}
	if after.settled > 0 && at >= after.settled {
		p.m.used = 0
	}
	// That it is down is noted at the fall, whether the log is asked ahead of the device being up again or not.
	if at%2 == len(keep)%2 {
		p.isDown(t, "at the fall")
	}
	p.d.Fall(keep)
	p.isDown(t, "up again")
	p.m.blocks = want
	stands(t, "behind the fall", p.d, want)
}

// fallOpen opens a device at whose call so many calls from then on it falls, and tells its blocks behind the fall; false, where there is none.
func fallOpen(t testing.TB, d *dev.Dev, blocks [][]byte, at int, keep []int) ([][]byte, bool) {
	t.Helper()
	whole := d.Clone()
	reopened(t, whole)
	m, _ := meantOpen(blocks)
	all := whole.Ops() - d.Ops()
	if at >= all {
		return blocks, false
	}
	d.Arm(at)
	if l, e := Open(d); l != nil || e != api.ErrDown {
		t.Fatalf("armed %d: Open: %v, error %d", at, l, int(e))
	}
	// Its reads are ahead of all its other calls.
	want, waits := fallen(blocks, m.calls[:max(at-all+len(m.calls), 0)], keep)
	if d.Waiting() != waits {
		t.Fatalf("armed %d: Open: %d wait, not %d", at, d.Waiting(), waits)
	}
	d.Fall(keep)
	stands(t, "behind a fall within Open", d, want)
	return want, true
}

// same tells whether two devices are the same to those who read.
func same(a, b [][]byte) bool { return slices.EqualFunc(a, b, bytes.Equal) }

// fallsOpening holds that a device is opened to these blocks for use, also behind a fall at any call of Open, and behind one more then.
func fallsOpening(t testing.TB, d *dev.Dev, blocks, home [][]byte) {
	t.Helper()
	for at, there := 0, true; there; at++ {
		for i, keep := range keeps(5) {
			c := d.Clone()
			var now [][]byte
			if now, there = fallOpen(t, c, blocks, at, keep); !there {
				break
			}
			if now, there = fallOpen(t, c, now, (at+i)%9, keep); there {
				now, _ = fallOpen(t, c, now, 2*i, []int{256, 0, 256})
			}
			there = true
			if p := opened(t, "behind falls within Open", c, now); !same(p.m.home, home) {
				t.Fatalf("armed %d: it is another one behind falls within Open", at)
			}
		}
	}
}

// P10.2, P10.7: falls at each call of an Open of right logs, and wrong ones.
func TestFallsWithinOpen(t *testing.T) {
	for name, blocks := range logs() {
		// Transactions of an epoch to come, which no log has behind its own acts, are taken once that comes.
		if name == "the epoch is more" || name == "the next one's is" {
			continue
		}
		d := device(t, blocks)
		p := opened(t, name, d.Clone(), blocks)
		fallsOpening(t, d, blocks, p.m.home)
	}
}

// P10.4, P10.5, P10.7: behind each short run, a fall at each call of the next act: what was done is there, and of the act all or nothing, all where its last write was kept; opened again it is the same.
func TestFallsWithinActs(t *testing.T) {
	most := 3
	if testing.Short() {
		most = 2
	}
	for _, acts := range short.Lists([]int{'a', 'b', 's', 'o'}, most) {
		p := fresh(t, 5, 3)
		for _, a := range letters(acts) {
			p.do(t, "ahead", a)
		}
		for i, a := range letters([]int{'s', 'a', 'b', 'c'}) {
			a.c = slices.Clone(a.c)
			for j := range a.c {
				a.c[j].B = mixed(77*i + j)
			}
			after := p.m.after(a)
			for at := range after.calls {
				for _, keep := range keeps(4) {
					q := p.copied()
					q.fall(t, a, at, keep)
					q.reopen(t, "behind the fall")
					all := same(q.m.home, after.home)
					if !all && !same(q.m.home, p.m.home) {
						t.Fatalf("acts %v, %d, armed %d, keep %v: neither all nor nothing", acts, i, at, keep)
					}
					if all && at < len(after.calls)-1 && !same(p.m.home, after.home) {
						t.Fatalf("acts %v, %d, armed %d, keep %v: it is done ahead of its last call", acts, i, at, keep)
					}
					q.reopen(t, "again")
				}
			}
		}
	}
}

// P10.7: falls within a Commit that settles first, and within the Opens behind it.
func TestFallsWithinBoth(t *testing.T) {
	for _, log := range []int{5, 8} {
		p := fresh(t, log, 3)
		p.do(t, "ahead", act{c: changes(3, 0, 2)})
		a := act{c: changes(4, 2, 1)}
		after := p.m.after(a)
		if (after.settled > 0) != (log == 5) {
			t.Fatalf("a log of %d: %d calls settle", log, after.settled)
		}
		for at := range after.calls {
			for _, keep := range [][]int{nil, {256, 0, 256, 100}, {0, 256, 20}, {256, 256, 256, 256, 256}} {
				q := p.copied()
				q.fall(t, a, at, keep)
				again := opened(t, "behind the fall", q.d.Clone(), q.m.blocks)
				fallsOpening(t, q.d, q.m.blocks, again.m.home)
			}
		}
	}
}

// likeSealed tells sealed blocks of each kind that a transaction's places have, of marks from this one on. Covered, each is one that a sealed block of another mark makes sealed again, where but its first byte is kept.
func likeSealed(epoch, seq uint64) [][]byte {
	var out [][]byte
	for e := range uint64(3) {
		for s := range uint64(3) {
			out = append(out, meantSeal(1, epoch+e, seq+s, nil), meantSeal(1, epoch+e, seq+s, []byte{0, 1, 9}), meantSeal(2, epoch+e, seq+s, nil))
		}
	}
	return out
}

// whole does an act that is no Open, with a fall, opens the log again, and holds that the act is there whole, or not at all; and that this stays.
func (p *pair) whole(t testing.TB, a act, at int, keep []int) {
	t.Helper()
	was, after := p.m.home, p.m.after(a)
	p.fall(t, a, at, keep)
	p.reopen(t, "behind the fall")
	now := p.m.home
	if !same(now, was) && !same(now, after.home) {
		t.Fatalf("armed %d, kept %v: neither all nor nothing", at, keep)
	}
	p.reopen(t, "opened again")
	if !same(p.m.home, now) {
		t.Fatalf("armed %d, kept %v: opened again it is another one", at, keep)
	}
}

// P10.7: blocks for use that are told as sealed ones, once torn over: each of two transactions behind them falls at each call, where these have the same places.
func TestFallsOverLikeSealed(t *testing.T) {
	for i, b := range likeSealed(2, 1) {
		if testing.Short() && i%3 != 2 {
			continue
		}
		p := fresh(t, 6, 6)
		p.do(t, "ahead", act{c: []Change{{0, b}, {3, b}}})
		one, two := act{c: []Change{{1, full(7)}, {4, full(7)}}}, act{c: []Change{{2, full(9)}, {5, full(9)}}}
		for at := range p.m.after(one).calls {
			for _, keep := range [][]int{nil, {1}, {16}, {1, 256, 1}} {
				q := p.copied()
				q.fall(t, one, at, keep)
				q.reopen(t, "behind the first fall")
				for then := range q.m.after(two).calls {
					for _, keep := range [][]int{{256}, {1, 256, 256}} {
						q.copied().whole(t, two, then, keep)
					}
				}
			}
		}
	}
}

// P10.4, P10.7: whatever was in the log ahead of a transaction: behind a Commit its places are just its own, and behind a fall at any call it is there whole, or not at all.
func TestCommitOverAny(t *testing.T) {
	first, last := meantSeal(1, 2, 1, []byte{0, 1, 9}), meantSeal(2, 2, 1, nil)
	covered := func(b []byte) []byte { return slices.Concat([]byte{3}, b[1:]) }
	pool := [][]byte{full(3), first, last, covered(first), covered(last), meantSeal(2, 1, 1, nil)}
	a := act{c: changes(1, 2, 0)}
	most := 4
	if testing.Short() {
		most = 3
	}
	for _, was := range short.Lists(pool, most) {
		blocks := slices.Repeat([][]byte{full(3)}, 2+4+3)
		copy(blocks[2:], was)
		d := device(t, blocks)
		wants(t, "Format", Format(d, 4), api.OK)
		p := opened(t, "over any", d, meantFormat(blocks, 4).blocks)
		if next, _ := meantOpen(p.m.blocks); next.seq != p.m.seq {
			continue // A transaction of the next epoch, which no log has behind its own acts, was there: it is taken, once that comes.
		}
		after := p.m.after(a)
		for at := range after.calls {
			for _, keep := range [][]int{nil, {1, 256, 256}, {256, 0, 256}, {19, 1}} {
				p.copied().whole(t, a, at, keep)
			}
		}
		p.do(t, "over any", a)
		for i, b := range meantPlaces(2, 1, a.c) {
			if got, _ := d.Read(2 + i); !bytes.Equal(got, b) {
				t.Fatalf("place %d is %x, not %x", i, got, b)
			}
		}
	}
}

// P10.4: what a Commit calls its device for: its places, and two flushes, also over places that were in use; a write and a flush more just where a torn place could be taken for a sealed one.
func TestCommitCalls(t *testing.T) {
	calls := func(b []byte) int {
		p := fresh(t, 4, 3)
		p.do(t, "ahead", act{c: []Change{{1, b}, {0, b}}})
		p.do(t, "settled", act{})
		// The log is gone round: the first place is that of a first one, and the last place that of a block.
		ops := p.d.Ops()
		wants(t, "Commit", p.l.Commit(changes(1, 1)), api.OK)
		return p.d.Ops() - ops
	}
	for c := range 256 {
		if got := calls(full(byte(c))); got != 5 {
			t.Fatalf("over blocks of bytes %d: %d calls", c, got)
		}
	}
	for _, c := range []struct {
		b    []byte
		want int
	}{
		{meantSeal(1, 2, 9, nil), 5},
		{meantSeal(3, 2, 9, nil), 5},
		{meantSeal(2, 2, 9, nil), 7},
		{meantSeal(2, 7, 9, []byte{1}), 7},
		{meantSeal(2, 1<<56, 9, nil), 7},
		{slices.Concat([]byte{77}, meantSeal(2, 7, 9, nil)[1:]), 7},
		{slices.Concat(meantSeal(2, 7, 9, nil)[:255], []byte{8}), 5},
		{slices.Concat(meantSeal(2, 7, 9, nil)[:100], full(1)[:100], meantSeal(2, 7, 9, nil)[200:]), 5},
	} {
		if got := calls(c.b); got != c.want {
			t.Errorf("over blocks %x: %d calls, not %d", c.b, got, c.want)
		}
	}
}

// P10.7: of the last write each number of bytes, and of two writes of a Commit each two edges.
func TestFallsAtBytes(t *testing.T) {
	p := fresh(t, 4, 2)
	p.do(t, "ahead", act{c: changes(1, 0)})
	p.do(t, "settled", act{})
	a := act{c: changes(2, 1)}
	after := p.m.after(a)
	edges := []int{0, 1, 2, 8, 9, 10, 16, 17, 18, 19, 20, 21, 22, 23, 100, 238, 239, 240, 247, 248, 255, 256}
	for _, one := range edges {
		for _, two := range edges {
			q := p.copied()
			q.fall(t, a, 2, []int{one, two})
			q.reopen(t, "ahead of the last write")
			if !same(q.m.home, p.m.home) {
				t.Fatalf("kept %d, %d: it is done", one, two)
			}
		}
	}
	for keep := range 257 {
		q := p.copied()
		q.fall(t, a, 4, []int{keep})
		q.reopen(t, "behind the last write")
		if want := map[bool][][]byte{true: after.home, false: p.m.home}[keep == 256]; !same(q.m.home, want) {
			t.Fatalf("kept %d: it is not what it must be", keep)
		}
	}
}

// drive does acts by choices, with falls among them, and holds each against what is meant.
func drive(t testing.TB, pick func(n int) int, steps int) {
	t.Helper()
	log, home := 3+pick(10), 1+pick(8)
	if pick(8) == 0 {
		log, home = 60+pick(20), 60+pick(20)
	}
	p := fresh(t, log, home)
	for step := range steps {
		var a act
		switch pick(8) {
		case 0:
			a.opens = true
		case 1:
		default:
			most := min(home, 1+pick(log))
			like := likeSealed(p.m.epoch, p.m.seq)
			for n := range most {
				b := mixed(100*step + n)
				if pick(3) == 0 {
					b = like[pick(len(like))]
				}
				a.c = append(a.c, Change{(n*7 + step) % home, b})
			}
			if pick(10) == 0 {
				a.c[pick(len(a.c))].N = pick(home+3) - 1
			}
		}
		var keep []int
		for range pick(6) {
			keep = append(keep, []int{0, 256, pick(257), pick(30), 230 + pick(27)}[pick(5)])
		}
		p.step(t, a, pick(30), keep)
	}
}

// step does an act, with a fall at a call, if it has so many.
func (p *pair) step(t testing.TB, a act, at int, keep []int) {
	t.Helper()
	was := p.m.home
	if a.opens {
		for now, there := fallOpen(t, p.d, p.m.blocks, at, keep); there; now, there = fallOpen(t, p.d, now, at, keep) {
			p.m.blocks = now
			at += 3
		}
		p.reopen(t, "behind falls within Open")
		if !same(p.m.home, was) {
			t.Fatal("opened, it is another one")
		}
		return
	}
	after := p.m.after(a)
	if at >= len(after.calls) {
		p.do(t, "by chance", a)
		return
	}
	p.whole(t, a, at, keep)
}

// P10.2 to P10.7: long runs by chance, with falls.
func TestLongRuns(t *testing.T) {
	runs := 150
	if testing.Short() {
		runs = 15
	}
	for run := range runs {
		drive(t, chance(run), 60)
	}
}

// Rule 4: what is handed to Commit is neither changed nor kept, its spare room neither; what Read hands out is new memory, of blocks that are laid and of those that are not.
func TestOwnMemory(t *testing.T) {
	p := fresh(t, 8, 3)
	c := changes(1, 0, 2)
	var whole [][]byte
	for i := range c {
		b := append(bytes.Clone(c[i].B), mixed(9)...)
		whole = append(whole, b)
		c[i].B = b[:256]
	}
	room := append(slices.Clone(c), changes(2, 1)...)
	p.commit(t, "Commit", room[:2])
	for i, b := range whole {
		if !bytes.Equal(b, append(bytes.Clone(changes(1, 0, 2)[i].B), mixed(9)...)) || room[i].N != c[i].N || &room[i].B[0] != &b[0] {
			t.Fatalf("change %d is another one", i)
		}
	}
	if room[2].N != 1 || !bytes.Equal(room[2].B, changes(2, 1)[0].B) {
		t.Fatal("the spare room is another one")
	}
	for _, b := range whole {
		clear(b)
	}
	p.holds(t, "behind spoilt arguments")
	for range 2 {
		for n := range 3 {
			b, _ := p.l.Read(n)
			b = b[:cap(b)]
			for i := range b {
				b[i] ^= 0xff
			}
		}
		p.holds(t, "behind spoilt answers")
		p.settle(t, "Settle")
	}
}

// Rule 5: a log goes on where its device was cloned just as the one that was not.
func TestTwoDevices(t *testing.T) {
	p := fresh(t, 6, 3)
	p.do(t, "ahead", act{c: changes(1, 0, 2)})
	q := opened(t, "of a clone", p.d.Clone(), p.m.blocks)
	q.do(t, "the other one", act{c: changes(2, 0, 1)})
	p.do(t, "this one", act{c: changes(3, 2)})
	p.do(t, "this one", act{})
	q.holds(t, "the other one stands")
}

// P10.2 to P10.7: any acts, with falls; and any log's blocks beside a head that is right.
func FuzzJournal(f *testing.F) {
	f.Add([]byte{})
	f.Add([]byte{1, 2, 0, 3, 1, 0, 3, 3, 250, 1, 1, 9, 3, 5, 0, 0, 2, 9, 1, 4})
	f.Add(slices.Concat(meantPlaces(2, 9, changes(1, 3))...))
	f.Fuzz(func(t *testing.T, b []byte) {
		blocks := mixture(14)
		blocks[0] = meantHead(4, 2, len(b)%7, 9, 7)
		for i := 0; i < 7 && len(b) >= 256*(i+1); i++ {
			blocks[2+(len(b)+i)%7] = b[256*i : 256*(i+1)]
		}
		opened(t, "any blocks", device(t, blocks), blocks)
		at := 0
		drive(t, func(n int) int {
			if at++; at > len(b) {
				return 0
			}
			return int(b[at-1]) % n
		}, min(len(b)/4, 30))
	})
}
