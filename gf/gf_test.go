package gf

import (
	"bytes"
	"math"
	"slices"
	"sync"
	"testing"

	"saddlebag/short"
)

// fields tells the three kinds of a Field, of which each must be as good as the others.
func fields() map[string]*Field {
	return map[string]*Field{"New": New(), "nil": nil, "plain": {}}
}

// meantMul works the product out by the words alone: polynomials are multiplied, and what is left of them by 11d (hex) is told.
func meantMul(a, b byte) byte {
	product := 0
	for i := range 8 {
		if b>>i&1 == 1 {
			product ^= int(a) << i
		}
	}
	for i := 14; i >= 8; i-- {
		if product>>i&1 == 1 {
			product ^= 0x11d << (i - 8)
		}
	}
	return byte(product)
}

// meantInv looks through all numbers.
func meantInv(a byte) byte {
	for b := range 256 {
		if meantMul(a, byte(b)) == 1 {
			return byte(b)
		}
	}
	return 0
}

// meantPower multiplies by squares, since the greatest n are too many to go through.
func meantPower(a byte, n int) byte {
	times := uint64(n)
	if n < 0 {
		a, times = meantInv(a), -times
	}
	out := byte(1)
	for ; times > 0; times /= 2 {
		if times%2 == 1 {
			out = meantMul(out, a)
		}
		a = meantMul(a, a)
	}
	return out
}

func meantEval(p []byte, x byte) byte {
	out, power := byte(0), byte(1)
	for _, a := range p {
		out ^= meantMul(a, power)
		power = meantMul(power, x)
	}
	return out
}

func meantDot(a, b []byte) byte {
	var out byte
	for i := 0; i < len(a) && i < len(b); i++ {
		out ^= meantMul(a[i], b[i])
	}
	return out
}

func meantScale(a []byte, by byte) []byte {
	var out []byte
	for _, x := range a {
		out = append(out, meantMul(x, by))
	}
	return out
}

func meantSum(a, b []byte) []byte {
	var out []byte
	for i := 0; i < len(a) || i < len(b); i++ {
		var x byte
		if i < len(a) {
			x ^= a[i]
		}
		if i < len(b) {
			x ^= b[i]
		}
		out = append(out, x)
	}
	return out
}

// meantTimes asks for each place of the product which places of both make it.
func meantTimes(p, q []byte) []byte {
	var out []byte
	if len(p) == 0 || len(q) == 0 {
		return out
	}
	for k := range len(p) + len(q) - 1 {
		var x byte
		for i := range p {
			if k-i >= 0 && k-i < len(q) {
				x ^= meantMul(p[i], q[k-i])
			}
		}
		out = append(out, x)
	}
	return out
}

// mixed tells so many numbers that go up and down, other ones for each seed.
func mixed(n, seed int) []byte {
	var out []byte
	state := uint32(seed)*2654435761 + 1
	for range n {
		state = state*1664525 + 1013904223
		out = append(out, byte(state>>24))
	}
	return out
}

// every tells all numbers, turned round by a step that is odd.
func every(step, n int) []byte {
	var out []byte
	for i := range n {
		out = append(out, byte(i*step+7))
	}
	return out
}

// P4.1: the sum and the product of any two numbers, whichever Field tells them.
func TestAddMul(t *testing.T) {
	for name, f := range fields() {
		for a := range 256 {
			for b := range 256 {
				x, y := byte(a), byte(b)
				if got := f.Add(x, y); got != x^y {
					t.Fatalf("%s: Add(%x, %x): %x", name, a, b, got)
				}
				if got, want := f.Mul(x, y), meantMul(x, y); got != want {
					t.Fatalf("%s: Mul(%x, %x): %x, not %x", name, a, b, got, want)
				}
			}
		}
	}
}

// P4.1: products that are worked out by hand, the chapter's own among them, so that meantMul is held to something, too.
func TestMulByHand(t *testing.T) {
	for _, c := range []struct{ a, b, want byte }{
		{0x80, 2, 0x1d}, {2, 0x80, 0x1d}, {3, 7, 9}, {0, 9, 0}, {9, 0, 0}, {0, 0, 0}, {1, 0xff, 0xff},
		{0x80, 0x80, 0x13}, {0x40, 4, 0x1d}, {0x8e, 2, 1}, {3, 3, 5}, {0x10, 0x10, 0x1d},
	} {
		if got := New().Mul(c.a, c.b); got != c.want {
			t.Errorf("Mul(%x, %x): %x, not %x", c.a, c.b, got, c.want)
		}
		if got := meantMul(c.a, c.b); got != c.want {
			t.Errorf("meantMul(%x, %x): %x, not %x", c.a, c.b, got, c.want)
		}
	}
}

// P4.1: New makes one.
func TestNew(t *testing.T) {
	if New() == nil {
		t.Error("New: nil")
	}
}

// P4.2: what has 1 as product, 0 of 0, and what is left by each number, 0 too.
func TestInvDiv(t *testing.T) {
	for name, f := range fields() {
		for b := range 256 {
			inv := meantInv(byte(b))
			if got := f.Inv(byte(b)); got != inv {
				t.Fatalf("%s: Inv(%x): %x, not %x", name, b, got, inv)
			}
			for a := range 256 {
				if got, want := f.Div(byte(a), byte(b)), meantMul(byte(a), inv); got != want {
					t.Fatalf("%s: Div(%x, %x): %x, not %x", name, a, b, got, want)
				}
			}
		}
		if f.Inv(0) != 0 || f.Inv(1) != 1 || f.Inv(2) != 0x8e || f.Inv(0x8e) != 2 {
			t.Errorf("%s: Inv", name)
		}
		if f.Div(5, 0) != 0 || f.Div(0, 0) != 0 || f.Div(0, 5) != 0 || f.Div(9, 7) != 3 {
			t.Errorf("%s: Div", name)
		}
	}
}

// powersAsked tells how many times: around 0, around where the powers come round, and at both ends of the range.
func powersAsked() []int {
	var out []int
	for n := -600; n <= 600; n++ {
		out = append(out, n)
	}
	for i := range 300 {
		out = append(out, math.MaxInt-i, math.MinInt+i)
	}
	return append(out, math.MaxInt32, math.MinInt32, math.MaxInt/2, math.MinInt/2)
}

// P4.2: powers of each number, of an n in its whole range.
func TestPower(t *testing.T) {
	all := fields()
	for _, n := range powersAsked() {
		for a := range 256 {
			want := meantPower(byte(a), n)
			for name, f := range all {
				if got := f.Power(byte(a), n); got != want {
					t.Fatalf("%s: Power(%x, %d): %x, not %x", name, a, n, got, want)
				}
			}
		}
	}
}

// P4.2: a power is a product of so many, one by one.
func TestPowerStepByStep(t *testing.T) {
	f := New()
	for a := range 256 {
		up, down := byte(1), byte(1)
		for n := range 520 {
			if f.Power(byte(a), n) != up || f.Power(byte(a), -n) != down {
				t.Fatalf("Power(%x, %d): %x and %x, not %x and %x", a, n, f.Power(byte(a), n), f.Power(byte(a), -n), up, down)
			}
			up, down = meantMul(up, byte(a)), meantMul(down, meantInv(byte(a)))
		}
	}
}

// P4.2: 0 times is 1, of 0 too; else 0 stays 0, also where its inverse is asked.
func TestPowerOfNothing(t *testing.T) {
	for name, f := range fields() {
		for a := range 256 {
			if got := f.Power(byte(a), 0); got != 1 {
				t.Errorf("%s: Power(%x, 0): %x", name, a, got)
			}
		}
		for _, n := range []int{1, 2, 254, 255, 256, 510, -1, -2, -254, -255, -256, -510, math.MaxInt, math.MinInt} {
			if got := f.Power(0, n); got != 0 {
				t.Errorf("%s: Power(0, %d): %x", name, n, got)
			}
		}
	}
}

// P4.2: Exp is the power of 2, and Log the least n of it that is not below 0.
func TestExpLog(t *testing.T) {
	for name, f := range fields() {
		for _, n := range powersAsked() {
			if got, want := f.Exp(n), meantPower(2, n); got != want {
				t.Fatalf("%s: Exp(%d): %x, not %x", name, n, got, want)
			}
		}
		if got := f.Log(0); got != -1 {
			t.Errorf("%s: Log(0): %d", name, got)
		}
		for a := 1; a < 256; a++ {
			n := f.Log(byte(a))
			if n < 0 || n > 254 || meantPower(2, n) != byte(a) {
				t.Errorf("%s: Log(%x): %d", name, a, n)
			}
		}
		if f.Exp(0) != 1 || f.Exp(1) != 2 || f.Exp(7) != 0x80 || f.Exp(8) != 0x1d || f.Exp(254) != 0x8e || f.Exp(255) != 1 || f.Exp(256) != 2 || f.Exp(-1) != 0x8e || f.Exp(-254) != 2 || f.Exp(-255) != 1 {
			t.Errorf("%s: Exp", name)
		}
		if f.Log(1) != 0 || f.Log(2) != 1 || f.Log(0x80) != 7 || f.Log(0x1d) != 8 || f.Log(0x8e) != 254 {
			t.Errorf("%s: Log", name)
		}
	}
}

// P4.3, P4.5: every short list, alone and beside every other one, against what is meant.
func TestListsShort(t *testing.T) {
	numbers := []byte{0, 1, 2, 0x80, 0xff}
	all := short.Lists(numbers, 3)
	for name, f := range fields() {
		for _, a := range all {
			for _, x := range numbers {
				checkAlone(t, name, f, a, x)
			}
			for _, b := range all {
				checkBeside(t, name, f, a, b)
			}
		}
	}
}

// P4.3, P4.5: long lists, of like and unlike lengths.
func TestListsLong(t *testing.T) {
	lengths := []int{0, 1, 2, 7, 254, 255, 256, 257, 300}
	for name, f := range fields() {
		for _, n := range lengths {
			a := mixed(n, 1)
			for _, x := range []byte{0, 1, 2, 3, 0x8e, 0xff} {
				checkAlone(t, name, f, a, x)
			}
			for _, m := range lengths {
				checkBeside(t, name, f, a, mixed(m, 2))
			}
		}
	}
}

func checkAlone(t *testing.T, name string, f *Field, a []byte, x byte) {
	t.Helper()
	if got, want := f.Eval(a, x), meantEval(a, x); got != want {
		t.Errorf("%s: Eval(%x, %x): %x, not %x", name, a, x, got, want)
	}
	if got, want := f.Scale(a, x), meantScale(a, x); !bytes.Equal(got, want) {
		t.Errorf("%s: Scale(%x, %x): %x, not %x", name, a, x, got, want)
	}
}

func checkBeside(t *testing.T, name string, f *Field, a, b []byte) {
	t.Helper()
	if got, want := f.Dot(a, b), meantDot(a, b); got != want {
		t.Errorf("%s: Dot(%x, %x): %x, not %x", name, a, b, got, want)
	}
	if got, want := f.Sum(a, b), meantSum(a, b); !bytes.Equal(got, want) {
		t.Errorf("%s: Sum(%x, %x): %x, not %x", name, a, b, got, want)
	}
	if got, want := f.Times(a, b), meantTimes(a, b); !bytes.Equal(got, want) {
		t.Errorf("%s: Times(%x, %x): %x, not %x", name, a, b, got, want)
	}
}

// P4.3: by hand: none is 0, at 0 the first one alone counts (0 to the power of 0 is 1), and what one list has alone.
func TestListsByHand(t *testing.T) {
	for name, f := range fields() {
		if f.Eval(nil, 5) != 0 || f.Eval([]byte{}, 0) != 0 || f.Eval([]byte{7, 9, 9}, 0) != 7 || f.Eval([]byte{1, 2, 3}, 1) != 0 || f.Eval([]byte{1, 2, 3}, 2) != 1^4^12 || f.Eval([]byte{0, 0x80}, 2) != 0x1d {
			t.Errorf("%s: Eval", name)
		}
		if f.Dot(nil, nil) != 0 || f.Dot([]byte{1}, nil) != 0 || f.Dot(nil, []byte{1}) != 0 || f.Dot([]byte{1, 2, 9}, []byte{5, 2}) != 1 || f.Dot([]byte{5, 2}, []byte{1, 2, 9}) != 1 {
			t.Errorf("%s: Dot", name)
		}
		if len(f.Scale(nil, 3)) != 0 || !bytes.Equal(f.Scale([]byte{1, 0x80, 0}, 2), []byte{2, 0x1d, 0}) || !bytes.Equal(f.Scale([]byte{1, 2}, 0), []byte{0, 0}) {
			t.Errorf("%s: Scale", name)
		}
		if len(f.Sum(nil, nil)) != 0 || !bytes.Equal(f.Sum([]byte{1}, []byte{3, 4}), []byte{2, 4}) || !bytes.Equal(f.Sum([]byte{3, 4}, []byte{1}), []byte{2, 4}) || !bytes.Equal(f.Sum([]byte{5, 6}, []byte{5, 6}), []byte{0, 0}) {
			t.Errorf("%s: Sum", name)
		}
	}
}

// P4.4: sums and products may be turned round and put together in any order, and products spread over sums.
func TestLaws(t *testing.T) {
	f := New()
	step := 1
	if testing.Short() {
		step = 5
	}
	for i := 0; i < 256; i += step {
		for j := range 256 {
			a, b := byte(i), byte(j)
			if f.Add(a, b) != f.Add(b, a) || f.Mul(a, b) != f.Mul(b, a) {
				t.Fatalf("%x, %x turned round", a, b)
			}
			for k := range 256 {
				c := byte(k)
				if f.Add(f.Add(a, b), c) != f.Add(a, f.Add(b, c)) || f.Mul(f.Mul(a, b), c) != f.Mul(a, f.Mul(b, c)) {
					t.Fatalf("%x, %x, %x in another order", a, b, c)
				}
				if f.Mul(a, f.Add(b, c)) != f.Add(f.Mul(a, b), f.Mul(a, c)) {
					t.Fatalf("%x over %x and %x", a, b, c)
				}
			}
		}
	}
}

// P4.4: what is not 0 has an inverse, and just one; 0 and 1 leave as they must.
func TestInverses(t *testing.T) {
	f := New()
	for i := range 256 {
		a := byte(i)
		many := 0
		for j := range 256 {
			if f.Mul(a, byte(j)) == 1 {
				many++
			}
		}
		if a != 0 && (many != 1 || f.Mul(a, f.Inv(a)) != 1 || f.Inv(f.Inv(a)) != a) || a == 0 && many != 0 {
			t.Errorf("%x: %d inverses, %x", a, many, f.Inv(a))
		}
		if f.Mul(a, 1) != a || f.Mul(a, 0) != 0 || f.Add(a, 0) != a || f.Add(a, a) != 0 {
			t.Errorf("%x with 0 or 1", a)
		}
	}
}

// P4.5: products of polynomials by hand: ends that are 0 stay, and none is of none.
func TestTimesByHand(t *testing.T) {
	for name, f := range fields() {
		for _, c := range []struct{ p, q, want []byte }{
			{nil, nil, nil}, {nil, []byte{1}, nil}, {[]byte{1}, []byte{}, nil}, {[]byte{1, 2, 3}, nil, nil},
			{[]byte{3}, []byte{7}, []byte{9}},
			{[]byte{1, 1}, []byte{1, 1}, []byte{1, 0, 1}},
			{[]byte{2, 1}, []byte{4, 1}, []byte{8, 6, 1}},
			{[]byte{0}, []byte{1, 2}, []byte{0, 0}},
			{[]byte{5, 0, 0}, []byte{1, 0}, []byte{5, 0, 0, 0}},
			{[]byte{0, 0, 1}, []byte{1, 2}, []byte{0, 0, 1, 2}},
		} {
			if got := f.Times(c.p, c.q); !bytes.Equal(got, c.want) {
				t.Errorf("%s: Times(%x, %x): %x, not %x", name, c.p, c.q, got, c.want)
			}
		}
	}
}

// P4.5: the value of a product is the product of the values.
func TestTimesValues(t *testing.T) {
	f := New()
	for seed := range 20 {
		p, q := mixed(seed+1, seed), mixed(2*seed+1, seed+50)
		product := f.Times(p, q)
		for x := range 256 {
			if f.Eval(product, byte(x)) != f.Mul(f.Eval(p, byte(x)), f.Eval(q, byte(x))) {
				t.Fatalf("%x and %x at %x", p, q, x)
			}
		}
	}
}

// P4.5: every short list of points with every list of values: as many numbers as points that have each value at its point, or none.
func TestThroughShort(t *testing.T) {
	points := short.Lists([]byte{0, 1, 2, 0xff}, 4)
	values := short.Lists([]byte{0, 1, 0x80}, 4)
	for name, f := range fields() {
		for _, p := range points {
			for _, v := range values {
				checkThrough(t, name, f, p, v)
			}
		}
	}
}

// P4.5: many points, up to all that there are, and some that are there twice, near and far.
func TestThroughLong(t *testing.T) {
	for name, f := range fields() {
		for _, n := range []int{5, 16, 100, 254, 255, 256} {
			p, v := every(37, n), mixed(n, n)
			checkThrough(t, name, f, p, v)
			checkThrough(t, name, f, p, make([]byte, n))
			checkThrough(t, name, f, p, v[1:])
			checkThrough(t, name, f, p[1:], v)
			for _, places := range [][2]int{{0, 1}, {0, n - 1}, {n - 2, n - 1}} {
				twice := slices.Clone(p)
				twice[places[1]] = twice[places[0]]
				checkThrough(t, name, f, twice, v)
				checkThrough(t, name, f, twice, make([]byte, n))
			}
		}
		for _, n := range []int{257, 512, 1000} {
			checkThrough(t, name, f, every(1, n), mixed(n, n))
		}
	}
}

func checkThrough(t *testing.T, name string, f *Field, points, values []byte) {
	t.Helper()
	got := f.Through(points, values)
	seen := map[byte]int{}
	for _, x := range points {
		seen[x]++
	}
	if len(points) != len(values) || len(seen) != len(points) {
		if len(got) != 0 {
			t.Errorf("%s: Through(%x, %x): %x, not none", name, points, values, got)
		}
		return
	}
	if len(got) != len(points) {
		t.Errorf("%s: Through(%x, %x): %d numbers, not %d", name, points, values, len(got), len(points))
		return
	}
	for i, x := range points {
		if meantEval(got, x) != values[i] {
			t.Errorf("%s: Through(%x, %x): %x, with %x at %x", name, points, values, got, meantEval(got, x), x)
		}
	}
}

// P4.5: of a polynomial's own values it makes that one again, whichever points are asked, and in whichever order.
func TestThroughAgain(t *testing.T) {
	f := New()
	for n := 1; n <= 256; n += 15 {
		p := mixed(n, n)
		for _, step := range []int{1, 3, 101, 255} {
			points := every(step, n)
			var values []byte
			for _, x := range points {
				values = append(values, meantEval(p, x))
			}
			if got := f.Through(points, values); !bytes.Equal(got, p) {
				t.Fatalf("Through of %d points, by %d: %x, not %x", n, step, got, p)
			}
		}
	}
}

// P4.5: by hand: a value is its own polynomial, a line has its two numbers, and one that is straight has ends of 0.
func TestThroughByHand(t *testing.T) {
	for name, f := range fields() {
		for _, c := range []struct{ points, values, want []byte }{
			{nil, nil, nil}, {[]byte{}, nil, nil}, {nil, []byte{1}, nil}, {[]byte{1}, nil, nil},
			{[]byte{9}, []byte{7}, []byte{7}},
			{[]byte{0}, []byte{0}, []byte{0}},
			{[]byte{0, 1}, []byte{5, 5}, []byte{5, 0}},
			{[]byte{0, 1}, []byte{3, 1}, []byte{3, 2}},
			{[]byte{1, 2}, []byte{2, 4}, []byte{0, 2}},
			{[]byte{1, 1}, []byte{2, 2}, nil},
			{[]byte{3, 4, 3}, []byte{1, 2, 1}, nil},
		} {
			if got := f.Through(c.points, c.values); !bytes.Equal(got, c.want) {
				t.Errorf("%s: Through(%x, %x): %x, not %x", name, c.points, c.values, got, c.want)
			}
		}
	}
}

// calls tells each call that takes lists, by its name; of Scale also the one that changes nothing, which might hand on what it was given.
func calls(f *Field) map[string]func(a, b []byte) []byte {
	return map[string]func(a, b []byte) []byte{
		"Eval":       func(a, b []byte) []byte { return []byte{f.Eval(a, 3)} },
		"Dot":        func(a, b []byte) []byte { return []byte{f.Dot(a, b)} },
		"Scale by 3": func(a, b []byte) []byte { return f.Scale(a, 3) },
		"Scale by 1": func(a, b []byte) []byte { return f.Scale(a, 1) },
		"Sum":        f.Sum,
		"Times":      f.Times,
		"Through":    f.Through,
	}
}

// Rule 4: what is handed in stays as it was, with what lies behind it, and what is handed out is the caller's own.
func TestOwnMemory(t *testing.T) {
	for _, lengths := range [][2]int{{4, 4}, {4, 2}, {2, 4}, {1, 1}, {4, 1}, {0, 4}, {4, 0}, {0, 0}} {
		for name, call := range calls(New()) {
			roomA, roomB := []byte{1, 2, 3, 4, 5, 6, 7, 8}, []byte{9, 8, 7, 6, 5, 4, 3, 2}
			wasA, wasB := slices.Clone(roomA), slices.Clone(roomB)
			a, b := roomA[:lengths[0]], roomB[:lengths[1]]
			first := call(a, b)
			if !bytes.Equal(roomA, wasA) || !bytes.Equal(roomB, wasB) {
				t.Fatalf("%s of %v: what was handed in: %x, %x", name, lengths, roomA, roomB)
			}
			want := slices.Clone(first)
			spoil(first)
			if !bytes.Equal(roomA, wasA) || !bytes.Equal(roomB, wasB) {
				t.Fatalf("%s of %v: what was handed out is what was handed in", name, lengths)
			}
			second := call(a, b)
			if !bytes.Equal(second, want) {
				t.Fatalf("%s of %v: %x, and %x once the first answer was spoilt", name, lengths, want, second)
			}
			spoil(roomA)
			spoil(roomB)
			if !bytes.Equal(second, want) {
				t.Fatalf("%s of %v: what was handed in is kept", name, lengths)
			}
		}
	}
}

// spoil changes all of a list, spare room too.
func spoil(l []byte) {
	l = l[:cap(l)]
	for i := range l {
		l[i] ^= 0xa5
	}
}

// Rule 4: one list may be handed in twice.
func TestSameListTwice(t *testing.T) {
	f := New()
	a := []byte{1, 2, 0x80}
	if f.Dot(a, a) != meantDot(a, a) || !bytes.Equal(f.Sum(a, a), []byte{0, 0, 0}) || !bytes.Equal(f.Times(a, a), meantTimes(a, a)) || !bytes.Equal(f.Through(a, a), []byte{0, 1, 0}) {
		t.Error("one list twice")
	}
	if !bytes.Equal(a, []byte{1, 2, 0x80}) {
		t.Errorf("one list twice: %x", a)
	}
}

// forget puts the tables back to how they are ahead of the first call.
func forget() {
	once = sync.Once{}
	powers = [cycle]byte{}
	places = [size]int{}
}

// Ways: each answer is right, whichever call comes first, and asks for the tables or not.
func TestFirstAsked(t *testing.T) {
	f := New()
	for name, right := range map[string]func() bool{
		"Mul":     func() bool { return f.Mul(0x80, 2) == 0x1d },
		"Div":     func() bool { return f.Div(1, 2) == 0x8e },
		"Inv":     func() bool { return f.Inv(2) == 0x8e },
		"Power":   func() bool { return f.Power(3, 2) == 5 },
		"Exp":     func() bool { return f.Exp(8) == 0x1d },
		"Log":     func() bool { return f.Log(0x1d) == 8 },
		"Eval":    func() bool { return f.Eval([]byte{0, 2}, 0x80) == 0x1d },
		"Dot":     func() bool { return f.Dot([]byte{2}, []byte{0x80}) == 0x1d },
		"Scale":   func() bool { return bytes.Equal(f.Scale([]byte{2}, 0x80), []byte{0x1d}) },
		"Times":   func() bool { return bytes.Equal(f.Times([]byte{2}, []byte{0x80}), []byte{0x1d}) },
		"Through": func() bool { return bytes.Equal(f.Through([]byte{0, 2}, []byte{0, 0x1d}), []byte{0, 0x80}) },
	} {
		forget()
		if !right() {
			t.Errorf("%s, asked first", name)
		}
	}
}

// Ways: the tables are made once: nothing writes them again.
func TestMadeOnce(t *testing.T) {
	f := New()
	defer forget()
	for _, spoilt := range []func(){func() { powers[8] = 0 }, func() { places[2] = 254 }} {
		forget()
		f.Times([]byte{2}, []byte{2})
		spoilt()
		if bytes.Equal(f.Times([]byte{2}, []byte{0x80}), []byte{0x1d}) || bytes.Equal(New().Times([]byte{2}, []byte{0x80}), []byte{0x1d}) {
			t.Error("the tables were made again, or are not read")
		}
	}
}

// P4.1 to P4.3: these calls work their answers out: they are right beside tables that are not, and none of them makes the tables.
func TestWithoutTables(t *testing.T) {
	defer forget()
	forget()
	checkWithoutTables(t)
	if powers != [cycle]byte{} || places != [size]int{} {
		t.Error("the tables were made")
	}
	New().Times([]byte{2}, []byte{2})
	for i := range powers {
		powers[i] = 0xa5
	}
	for i := range places {
		places[i] = -1
	}
	checkWithoutTables(t)
}

func checkWithoutTables(t *testing.T) {
	t.Helper()
	for name, f := range fields() {
		for a := range 256 {
			x, y := byte(a), byte(a*7+3)
			l, m := []byte{x, y, 0, 1}, []byte{y, 0x80, 5}
			if f.Add(x, y) != x^y || f.Mul(x, y) != meantMul(x, y) || f.Inv(x) != meantInv(x) || f.Div(x, y) != meantMul(x, meantInv(y)) {
				t.Fatalf("%s: Add, Mul, Inv or Div of %x and %x", name, x, y)
			}
			if f.Power(x, a-128) != meantPower(x, a-128) || f.Exp(a-128) != meantPower(2, a-128) {
				t.Fatalf("%s: Power or Exp, %d times", name, a-128)
			}
			if n := f.Log(x); a == 0 && n != -1 || a != 0 && meantPower(2, n) != x {
				t.Fatalf("%s: Log(%x): %d", name, x, n)
			}
			if f.Eval(l, x) != meantEval(l, x) || f.Dot(l, m) != meantDot(l, m) || !bytes.Equal(f.Scale(l, x), meantScale(l, x)) || !bytes.Equal(f.Sum(l, m), meantSum(l, m)) {
				t.Fatalf("%s: Eval, Dot, Scale or Sum of %x and %x", name, l, m)
			}
		}
	}
}

// P4.5: a product of polynomials of one number each, by the tables, is the product of the numbers, for every pair.
func TestTimesEveryPair(t *testing.T) {
	for name, f := range fields() {
		for a := range 256 {
			for b := range 256 {
				if got := f.Times([]byte{byte(a)}, []byte{byte(b)}); len(got) != 1 || got[0] != meantMul(byte(a), byte(b)) {
					t.Fatalf("%s: Times of %x and %x: %x", name, a, b, got)
				}
			}
		}
	}
}

// Ways: callers that come at the same time all find them whole.
func TestFirstAskedByMany(t *testing.T) {
	for range 50 {
		forget()
		var group sync.WaitGroup
		wrong := make([]bool, 16)
		for i := range wrong {
			group.Go(func() {
				all := every(1, 256)
				if !bytes.Equal(New().Times(all, []byte{0x8e}), meantScale(all, 0x8e)) {
					wrong[i] = true
				}
			})
		}
		group.Wait()
		if slices.Contains(wrong, true) {
			t.Fatal("a caller found tables that are not whole")
		}
	}
}

// FuzzThrough looks for points and values, and for polynomials, of which a call tells something that is not meant.
func FuzzThrough(f *testing.F) {
	f.Add([]byte{}, []byte{}, byte(0))
	f.Add([]byte{0, 1, 2}, []byte{7, 7, 9}, byte(2))
	f.Add([]byte{1, 1}, []byte{2, 3}, byte(0xff))
	f.Add(every(1, 256), mixed(256, 3), byte(0x80))
	f.Fuzz(func(t *testing.T, a, b []byte, x byte) {
		checkAlone(t, "nil", nil, a, x)
		checkBeside(t, "nil", nil, a, b)
		checkThrough(t, "nil", nil, a, b)
	})
}
