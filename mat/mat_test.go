package mat

import (
	"bytes"
	"math"
	"slices"
	"testing"

	"saddlebag/api"
	"saddlebag/gf"
	"saddlebag/short"
)

// fields tells the three kinds of a Field, of which each must be as good as the others.
func fields() map[string]*gf.Field {
	return map[string]*gf.Field{"New": gf.New(), "nil": nil, "plain": {}}
}

// matrices tells every matrix of at most so many rows, each of at most so many of the numbers: those that are not right, too.
func matrices(numbers []byte, rows, cols int) []Matrix {
	var out []Matrix
	for _, l := range short.Lists(short.Lists(numbers, cols), rows) {
		out = append(out, Matrix(l))
	}
	return out
}

// sized tells every matrix of one size with these numbers.
func sized(numbers []byte, rows, cols int) []Matrix {
	var lines [][]byte
	for _, l := range short.Lists(numbers, cols) {
		if len(l) == cols {
			lines = append(lines, l)
		}
	}
	var out []Matrix
	for _, l := range short.Lists(lines, rows) {
		if len(l) == rows {
			out = append(out, Matrix(l))
		}
	}
	return out
}

// mixed tells a matrix of numbers that go up and down, other ones for each seed.
func mixed(rows, cols, seed int) Matrix {
	state := uint32(seed)*2654435761 + 1
	out := make(Matrix, rows)
	for i := range out {
		for range cols {
			state = state*1664525 + 1013904223
			out[i] = append(out[i], byte(state>>24))
		}
	}
	return out
}

// upTo tells the numbers from a first one on.
func upTo(first, many int) []int {
	var out []int
	for i := range many {
		out = append(out, first+i)
	}
	return out
}

// unlike tells so many numbers, none of them twice.
func unlike(many int) []byte {
	var out []byte
	for i := range many {
		out = append(out, byte(i*37+5))
	}
	return out
}

func meantRight(m Matrix) bool {
	if len(m) < 1 || len(m) > 255 {
		return false
	}
	for _, row := range m {
		if len(row) < 1 || len(row) > 255 || len(row) != len(m[0]) {
			return false
		}
	}
	return true
}

// meantOne tells where both numbers are the same.
func meantOne(n int) Matrix {
	out := make(Matrix, n)
	for i := range out {
		out[i] = make([]byte, n)
		out[i][i] = 1
	}
	return out
}

// meantApply goes by columns, as the words do not.
func meantApply(m Matrix, l [][]byte) [][]byte {
	f := gf.New()
	out := make([][]byte, len(m))
	for k := range l[0] {
		for i, row := range m {
			var x byte
			for j := range l {
				x ^= f.Mul(row[j], l[j][k])
			}
			out[i] = append(out[i], x)
		}
	}
	return out
}

// without tells a matrix without one row and one column.
func without(m Matrix, row, col int) Matrix {
	var out Matrix
	for i := range m {
		if i != row {
			out = append(out, slices.Concat(m[i][:col], m[i][col+1:]))
		}
	}
	return out
}

// det tells the determinant, along the first row; signs are none here, since a number is its own opposite.
func det(m Matrix) byte {
	if len(m) == 0 {
		return 1
	}
	f := gf.New()
	var out byte
	for j, a := range m[0] {
		out ^= f.Mul(a, det(without(m, 0, j)))
	}
	return out
}

// meantBack works by determinants, which is another way than that of the program.
func meantBack(m Matrix) Matrix {
	f := gf.New()
	whole := det(m)
	if whole == 0 {
		return nil
	}
	out := make(Matrix, len(m))
	for i := range m {
		for j := range m {
			out[i] = append(out[i], f.Div(det(without(m, j, i)), whole))
		}
	}
	return out
}

// meantRank tells the size of the greatest square part whose determinant is not 0.
func meantRank(m Matrix) int {
	if len(m) == 0 || len(m[0]) == 0 {
		return 0
	}
	if len(m) == len(m[0]) && det(m) != 0 {
		return len(m)
	}
	best := 0
	for i := range m {
		if len(m) >= len(m[0]) {
			best = max(best, meantRank(slices.Concat(m[:i], m[i+1:])))
		}
	}
	for j := range m[0] {
		if len(m) <= len(m[0]) {
			var less Matrix
			for _, row := range m {
				less = append(less, slices.Concat(row[:j], row[j+1:]))
			}
			best = max(best, meantRank(less))
		}
	}
	return best
}

// alike tells whether two lists of rows are, right or not.
func alike(a, b [][]byte) bool { return slices.EqualFunc(a, b, bytes.Equal) }

// check holds an answer against what is meant; where an error is, nothing else may be.
func check(t *testing.T, what string, got Matrix, e api.Errno, want Matrix, bad api.Errno) {
	t.Helper()
	if e != bad || bad != api.OK && len(got) != 0 || bad == api.OK && !alike(got, want) {
		t.Fatalf("%s: %x, error %d; not %x, error %d", what, got, int(e), want, int(bad))
	}
}

// P5.1: every short matrix, right or not: whether it is, and how great.
func TestRightSizeShort(t *testing.T) {
	for _, m := range matrices([]byte{0, 7}, 3, 3) {
		checkRight(t, m)
	}
}

func checkRight(t *testing.T, m Matrix) {
	t.Helper()
	right := meantRight(m)
	if got := m.Right(); got != right {
		t.Fatalf("Right of %x: %v", m, got)
	}
	rows, cols := m.Size()
	if right && (rows != len(m) || cols != len(m[0])) || !right && (rows != 0 || cols != 0) {
		t.Fatalf("Size of %x: %d, %d", m, rows, cols)
	}
}

// P5.1: the edges: 1 and 255 rows and columns, one beyond, and one row that is shorter or longer, wherever it stands.
func TestRightSizeEdges(t *testing.T) {
	sizes := []int{1, 2, 254, 255, 256, 257, 1000}
	for _, rows := range sizes {
		for _, cols := range sizes {
			m := mixed(rows, cols, 1)
			checkRight(t, m)
			for _, i := range []int{0, rows / 2, rows - 1} {
				for _, other := range []int{cols - 1, cols + 1} {
					bad := slices.Clone(m)
					bad[i] = make([]byte, other)
					checkRight(t, bad)
				}
			}
		}
	}
	if !mixed(255, 255, 1).Right() || mixed(256, 255, 1).Right() || mixed(255, 256, 1).Right() || (Matrix{{1, 2}, {3}}).Right() || Matrix(nil).Right() || (Matrix{{}}).Right() || (Matrix{nil}).Right() {
		t.Error("Right")
	}
}

// P5.1: every two short matrices: the same just where both are right, and alike.
func TestSameShort(t *testing.T) {
	all := matrices([]byte{0, 7}, 2, 3)
	for _, m := range all {
		for _, o := range all {
			if got, want := m.Same(o), meantRight(m) && alike(m, o); got != want {
				t.Fatalf("Same of %x and %x: %v", m, o, got)
			}
		}
	}
}

// P5.1: great ones that differ at one place, or in size; one that is not right is not even the same as itself.
func TestSameEdges(t *testing.T) {
	m := mixed(255, 255, 3)
	if !m.Same(m) || !m.Same(mixed(255, 255, 3)) {
		t.Error("not the same")
	}
	for _, place := range [][2]int{{0, 0}, {0, 254}, {254, 0}, {254, 254}, {100, 7}} {
		o := mixed(255, 255, 3)
		o[place[0]][place[1]] ^= 1
		if m.Same(o) || o.Same(m) {
			t.Errorf("the same, but for %v", place)
		}
	}
	if m.Same(m[:254]) || m[:254].Same(m) || (Matrix{{0}}).Same(Matrix{{0}, {0}}) || (Matrix{{0, 0}}).Same(Matrix{{0}, {0}}) {
		t.Error("the same, of unlike sizes")
	}
	great, ragged := mixed(256, 1, 1), Matrix{{1}, {1, 2}}
	if great.Same(great) || ragged.Same(ragged) || Matrix(nil).Same(nil) || (Matrix{{}}).Same(Matrix{{}}) {
		t.Error("the same, but not right")
	}
}

// P5.2: every short matrix, with every short list of numbers.
func TestRowsShort(t *testing.T) {
	lists := short.Lists([]int{-1, 0, 1, 2, 3}, 3)
	for _, m := range matrices([]byte{1, 9}, 3, 2) {
		for _, l := range lists {
			checkRows(t, m, l)
		}
	}
}

func checkRows(t *testing.T, m Matrix, l []int) {
	t.Helper()
	var want Matrix
	bad := api.OK
	if !meantRight(m) || len(l) < 1 || len(l) > 255 {
		bad = api.ErrArg
	}
	for _, i := range l {
		if bad != api.OK || i < 0 || i >= len(m) {
			bad = api.ErrArg
			break
		}
		want = append(want, m[i])
	}
	got, e := m.Rows(l...)
	check(t, "Rows", got, e, want, bad)
}

// P5.2: as many numbers as may be, and one more; numbers at both ends of the range.
func TestRowsEdges(t *testing.T) {
	for _, rows := range []int{1, 2, 255, 256} {
		m := mixed(rows, 3, rows)
		for _, many := range []int{0, 1, 254, 255, 256, 300} {
			checkRows(t, m, make([]int, many))
			checkRows(t, m, slices.Repeat([]int{rows - 1}, many))
		}
		for _, i := range []int{math.MinInt, -256, -1, 0, rows - 1, rows, rows + 1, 256, math.MaxInt32 + 1, math.MaxInt} {
			checkRows(t, m, []int{i})
			checkRows(t, m, []int{0, i})
			checkRows(t, m, []int{i, 0})
		}
	}
	m := mixed(255, 255, 1)
	checkRows(t, m, upTo(0, 255))
	back := upTo(0, 255)
	slices.Reverse(back)
	checkRows(t, m, back)
	checkRows(t, m, []int{254, 0, 254, 7})
}

// P5.2: every two short matrices, one behind the other.
func TestJoinShort(t *testing.T) {
	all := matrices([]byte{1, 9}, 2, 3)
	for _, m := range all {
		for _, o := range all {
			checkJoin(t, m, o)
		}
	}
}

func checkJoin(t *testing.T, m, o Matrix) {
	t.Helper()
	want, bad := slices.Concat(m, o), api.OK
	if !meantRight(m) || !meantRight(o) || len(m[0]) != len(o[0]) || len(m)+len(o) > 255 {
		bad = api.ErrArg
	}
	got, e := m.Join(o)
	check(t, "Join", got, e, want, bad)
}

// P5.2: 255 rows together, and one more.
func TestJoinEdges(t *testing.T) {
	for _, rows := range [][2]int{{1, 1}, {254, 1}, {1, 254}, {127, 128}, {128, 128}, {255, 1}, {1, 255}, {255, 255}, {256, 1}, {1, 256}} {
		for _, cols := range [][2]int{{1, 1}, {255, 255}, {256, 256}, {3, 2}, {2, 3}, {255, 254}} {
			checkJoin(t, mixed(rows[0], cols[0], 1), mixed(rows[1], cols[1], 2))
		}
	}
	m := mixed(3, 3, 1)
	checkJoin(t, m, m)
}

// P5.3: of each size that may be, and of others.
func TestOne(t *testing.T) {
	for n := 1; n <= 255; n++ {
		got, e := One(n)
		check(t, "One", got, e, meantOne(n), api.OK)
	}
	for _, n := range []int{0, -1, -255, 256, 257, 65537, math.MaxInt32, math.MaxInt, math.MinInt} {
		got, e := One(n)
		check(t, "One", got, e, nil, api.ErrArg)
	}
	got, e := One(2)
	check(t, "One of 2", got, e, Matrix{{1, 0}, {0, 1}}, api.OK)
}

func checkCauchy(t *testing.T, f *gf.Field, rows, cols int) {
	t.Helper()
	var want Matrix
	for i := range rows {
		var row []byte
		for j := range cols {
			row = append(row, f.Inv(byte(i+cols)^byte(j)))
		}
		want = append(want, row)
	}
	got, e := Cauchy(f, rows, cols)
	check(t, "Cauchy", got, e, want, api.OK)
}

// P5.3: each place, of small ones, and of those that have as many rows and columns together as may be.
func TestCauchy(t *testing.T) {
	for _, f := range fields() {
		for rows := 1; rows <= 9; rows++ {
			for cols := 1; cols <= 9; cols++ {
				checkCauchy(t, f, rows, cols)
			}
		}
		for _, rows := range []int{1, 2, 56, 100, 127, 128, 129, 200, 254, 255} {
			checkCauchy(t, f, rows, 256-rows)
			checkCauchy(t, f, rows, max(255-rows, 1))
			checkCauchy(t, f, 1, rows)
		}
	}
}

// P5.3: by hand: the chapter's own, and two rows of three.
func TestCauchyByHand(t *testing.T) {
	for name, f := range fields() {
		got, e := Cauchy(f, 1, 1)
		check(t, name, got, e, Matrix{{1}}, api.OK)
		got, e = Cauchy(f, 1, 2)
		check(t, name, got, e, Matrix{{f.Inv(2), f.Inv(3)}}, api.OK)
		got, e = Cauchy(f, 2, 1)
		check(t, name, got, e, Matrix{{1}, {0x8e}}, api.OK)
		got, e = Cauchy(f, 2, 3)
		check(t, name, got, e, Matrix{{f.Inv(3), f.Inv(2), f.Inv(1)}, {f.Inv(4), f.Inv(5), f.Inv(6)}}, api.OK)
	}
}

// P5.3: rows and columns that may not be, also where their sum would leave the range.
func TestCauchyWrong(t *testing.T) {
	for _, f := range fields() {
		for _, c := range [][2]int{
			{0, 0}, {0, 1}, {1, 0}, {-1, 1}, {1, -1}, {-1, -1}, {-1, 257}, {257, -1}, {0, 256}, {256, 0},
			{255, 2}, {2, 255}, {200, 57}, {128, 129}, {129, 128}, {255, 255}, {256, 1}, {1, 256}, {256, 256},
			{math.MaxInt, 1}, {1, math.MaxInt}, {math.MaxInt, math.MaxInt}, {math.MinInt, math.MinInt}, {math.MinInt, 1}, {1, math.MinInt},
			{math.MaxInt, math.MinInt}, {math.MinInt, math.MaxInt}, {math.MaxInt, 2}, {math.MaxInt32, math.MaxInt32},
		} {
			got, e := Cauchy(f, c[0], c[1])
			check(t, "Cauchy", got, e, nil, api.ErrArg)
		}
	}
}

func checkMul(t *testing.T, f *gf.Field, a, b Matrix) {
	t.Helper()
	var want Matrix
	bad := api.OK
	if !meantRight(a) || !meantRight(b) || len(a[0]) != len(b) {
		bad = api.ErrArg
	} else {
		want = meantApply(a, b)
	}
	got, e := Mul(f, a, b)
	check(t, "Mul", got, e, want, bad)
}

// P5.4: the product of every two short matrices, right or not.
func TestMulShort(t *testing.T) {
	all := matrices([]byte{0, 2, 0x80}, 2, 2)
	for _, f := range fields() {
		for _, a := range all {
			for _, b := range all {
				checkMul(t, f, a, b)
			}
		}
	}
}

// P5.4: products of great ones, and of such that do not fit, or are too great.
func TestMulEdges(t *testing.T) {
	for _, f := range fields() {
		for _, c := range [][4]int{
			{1, 255, 255, 1}, {255, 1, 1, 255}, {255, 9, 9, 255}, {7, 255, 255, 7}, {3, 4, 4, 5},
			{3, 4, 5, 4}, {3, 4, 3, 4}, {1, 256, 256, 1}, {256, 1, 1, 1}, {1, 1, 1, 256}, {1, 255, 256, 1}, {1, 256, 255, 1}, {2, 0, 0, 2},
		} {
			checkMul(t, f, mixed(c[0], c[1], 4), mixed(c[2], c[3], 5))
		}
		a := mixed(255, 255, 6)
		one := meantOne(255)
		for _, c := range [][2]Matrix{{a, one}, {one, a}} {
			got, e := Mul(f, c[0], c[1])
			check(t, "Mul with One", got, e, a, api.OK)
		}
	}
}

// P5.4: products by hand, which differ if they are turned round.
func TestMulByHand(t *testing.T) {
	for name, f := range fields() {
		for _, c := range []struct{ a, b, want Matrix }{
			{Matrix{{1, 2}, {3, 4}}, Matrix{{5}, {6}}, Matrix{{9}, {23}}},
			{Matrix{{1, 1}, {0, 1}}, Matrix{{1, 0}, {1, 1}}, Matrix{{0, 1}, {1, 1}}},
			{Matrix{{1, 0}, {1, 1}}, Matrix{{1, 1}, {0, 1}}, Matrix{{1, 1}, {1, 0}}},
			{Matrix{{0x80}}, Matrix{{2, 3}}, Matrix{{0x1d, 0x9d}}},
		} {
			got, e := Mul(f, c.a, c.b)
			check(t, name, got, e, c.want, api.OK)
		}
	}
}

func checkBack(t *testing.T, f *gf.Field, m Matrix) {
	t.Helper()
	want, bad := Matrix(nil), api.OK
	if !meantRight(m) || len(m) != len(m[0]) {
		bad = api.ErrArg
	} else if want = meantBack(m); want == nil {
		bad = api.ErrRank
	}
	got, e := Back(f, m)
	check(t, "Back", got, e, want, bad)
}

// P5.4: every short matrix, right or not, square or not, turned back.
func TestBackShort(t *testing.T) {
	for name, f := range fields() {
		for _, m := range matrices([]byte{0, 1, 2, 0xff}, 2, 2) {
			checkBack(t, f, m)
		}
		if name == "New" {
			for _, m := range sized([]byte{0, 1, 0x8e}, 3, 3) {
				checkBack(t, f, m)
			}
		}
	}
	for seed := range 50 {
		checkBack(t, nil, mixed(4, 4, seed))
		checkBack(t, nil, mixed(5, 5, seed))
	}
}

// P5.4: turned back by hand, and what is not right is told ahead of what hangs on one another.
func TestBackByHand(t *testing.T) {
	for name, f := range fields() {
		for _, c := range []struct {
			m, want Matrix
			bad     api.Errno
		}{
			{Matrix{{2}}, Matrix{{0x8e}}, api.OK},
			{Matrix{{0, 1}, {1, 0}}, Matrix{{0, 1}, {1, 0}}, api.OK},
			{Matrix{{1, 7}, {0, 1}}, Matrix{{1, 7}, {0, 1}}, api.OK},
			{Matrix{{0, 1, 0}, {0, 0, 1}, {1, 0, 0}}, Matrix{{0, 0, 1}, {1, 0, 0}, {0, 1, 0}}, api.OK},
			{Matrix{{0}}, nil, api.ErrRank},
			{Matrix{{2, 4}, {1, 2}}, nil, api.ErrRank},
			{Matrix{{0, 0}, {0, 0}}, nil, api.ErrRank},
			{Matrix{{0, 5}, {0, 6}}, nil, api.ErrRank},
			{Matrix{{0, 0}}, nil, api.ErrArg},
			{Matrix{{0}, {0}}, nil, api.ErrArg},
			{Matrix{{0, 0}, {0}}, nil, api.ErrArg},
			{nil, nil, api.ErrArg},
			{Matrix{}, nil, api.ErrArg},
			{Matrix{{}}, nil, api.ErrArg},
			{mixed(256, 256, 1), nil, api.ErrArg},
			{mixed(255, 256, 1), nil, api.ErrArg},
			{mixed(255, 254, 1), nil, api.ErrArg},
		} {
			got, e := Back(f, c.m)
			check(t, name, got, e, c.want, c.bad)
		}
	}
}

// sizes tells how many rows a square one is tried with; the greatest ones take seconds.
func sizes() []int {
	if testing.Short() {
		return []int{1, 2, 3, 17, 100}
	}
	return []int{1, 2, 3, 17, 100, 255}
}

// turned checks that a matrix may be turned back, from both sides, and again.
func turned(t *testing.T, f *gf.Field, m Matrix) {
	t.Helper()
	back, e := Back(f, m)
	if e != api.OK {
		t.Fatalf("Back of %d rows: error %d", len(m), int(e))
	}
	for _, c := range [][2]Matrix{{back, m}, {m, back}} {
		p, e := Mul(f, c[0], c[1])
		check(t, "the product with what was turned back", p, e, meantOne(len(m)), api.OK)
	}
	again, e := Back(f, back)
	check(t, "turned back, and again", again, e, m, api.OK)
}

// lowRank tells a matrix of which just so many rows do not hang on one another.
func lowRank(rows, cols, rank int) Matrix {
	a, _ := Powers(nil, unlike(rows), rank)
	b, _ := Powers(nil, unlike(cols), rank)
	return meantApply(a, b.Turn())
}

// P5.4, P5.5: the greatest ones, up to 255 rows, and such of which one row hangs on the others.
func TestBackEdges(t *testing.T) {
	for _, n := range sizes() {
		m := mixed(n, n, 1)
		if Rank(nil, m) != n {
			t.Fatalf("%d rows: no example", n)
		}
		turned(t, nil, m)
		if n > 1 {
			got, e := Back(nil, lowRank(n, n, n-1))
			check(t, "Back of rows that hang on one another", got, e, nil, api.ErrRank)
		}
	}
}

// P5.4: how many rows of every short matrix, right or not, of all shapes.
func TestRankShort(t *testing.T) {
	for name, f := range fields() {
		for _, m := range matrices([]byte{0, 1, 2, 0xff}, 2, 2) {
			checkRank(t, f, m)
		}
		if name == "New" {
			for _, m := range slices.Concat(sized([]byte{0, 1, 2}, 3, 3), sized([]byte{0, 1, 2}, 2, 4), sized([]byte{0, 3}, 4, 3), sized([]byte{0, 1, 2}, 5, 1), sized([]byte{0, 1, 2}, 1, 5)) {
				checkRank(t, f, m)
			}
		}
	}
}

func checkRank(t *testing.T, f *gf.Field, m Matrix) {
	t.Helper()
	want := 0
	if meantRight(m) {
		want = meantRank(m)
	}
	if got := Rank(f, m); got != want {
		t.Fatalf("Rank of %x: %d, not %d", m, got, want)
	}
}

// P5.4: by hand, of great ones, and of such that are not right.
func TestRankEdges(t *testing.T) {
	for name, f := range fields() {
		for _, c := range []struct {
			m    Matrix
			want int
		}{
			{Matrix{{0, 0}, {3, 1}, {1, f.Inv(3)}}, 1}, {Matrix{{0}}, 0}, {Matrix{{9}}, 1}, {Matrix{{0, 0, 0, 4}}, 1},
			{Matrix{{1, 2}, {2, 4}, {3, 6}}, 1}, {Matrix{{1, 2}, {2, 4}, {3, 7}}, 2}, {Matrix{{0, 1}, {0, 2}, {5, 0}}, 2},
			{nil, 0}, {Matrix{{}}, 0}, {Matrix{{1}, {1, 2}}, 0}, {Matrix{{1, 2}, {1}}, 0},
			{mixed(256, 2, 1), 0}, {mixed(2, 256, 1), 0}, {mixed(256, 256, 1), 0},
			{meantOne(255), 255}, {zeros(), 0},
			{mixed(255, 3, 1), 3}, {mixed(3, 255, 1), 3}, {mixed(1, 255, 1), 1}, {mixed(255, 1, 1), 1},
			{lowRank(40, 60, 7), 7}, {lowRank(60, 40, 39), 39}, {lowRank(255, 255, 100), 100}, {lowRank(255, 200, 1), 1},
		} {
			if got := Rank(f, c.m); got != c.want {
				t.Errorf("%s: Rank of %d rows: %d, not %d", name, len(c.m), got, c.want)
			}
		}
	}
}

// zeros tells a great matrix of zeros.
func zeros() Matrix {
	out := make(Matrix, 255)
	for i := range out {
		out[i] = make([]byte, 255)
	}
	return out
}

func checkApply(t *testing.T, f *gf.Field, m Matrix, l [][]byte) {
	t.Helper()
	var want [][]byte
	bad := api.OK
	if !meantRight(m) || len(l) != len(m[0]) {
		bad = api.ErrArg
	}
	for _, s := range l {
		if len(s) != len(l[0]) {
			bad = api.ErrArg
		}
	}
	if bad == api.OK {
		want = meantApply(m, l)
	}
	got, e := Apply(f, m, l)
	check(t, "Apply", got, e, want, bad)
}

// P5.4: every short matrix on every short list of shards, those without bytes too.
func TestApplyShort(t *testing.T) {
	all := matrices([]byte{0, 2, 0x80}, 2, 2)
	for _, f := range fields() {
		for _, m := range all {
			for _, l := range all {
				checkApply(t, f, m, l)
			}
		}
	}
}

// P5.4: shards may be longer than rows, or empty; not more, nor fewer, nor of unlike lengths.
func TestApplyEdges(t *testing.T) {
	for _, f := range fields() {
		for _, length := range []int{0, 1, 255, 256, 257, 3000} {
			for _, size := range [][2]int{{1, 1}, {3, 2}, {2, 3}, {255, 2}, {2, 255}, {256, 2}, {2, 256}} {
				m, l := mixed(size[0], size[1], 1), [][]byte(mixed(size[1], length, 2))
				checkApply(t, f, m, l)
				checkApply(t, f, m, l[1:])
				checkApply(t, f, m, append(slices.Clone(l), make([]byte, length)))
				for _, i := range []int{0, size[1] - 1} {
					bad := slices.Clone(l)
					bad[i] = make([]byte, length+1)
					checkApply(t, f, m, bad)
				}
			}
		}
		checkApply(t, f, Matrix{{1, 2}}, [][]byte{nil, {}})
		checkApply(t, f, Matrix{{1, 2}}, nil)
		checkApply(t, f, nil, nil)
		checkApply(t, f, nil, [][]byte{{1}})
		checkApply(t, f, Matrix{{}}, nil)
	}
}

// P5.4: by hand.
func TestApplyByHand(t *testing.T) {
	for name, f := range fields() {
		got, e := Apply(f, Matrix{{1, 1}, {2, 0}, {0, 0}}, [][]byte{{1, 2, 0x80}, {4, 5, 6}})
		check(t, name, got, e, Matrix{{5, 7, 0x86}, {2, 4, 0x1d}, {0, 0, 0}}, api.OK)
	}
}

// choices tells every choice of so many of the numbers from 0 on, rising.
func choices(of, many int) [][]int {
	if many == 0 {
		return [][]int{nil}
	}
	if of < many {
		return nil
	}
	out := choices(of-1, many)
	for _, l := range choices(of-1, many-1) {
		out = append(out, append(slices.Clone(l), of-1))
	}
	return out
}

// part tells some rows and some columns of a matrix.
func part(t *testing.T, m Matrix, rows, cols []int) Matrix {
	t.Helper()
	some, e := m.Rows(rows...)
	if e != api.OK {
		t.Fatalf("Rows: error %d", int(e))
	}
	out, e := some.Turn().Rows(cols...)
	if e != api.OK {
		t.Fatalf("Rows of what was turned: error %d", int(e))
	}
	return out.Turn()
}

// P5.5: each square part of small Cauchy matrices may be turned back, and again.
func TestCauchyParts(t *testing.T) {
	for _, size := range [][2]int{{1, 1}, {2, 3}, {4, 4}, {6, 3}, {3, 6}, {5, 5}} {
		m, _ := Cauchy(nil, size[0], size[1])
		for n := 1; n <= min(size[0], size[1]); n++ {
			for _, rows := range choices(size[0], n) {
				for _, cols := range choices(size[1], n) {
					turned(t, nil, part(t, m, rows, cols))
				}
			}
		}
	}
}

// P5.5: the greatest Cauchy matrices, of which no number is 0, and great square parts of them.
func TestCauchyGreat(t *testing.T) {
	for _, rows := range []int{1, 55, 128, 201, 255} {
		m, _ := Cauchy(nil, rows, 256-rows)
		n := min(rows, 256-rows)
		if got := Rank(nil, m); got != n {
			t.Fatalf("Cauchy of %d rows: Rank %d", rows, got)
		}
		for _, row := range m {
			if bytes.IndexByte(row, 0) >= 0 {
				t.Fatalf("Cauchy of %d rows: a 0", rows)
			}
		}
		turned(t, nil, part(t, m, upTo(0, n), upTo(0, n)))
		turned(t, nil, part(t, m, upTo(rows-n, n), upTo(256-rows-n, n)))
		half := (n + 1) / 2
		turned(t, nil, part(t, m, upTo(rows-half, half), upTo(0, half)))
	}
}

// P5.6: every short matrix, right or not, with rows and columns changed; twice is as it was.
func TestTurnShort(t *testing.T) {
	for _, m := range matrices([]byte{1, 9}, 3, 3) {
		checkTurn(t, m)
	}
}

func checkTurn(t *testing.T, m Matrix) {
	t.Helper()
	got := m.Turn()
	if !meantRight(m) {
		if len(got) != 0 {
			t.Fatalf("Turn of %x: %x, not none", m, got)
		}
		return
	}
	if len(got) != len(m[0]) || !got.Right() {
		t.Fatalf("Turn of %x: %x", m, got)
	}
	for i, row := range got {
		for j, x := range row {
			if len(row) != len(m) || x != m[j][i] {
				t.Fatalf("Turn of %x: %x", m, got)
			}
		}
	}
	if again := got.Turn(); !again.Same(m) {
		t.Fatalf("Turn of %x, twice: %x", m, again)
	}
}

func TestTurnEdges(t *testing.T) {
	for _, rows := range []int{0, 1, 2, 254, 255, 256} {
		for _, cols := range []int{0, 1, 2, 254, 255, 256} {
			checkTurn(t, mixed(rows, cols, 1))
		}
	}
	if got := (Matrix{{1, 2, 3}, {4, 5, 6}}).Turn(); !alike(got, Matrix{{1, 4}, {2, 5}, {3, 6}}) {
		t.Errorf("Turn: %x", got)
	}
}

func checkPowers(t *testing.T, f *gf.Field, of []byte, cols int) {
	t.Helper()
	var want Matrix
	bad := api.OK
	if len(of) < 1 || len(of) > 255 || cols < 1 || cols > 255 {
		bad = api.ErrArg
	} else {
		for _, a := range of {
			row := []byte{1}
			for len(row) < cols {
				row = append(row, f.Mul(row[len(row)-1], a))
			}
			want = append(want, row)
		}
	}
	got, e := Powers(f, of, cols)
	check(t, "Powers", got, e, want, bad)
}

// P5.6: powers of every short list, and at the edges of how many numbers and columns may be.
func TestPowers(t *testing.T) {
	for _, f := range fields() {
		for _, of := range short.Lists([]byte{0, 1, 2, 0xff}, 3) {
			for cols := -1; cols <= 5; cols++ {
				checkPowers(t, f, of, cols)
			}
		}
		for _, many := range []int{0, 1, 254, 255, 256, 300} {
			for _, cols := range []int{math.MinInt, -1, 0, 1, 254, 255, 256, 257, 511, math.MaxInt32, math.MaxInt} {
				checkPowers(t, f, unlike(many), cols)
			}
		}
		got, e := Powers(f, []byte{3, 0, 2, 3}, 3)
		check(t, "Powers by hand", got, e, Matrix{{1, 3, 5}, {1, 0, 0}, {1, 2, 4}, {1, 3, 5}}, api.OK)
	}
}

// P5.6: as many unlike numbers as columns make one that may be turned back; one that is there twice does not.
func TestPowersBack(t *testing.T) {
	for _, n := range sizes() {
		m, _ := Powers(nil, unlike(n), n)
		turned(t, nil, m)
		if n > 1 {
			of := unlike(n)
			of[n-1] = of[0]
			m, _ = Powers(nil, of, n)
			got, e := Back(nil, m)
			check(t, "Back of Powers with one twice", got, e, nil, api.ErrRank)
		}
	}
}

// calls tells each call that takes matrices and answers one, by its name.
func calls() map[string]func(m, o Matrix) (Matrix, api.Errno) {
	f := gf.New()
	return map[string]func(m, o Matrix) (Matrix, api.Errno){
		"Rows":   func(m, o Matrix) (Matrix, api.Errno) { return m.Rows(2, 0, 2, 1) },
		"Join":   func(m, o Matrix) (Matrix, api.Errno) { return m.Join(o) },
		"Twice":  func(m, o Matrix) (Matrix, api.Errno) { return m.Join(m) },
		"Mul":    func(m, o Matrix) (Matrix, api.Errno) { return Mul(f, m, o) },
		"Square": func(m, o Matrix) (Matrix, api.Errno) { return Mul(f, m, m) },
		"Back":   func(m, o Matrix) (Matrix, api.Errno) { return Back(f, m) },
		"Turn":   func(m, o Matrix) (Matrix, api.Errno) { return m.Turn(), api.OK },
		"Powers": func(m, o Matrix) (Matrix, api.Errno) { return Powers(f, m[0], 3) },
		"Apply": func(m, o Matrix) (Matrix, api.Errno) {
			out, e := Apply(f, m, o)
			return out, e
		},
		"Asked": func(m, o Matrix) (Matrix, api.Errno) {
			rows, cols := m.Size()
			return Matrix{{byte(rows), byte(cols), byte(Rank(f, m)), byte(Rank(f, o))}}, api.OK
		},
		"One":    func(m, o Matrix) (Matrix, api.Errno) { return One(4) },
		"Cauchy": func(m, o Matrix) (Matrix, api.Errno) { return Cauchy(f, 4, 3) },
	}
}

// roomy tells a matrix with spare room behind its rows, and behind each of them; whole is all of that.
func roomy(m Matrix) (out, whole Matrix) {
	for _, row := range m {
		whole = append(whole, append(slices.Clone(row), 0xee, 0xdd))
	}
	for range 4 {
		whole = append(whole, []byte{0xcc, 0xbb})
	}
	out = slices.Clone(whole)[:len(m)]
	for i := range out {
		out[i] = out[i][:len(m[i])]
	}
	return out, whole
}

// behind tells what stands in a matrix's spare room.
func behind(m Matrix) Matrix { return m[len(m):cap(m)] }

func cloned(m Matrix) Matrix {
	var out Matrix
	for _, row := range m {
		out = append(out, slices.Clone(row))
	}
	return out
}

// spoil changes all of a list, spare room too.
func spoil(l []byte) {
	l = l[:cap(l)]
	for i := range l {
		l[i] ^= 0xa5
	}
}

// Rule 4: what is handed in stays as it was, with what lies behind it; what is handed out is the caller's own, and so is each row of it.
func TestOwnMemory(t *testing.T) {
	for name, call := range calls() {
		for _, first := range []Matrix{meantOne(3), {{0, 1, 0}, {1, 0, 0}, {0, 0, 1}}, {{1, 2, 3}, {4, 5, 6}, {7, 8, 0}}} {
			a, wholeA := roomy(first)
			b, wholeB := roomy(meantOne(3))
			wasA, wasB := cloned(wholeA), cloned(wholeB)
			tailA, tailB := cloned(behind(a)), cloned(behind(b))
			same := func() bool {
				return alike(wholeA, wasA) && alike(wholeB, wasB) && alike(a, first) && alike(b, meantOne(3)) && alike(behind(a), tailA) && alike(behind(b), tailB)
			}
			got, e := call(a, b)
			if e != api.OK || !same() {
				t.Fatalf("%s: error %d, or what was handed in is changed", name, int(e))
			}
			want := cloned(got)
			for i := range got {
				spoil(got[i])
				for j := range got {
					if j > i && !bytes.Equal(got[j], want[j]) {
						t.Fatalf("%s: rows %d and %d share memory", name, i, j)
					}
				}
			}
			clear(got[:cap(got)])
			if !same() {
				t.Fatalf("%s: what was handed out is what was handed in", name)
			}
			again, e := call(a, b)
			for i := range wholeA {
				spoil(wholeA[i])
				spoil(wholeB[i])
			}
			check(t, name+" again, with what was handed in spoilt", again, e, want, api.OK)
		}
	}
}

// Rule 4: nothing is changed either where there is an error.
func TestOwnMemoryWrong(t *testing.T) {
	f := gf.New()
	first := Matrix{{1, 2, 3}, {2, 4, 6}, {0, 0, 0}}
	m, whole := roomy(first)
	was := cloned(whole)
	tail := cloned(behind(m))
	numbers := []int{0, 1, 9}
	m.Rows(numbers...)
	m.Join(m[:1:1])
	m.Join(Matrix{{1}})
	Mul(f, m, m[:2])
	if _, e := Back(f, m); e != api.ErrRank {
		t.Errorf("Back: error %d", int(e))
	}
	Back(f, m[:2])
	Apply(f, m, m[:1])
	if !alike(whole, was) || !alike(m, first) || !alike(behind(m), tail) || !slices.Equal(numbers, []int{0, 1, 9}) {
		t.Errorf("what was handed in: %x, %v", whole, numbers)
	}
}

// FuzzBack looks for a matrix that is turned back wrongly, or of which the rank is not that of its columns.
func FuzzBack(f *testing.F) {
	f.Add([]byte{1, 0, 0, 1}, byte(2), byte(2))
	f.Add([]byte{2, 4, 1, 2}, byte(2), byte(2))
	f.Add([]byte{0, 0, 1, 7, 7, 7}, byte(2), byte(3))
	f.Fuzz(func(t *testing.T, b []byte, rows, cols byte) {
		var m Matrix
		for i := range int(rows) % 16 {
			row := make([]byte, int(cols)%16)
			copy(row, b[min(i*len(row), len(b)):])
			m = append(m, row)
		}
		checkRight(t, m)
		checkTurn(t, m)
		rank := Rank(nil, m)
		if rank != Rank(nil, m.Turn()) {
			t.Fatalf("Rank of %x: %d, and %d turned", m, rank, Rank(nil, m.Turn()))
		}
		_, e := Back(nil, m)
		switch {
		case !m.Right() || len(m) != len(m[0]):
			check(t, "Back", nil, e, nil, api.ErrArg)
		case rank < len(m):
			check(t, "Back", nil, e, nil, api.ErrRank)
		default:
			turned(t, nil, m)
		}
	})
}
