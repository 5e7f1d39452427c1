package bits_test

import (
	"math"
	"math/big"
	"slices"
	"testing"

	"osier/api"
	"osier/bits"
)

// sample is numbers of all magnitudes: around each power of two, and around both ends of what a number may be.
func sample() []int {
	l := []int{math.MinInt, math.MinInt + 1, math.MaxInt, math.MaxInt - 1, 6, 10, 100, 12345, 1_000_003, 6_700_417, 2_147_483_659, 4_611_686_018_427_387_847}
	for i := range 63 {
		for d := -2; d <= 2; d++ {
			l = append(l, 1<<i+d, -(1<<i)+d)
		}
	}
	slices.Sort(l)
	return slices.Compact(l)
}

// power is 2^n by big numbers, so that the tests do not lean on shifts of the program's kind.
func power(n int) *big.Int {
	return new(big.Int).Exp(big.NewInt(2), big.NewInt(int64(n)), nil)
}

// fits tells whether a number is 0 to 2^width - 1.
func fits(n, width int) bool {
	return n >= 0 && big.NewInt(int64(n)).Cmp(power(width)) < 0
}

// Bi1: Width, at the numbers that the chapter names.
func TestWidthOfNumbers(t *testing.T) {
	rows := []struct {
		n, width int
	}{
		{1, 0}, {2, 1}, {3, 2}, {4, 2}, {5, 3}, {8, 3}, {9, 4}, {1 << 40, 40}, {1<<40 + 1, 41},
		{1 << 61, 61}, {1<<61 + 1, 62}, {api.MaxSat - 1, 62}, {api.MaxSat, 62},
	}
	for _, r := range rows {
		if w, e := bits.Width(r.n); w != r.width || e != api.OK {
			t.Errorf("Width(%d): %d, error %d, not %d", r.n, w, e, r.width)
		}
	}
}

// Bi1: Width answers numbers from 1 to MaxSat alone.
func TestWidthRefuses(t *testing.T) {
	for _, n := range []int{0, -1, -5, math.MinInt, api.MaxSat + 1, api.MaxSat + 2, math.MaxInt} {
		if w, e := bits.Width(n); w != 0 || e != api.ErrArg {
			t.Errorf("Width(%d): %d, error %d, not 0, ErrArg", n, w, e)
		}
	}
}

// Bi1: Width is the least w with n <= 2^w, over all magnitudes.
func TestWidthIsLeast(t *testing.T) {
	for _, n := range sample() {
		w, e := bits.Width(n)
		if n < 1 || n > api.MaxSat {
			if w != 0 || e != api.ErrArg {
				t.Errorf("Width(%d): %d, error %d, not 0, ErrArg", n, w, e)
			}
			continue
		}
		b := big.NewInt(int64(n))
		if e != api.OK || b.Cmp(power(w)) > 0 || w > 0 && b.Cmp(power(w-1)) <= 0 {
			t.Errorf("Width(%d): %d, error %d, is not the least", n, w, e)
		}
	}
}

// Bi1: Put, the lowest bit first.
func TestPutOfNumbers(t *testing.T) {
	rows := []struct {
		n, width int
		bits     []bool
	}{
		{6, 4, []bool{false, true, true, false}},
		{1, 1, []bool{true}},
		{0, 1, []bool{false}},
		{0, 3, []bool{false, false, false}},
		{4, 3, []bool{false, false, true}},
		{15, 4, []bool{true, true, true, true}},
		{0, 0, nil},
	}
	for _, r := range rows {
		if l, e := bits.Put(r.n, r.width); !slices.Equal(l, r.bits) || e != api.OK {
			t.Errorf("Put(%d, %d): %v, error %d, not %v", r.n, r.width, l, e, r.bits)
		}
	}
}

// Bi1: Put at the greatest width.
func TestPutOfMaxWidth(t *testing.T) {
	l, e := bits.Put(1<<61, api.MaxWidth)
	if e != api.OK || len(l) != 62 || !l[61] || slices.Contains(l[:61], true) {
		t.Errorf("Put(2^61, 62): %v, error %d", l, e)
	}
	l, e = bits.Put(api.MaxSat, api.MaxWidth)
	if e != api.OK || len(l) != 62 || slices.Contains(l, false) {
		t.Errorf("Put(MaxSat, 62): %v, error %d", l, e)
	}
	l, e = bits.Put(0, api.MaxWidth)
	if e != api.OK || len(l) != 62 || slices.Contains(l, true) {
		t.Errorf("Put(0, 62): %v, error %d", l, e)
	}
}

// Bi1: Put refuses widths and numbers that may not be, and then answers no bits.
func TestPutRefuses(t *testing.T) {
	rows := []struct {
		n, width int
	}{
		{0, -1}, {0, math.MinInt}, {0, 63}, {0, 64}, {0, 65}, {5, 1 << 20}, {0, math.MaxInt},
		{1, 0}, {2, 1}, {16, 4}, {17, 4}, {-1, 0}, {-1, 4}, {-1, 62}, {math.MinInt, 62},
		{1 << 61, 61}, {api.MaxSat + 1, 62}, {math.MaxInt, 62}, {math.MaxInt, 63},
	}
	for _, r := range rows {
		if l, e := bits.Put(r.n, r.width); len(l) != 0 || e != api.ErrArg {
			t.Errorf("Put(%d, %d): %v, error %d, not ErrArg", r.n, r.width, l, e)
		}
	}
}

// Bi1: the bit at the place i says whether the number has 2^i, over all widths and magnitudes.
func TestPutBitByBit(t *testing.T) {
	for _, n := range sample() {
		for width := -2; width <= 70; width++ {
			l, e := bits.Put(n, width)
			if width < 0 || width > 62 || !fits(n, width) {
				if len(l) != 0 || e != api.ErrArg {
					t.Fatalf("Put(%d, %d): %v, error %d, not ErrArg", n, width, l, e)
				}
				continue
			}
			if len(l) != width || e != api.OK {
				t.Fatalf("Put(%d, %d): %v, error %d", n, width, l, e)
			}
			for i, bit := range l {
				if bit != (big.NewInt(int64(n)).Bit(i) == 1) {
					t.Fatalf("Put(%d, %d): %v is wrong at %d", n, width, l, i)
				}
			}
		}
	}
}

// Bi1: Get, the lowest bit first; the longest list, and none.
func TestGetOfBits(t *testing.T) {
	all := slices.Repeat([]bool{true}, api.MaxWidth)
	highest := make([]bool, api.MaxWidth)
	highest[61] = true
	rows := []struct {
		bits []bool
		n    int
	}{
		{nil, 0},
		{[]bool{}, 0},
		{[]bool{false}, 0},
		{[]bool{true}, 1},
		{[]bool{false, true, true, false}, 6},
		{[]bool{true, false, false}, 1},
		{make([]bool, api.MaxWidth), 0},
		{highest, 1 << 61},
		{all, api.MaxSat},
	}
	for _, r := range rows {
		if n, e := bits.Get(r.bits); n != r.n || e != api.OK {
			t.Errorf("Get(%v): %d, error %d, not %d", r.bits, n, e, r.n)
		}
	}
}

// Bi1: Get refuses lists of more than MaxWidth bits, whatever these are.
func TestGetRefuses(t *testing.T) {
	for _, length := range []int{63, 64, 65, 1000, 1 << 20} {
		for _, bit := range []bool{false, true} {
			if n, e := bits.Get(slices.Repeat([]bool{bit}, length)); n != 0 || e != api.ErrArg {
				t.Errorf("Get of %d times %v: %d, error %d, not 0, ErrArg", length, bit, n, e)
			}
		}
	}
}

// Bi2: sums, at the numbers that the chapter names.
func TestAddOfNumbers(t *testing.T) {
	const most = api.MaxSat
	rows := []struct {
		a, b, sum int
	}{
		{0, 0, 0}, {2, 3, 5}, {1 << 40, 1 << 41, 3 << 40},
		{-3, 5, 5}, {5, -3, 5}, {-3, -5, 0}, {math.MinInt, 7, 7}, {math.MinInt, math.MinInt, 0},
		{most, 0, most}, {most, -1, most}, {most, 1, most}, {most, 5, most}, {most, most, most},
		{most - 1, 0, most - 1}, {most - 1, 1, most}, {most - 1, 2, most},
		{1 << 61, 1<<61 - 1, most}, {1 << 61, 1<<61 - 2, most - 1}, {1 << 61, 1 << 61, most},
		{most + 1, 0, most}, {math.MaxInt, 0, most}, {math.MaxInt, math.MinInt, most}, {math.MaxInt, 1, most}, {math.MaxInt, math.MaxInt, most},
	}
	for _, r := range rows {
		if s := bits.Add(r.a, r.b); s != r.sum {
			t.Errorf("Add(%d, %d): %d, not %d", r.a, r.b, s, r.sum)
		}
	}
}

// Bi2: products, at the numbers that the chapter names.
func TestMulOfNumbers(t *testing.T) {
	const most = api.MaxSat
	rows := []struct {
		a, b, product int
	}{
		{0, 0, 0}, {2, 3, 6}, {1, 7, 7}, {0, 7, 0},
		{-3, 5, 0}, {5, -3, 0}, {-3, -5, 0}, {math.MinInt, math.MinInt, 0}, {math.MinInt, -1, 0},
		{most, 0, 0}, {most, -1, 0}, {most, 1, most}, {most, 2, most}, {most, most, most},
		{1 << 31, 1 << 31, most}, {1 << 30, 1 << 31, 1 << 61}, {1<<31 - 1, 1 << 31, 1<<62 - 1<<31},
		{1<<31 - 1, 1<<31 + 1, most}, {1 << 32, 1 << 32, most}, {1 << 61, 8, most},
		{1<<61 - 1, 2, most - 1}, {1 << 61, 2, most}, {most / 3, 3, most}, {most/3 + 1, 3, most}, {most/3 - 1, 3, most - 3},
		{most + 1, 1, most}, {math.MaxInt, 0, 0}, {math.MaxInt, 1, most}, {math.MaxInt, math.MinInt, 0}, {math.MaxInt, math.MaxInt, most},
	}
	for _, r := range rows {
		if p := bits.Mul(r.a, r.b); p != r.product {
			t.Errorf("Mul(%d, %d): %d, not %d", r.a, r.b, p, r.product)
		}
	}
}

// counted is a big number as a count.
func counted(n *big.Int) *big.Int {
	if n.Sign() < 0 {
		return new(big.Int)
	}
	if n.Cmp(big.NewInt(api.MaxSat)) > 0 {
		return big.NewInt(api.MaxSat)
	}
	return n
}

// Bi2: sums and products are those of big numbers, counted, over all magnitudes.
func TestCountsOfAllMagnitudes(t *testing.T) {
	l := sample()
	for _, a := range l {
		for _, b := range l {
			x, y := counted(big.NewInt(int64(a))), counted(big.NewInt(int64(b)))
			if s := counted(new(big.Int).Add(x, y)); bits.Add(a, b) != int(s.Int64()) {
				t.Fatalf("Add(%d, %d): %d, not %d", a, b, bits.Add(a, b), s)
			}
			if p := counted(new(big.Int).Mul(x, y)); bits.Mul(a, b) != int(p.Int64()) {
				t.Fatalf("Mul(%d, %d): %d, not %d", a, b, bits.Mul(a, b), p)
			}
		}
	}
}

// Bi2: powers, at all places where they are ones, and beyond both ends.
func TestPow(t *testing.T) {
	for n := range 62 {
		if p := bits.Pow(n); big.NewInt(int64(p)).Cmp(power(n)) != 0 {
			t.Errorf("Pow(%d): %d", n, p)
		}
	}
	for _, n := range []int{62, 63, 64, 65, 1000, math.MaxInt} {
		if p := bits.Pow(n); p != api.MaxSat {
			t.Errorf("Pow(%d): %d, not MaxSat", n, p)
		}
	}
	for _, n := range []int{-1, -2, -62, -64, math.MinInt} {
		if p := bits.Pow(n); p != 1 {
			t.Errorf("Pow(%d): %d, not 1", n, p)
		}
	}
}

// Bi3: Get of Put is the number, and Put of Get the bits.
func TestThereAndBack(t *testing.T) {
	for _, n := range sample() {
		for width := range 63 {
			if !fits(n, width) {
				continue
			}
			l, _ := bits.Put(n, width)
			if m, e := bits.Get(l); m != n || e != api.OK {
				t.Fatalf("Get of Put(%d, %d): %d, error %d", n, width, m, e)
			}
			if k, e := bits.Put(n, len(l)); !slices.Equal(k, l) || e != api.OK {
				t.Fatalf("Put(%d, %d) twice: %v, %v, error %d", n, width, l, k, e)
			}
		}
	}
	for n := range 1 << 10 {
		l := make([]bool, 10)
		for i := range l {
			l[i] = n>>i&1 == 1
		}
		m, _ := bits.Get(l)
		if k, e := bits.Put(m, 10); !slices.Equal(k, l) || e != api.OK {
			t.Fatalf("Put of Get(%v): %v, error %d", l, k, e)
		}
	}
}

// Bi3: with Width(n) bits all numbers below n can be put, with one bit less the greatest of them can't.
func TestWidthIsForPut(t *testing.T) {
	for _, n := range sample() {
		w, e := bits.Width(n)
		if e != api.OK {
			continue
		}
		for _, m := range []int{0, n / 2, n - 1} {
			if _, e := bits.Put(m, w); e != api.OK {
				t.Errorf("Width(%d) is %d, but Put(%d, %d) has the error %d", n, w, m, w, e)
			}
		}
		if _, e := bits.Put(n-1, w-1); e != api.ErrArg {
			t.Errorf("Width(%d) is %d, but Put(%d, %d) has the error %d", n, w, n-1, w-1, e)
		}
	}
}

// Bi3: sums and products do not hang on the order of what they are of: of two numbers, and of three counts.
func TestOrderDoesNotMatter(t *testing.T) {
	l := sample()
	for _, a := range l {
		for _, b := range l {
			if bits.Add(a, b) != bits.Add(b, a) || bits.Mul(a, b) != bits.Mul(b, a) {
				t.Fatalf("the order of %d and %d matters", a, b)
			}
		}
	}
	few := []int{math.MinInt, -1, 0, 1, 2, 3, 5, 1 << 20, 1 << 31, 1<<31 + 1, 1 << 61, api.MaxSat - 1, api.MaxSat, api.MaxSat + 1, math.MaxInt}
	for _, a := range few {
		for _, b := range few {
			for _, c := range few {
				if bits.Add(bits.Add(a, b), c) != bits.Add(a, bits.Add(b, c)) {
					t.Fatalf("the order of the sum of %d, %d and %d matters", a, b, c)
				}
				if bits.Mul(bits.Mul(a, b), c) != bits.Mul(a, bits.Mul(b, c)) {
					t.Fatalf("the order of the product of %d, %d and %d matters", a, b, c)
				}
			}
		}
	}
}

// R1: each call ends, and none panics, at all arguments.
func TestNoCallPanics(t *testing.T) {
	l := sample()
	for _, a := range l {
		bits.Width(a)
		bits.Pow(a)
		for _, b := range l {
			bits.Put(a, b)
			bits.Add(a, b)
			bits.Mul(a, b)
		}
	}
	for length := range 130 {
		bits.Get(make([]bool, length))
	}
}

// R3: Get neither reads what lies behind a list's end, nor changes what it is given.
func TestGetLeavesListsAlone(t *testing.T) {
	room := slices.Repeat([]bool{true}, 100)
	for length := range 63 {
		if n, e := bits.Get(room[:length]); n != 1<<length-1 || e != api.OK {
			t.Fatalf("Get of %d bits, with more behind: %d, error %d", length, n, e)
		}
	}
	bits.Get(room)
	if slices.Contains(room, false) {
		t.Error("Get changed its list")
	}
}

// R3, R4: Put's bits are new memory each time, and its answers hang on its arguments alone.
func TestPutAnswersNewMemory(t *testing.T) {
	first, _ := bits.Put(6, 4)
	second, _ := bits.Put(6, 4)
	for i := range first {
		first[i] = !first[i]
	}
	third, _ := bits.Put(6, 4)
	want := []bool{false, true, true, false}
	if !slices.Equal(second, want) || !slices.Equal(third, want) {
		t.Errorf("Put(6, 4) after its answer was changed: %v, %v", second, third)
	}
}
