package bits

import (
	"bytes"
	"math"
	"slices"
	"testing"
)

// widths: those that are allowed, and some on both sides that are not.
var widths = []int{math.MinInt, -8, -1, 0, 1, 2, 3, 4, 5, 6, 7, 8, 9, 16, 64, math.MaxInt}

func good(width int) bool { return width >= 1 && width <= 8 }

// numbers: the edges of every width, with and without a sign, and some that look like nothing.
func numbers() []uint64 {
	l := []uint64{0, 1, 2, 5, 0x0102030405060708, 0x8877665544332211, 0xdeadbeefcafef00d}
	for i := range 64 {
		p := uint64(1) << i
		l = append(l, p-1, p, p+1, -p-1, -p, -p+1)
	}
	for x, i := uint64(7), 0; i < 50; i++ {
		x = x*6364136223846793005 + 1442695040888963407
		l = append(l, x, x>>(i%64))
	}
	return l
}

// digits: the number's lowest bytes, by division.
func digits(n uint64, width int) []byte {
	var l []byte
	for range width {
		l = append(l, byte(n%256))
		n /= 256
	}
	return l
}

// P1.1: the lowest bytes, lowest first, behind b.
func TestPutExamples(t *testing.T) {
	for i, x := range []struct {
		b     []byte
		n     uint64
		width int
		want  []byte
	}{
		{nil, 258, 2, []byte{2, 1}},
		{nil, 258, 1, []byte{2}},
		{[]byte{}, 0, 1, []byte{0}},
		{[]byte{9}, 258, 4, []byte{9, 2, 1, 0, 0}},
		{[]byte{9, 8}, math.MaxUint64, 8, []byte{9, 8, 255, 255, 255, 255, 255, 255, 255, 255}},
		{nil, 0x0807060504030201, 8, []byte{1, 2, 3, 4, 5, 6, 7, 8}},
		{nil, 0x0807060504030201, 7, []byte{1, 2, 3, 4, 5, 6, 7}},
		{nil, 1 << 63, 8, []byte{0, 0, 0, 0, 0, 0, 0, 128}},
	} {
		if got := Put(x.b, x.n, x.width); !bytes.Equal(got, x.want) {
			t.Error(i, got, x.want)
		}
	}
}

func TestPutAll(t *testing.T) {
	for _, b := range [][]byte{nil, {}, {7}, {0, 255, 3}, make([]byte, 300)} {
		for _, width := range widths {
			for _, n := range numbers() {
				want := slices.Clone(b)
				if good(width) {
					want = append(want, digits(n, width)...)
				}
				if got := Put(b, n, width); !bytes.Equal(got, want) {
					t.Fatal(len(b), n, width, got, want)
				}
			}
		}
	}
}

// R3: neither the bytes, nor the memory beyond them, nor an earlier result is changed.
func TestPutChangesNothing(t *testing.T) {
	for _, width := range widths {
		all := []byte{1, 2, 3, 4, 5, 6, 7, 8, 9, 10, 11, 12}
		was := slices.Clone(all)
		first := Put(all[:2], math.MaxUint64, width)
		kept := slices.Clone(first)
		second := Put(all[:2], 0, width)
		third := Put(first, 77, width)
		fourth := Put(first, 78, width)
		if !bytes.Equal(all, was) || !bytes.Equal(first, kept) {
			t.Error(width, all, first)
		}
		if good(width) && (second[2] != 0 || third[len(kept)] != 77 || fourth[len(kept)] != 78) {
			t.Error(width, second, third, fourth)
		}
	}
}

// What the caller then does to the bytes, or to the result, is not to be seen in the other one.
func TestPutSharesNothing(t *testing.T) {
	for _, width := range widths {
		all := make([]byte, 12)
		got := Put(all[:2], math.MaxUint64, width)
		clear(got)
		for i := range all {
			all[i] = 9
		}
		if slices.ContainsFunc(got, func(x byte) bool { return x != 0 }) {
			t.Error(width, got)
		}
		more := append(got, 5, 5, 5)
		if len(more) != len(got)+3 || slices.ContainsFunc(all, func(x byte) bool { return x != 9 }) {
			t.Error(width, all)
		}
	}
}

// P1.1: the number at the index, if all of its bytes lie in b.
func TestNumExamples(t *testing.T) {
	b := []byte{9, 2, 1}
	for i, x := range []struct {
		b         []byte
		at, width int
		n         uint64
		ok        bool
	}{
		{b, 1, 2, 258, true},
		{b, 0, 3, 0x010209, true},
		{b, 2, 1, 1, true},
		{b, 2, 2, 0, false},
		{b, 3, 1, 0, false},
		{b, 4, 1, 0, false},
		{b, -1, 1, 0, false},
		{b, -1, 4, 0, false},
		{b, 0, 4, 0, false},
		{b, 0, 0, 0, false},
		{b, 3, 0, 0, false},
		{b, 1, -1, 0, false},
		{b, 0, 9, 0, false},
		{make([]byte, 20), 0, 9, 0, false},
		{b, math.MaxInt, 1, 0, false},
		{b, math.MaxInt - 7, 8, 0, false},
		{b, math.MinInt, 8, 0, false},
		{b, math.MaxInt, math.MaxInt, 0, false},
		{b, math.MinInt, math.MinInt, 0, false},
		{nil, 0, 1, 0, false},
		{nil, 0, 0, 0, false},
		{b[:1], 0, 2, 0, false}, // what lies in memory behind b is not in b
		{[]byte{255, 255, 255, 255, 255, 255, 255, 255}, 0, 8, math.MaxUint64, true},
		{[]byte{1, 2, 3, 4, 5, 6, 7, 8}, 0, 8, 0x0807060504030201, true},
		{[]byte{0, 0, 0, 0, 0, 0, 0, 128}, 0, 8, 1 << 63, true},
	} {
		if n, ok := Num(x.b, x.at, x.width); n != x.n || ok != x.ok {
			t.Error(i, n, ok)
		}
	}
}

func TestNumAll(t *testing.T) {
	b := make([]byte, 20)
	for i := range b {
		b[i] = byte(251 - 13*i)
	}
	was := slices.Clone(b)
	for size := range len(b) {
		for at := -10; at < len(b)+10; at++ {
			for _, width := range widths {
				var want uint64
				there := good(width) && at >= 0 && at+width <= size
				if there {
					for i := width - 1; i >= 0; i-- {
						want = want*256 + uint64(b[at+i])
					}
				}
				if n, ok := Num(b[:size], at, width); n != want || ok != there {
					t.Fatal(size, at, width, n, ok, want, there)
				}
			}
		}
	}
	if !bytes.Equal(b, was) {
		t.Error("Num changed what it read")
	}
}

// P1.1: below 256 to the power of width.
func TestFits(t *testing.T) {
	for i, x := range []struct {
		n     uint64
		width int
		want  bool
	}{
		{255, 1, true}, {256, 1, false}, {0, 1, true}, {math.MaxUint64, 1, false},
		{1<<16 - 1, 2, true}, {1 << 16, 2, false},
		{1<<24 - 1, 3, true}, {1 << 24, 3, false},
		{1<<32 - 1, 4, true}, {1 << 32, 4, false},
		{1<<40 - 1, 5, true}, {1 << 40, 5, false},
		{1<<48 - 1, 6, true}, {1 << 48, 6, false},
		{1<<56 - 1, 7, true}, {1 << 56, 7, false},
		{math.MaxUint64, 8, true}, {1 << 63, 8, true}, {0, 8, true},
	} {
		if Fits(x.n, x.width) != x.want {
			t.Error(i)
		}
	}
	for _, width := range widths {
		for _, n := range []uint64{0, 1, math.MaxUint64} {
			if !good(width) && Fits(n, width) {
				t.Error(n, width)
			}
		}
	}
}

// P1.2: two's complement of the lowest bytes alone.
func TestSigned(t *testing.T) {
	for i, x := range []struct {
		n     uint64
		width int
		want  int64
	}{
		{255, 1, -1}, {127, 1, 127}, {128, 1, -128}, {0, 1, 0},
		{0x1ff, 1, -1}, {0xff00, 1, 0}, {0xff7f, 1, 127},
		{0xffff, 2, -1}, {0x8000, 2, -0x8000}, {0x7fff, 2, 0x7fff}, {0xabcd7fff, 2, 0x7fff},
		{255, 2, 255},
		{1<<55 - 1, 7, 1<<55 - 1}, {1 << 55, 7, -1 << 55}, {0xff << 56, 7, 0},
		{1 << 63, 8, math.MinInt64}, {1<<63 - 1, 8, math.MaxInt64}, {math.MaxUint64, 8, -1},
	} {
		if got := Signed(x.n, x.width); got != x.want {
			t.Error(i, got, x.want)
		}
	}
}

func TestSignedAll(t *testing.T) {
	for _, width := range widths {
		for _, n := range numbers() {
			var want int64
			if good(width) {
				want = int64(n)
			}
			if width >= 1 && width < 8 {
				m := int64(1) << (8 * width)
				want = int64(n % uint64(m))
				if want >= m/2 {
					want -= m
				}
			}
			if got := Signed(n, width); got != want {
				t.Fatal(n, width, got, want)
			}
		}
	}
}

// P1.2: the least and the greatest number of each width just fit, and those beside them just do not.
func TestNarrowEdges(t *testing.T) {
	for width := 1; width < 8; width++ {
		half := int64(1) << (8*width - 1)
		for i, x := range []struct {
			n    int64
			want uint64
			ok   bool
		}{
			{half - 1, uint64(half - 1), true}, {half, 0, false},
			{-half, uint64(half), true}, {-half - 1, 0, false},
			{-1, uint64(2*half - 1), true}, {0, 0, true}, {1, 1, true},
			{2 * half, 0, false}, {-2 * half, 0, false}, {2*half - 1, 0, false},
			{math.MaxInt64, 0, false}, {math.MinInt64, 0, false},
		} {
			if got, ok := Narrow(x.n, width); got != x.want || ok != x.ok {
				t.Error(width, i, got, ok)
			}
		}
	}
	for _, n := range []int64{0, 1, -1, math.MaxInt64, math.MinInt64} {
		if got, ok := Narrow(n, 8); got != uint64(n) || !ok {
			t.Error(n, got, ok)
		}
	}
}

func TestNarrowWidths(t *testing.T) {
	for _, width := range widths {
		for _, n := range []int64{0, 1, -1, math.MaxInt64, math.MinInt64} {
			if got, ok := Narrow(n, width); !good(width) && (got != 0 || ok) {
				t.Error(n, width, got, ok)
			}
		}
	}
}

// P1.2: rotated by the number modulo 64, which is from 0 to 63 for numbers below 0 too.
func TestTurn(t *testing.T) {
	for i, x := range []struct {
		n    uint64
		by   int
		want uint64
	}{
		{1, 1, 2}, {1, 0, 1}, {1, 63, 1 << 63}, {1, 64, 1}, {1, 65, 2},
		{1, -1, 1 << 63}, {1, -63, 2}, {1, -64, 1}, {1, -65, 1 << 63}, {2, -1, 1},
		{1 << 63, 1, 1}, {1<<63 | 1, 4, 24}, {0x0123456789abcdef, 8, 0x23456789abcdef01},
		{0x0123456789abcdef, -8, 0xef0123456789abcd},
		{0x0123456789abcdef, 32, 0x89abcdef01234567},
		{5, math.MinInt, 5}, {5, math.MaxInt, 1<<63 | 2}, {5, math.MinInt + 1, 10},
		{0, 13, 0}, {math.MaxUint64, -13, math.MaxUint64},
	} {
		if got := Turn(x.n, x.by); got != x.want {
			t.Error(i, got, x.want)
		}
	}
}

func TestTurnOneByOne(t *testing.T) {
	for _, n := range numbers() {
		left, right := n, n
		for by := range 200 {
			if got := Turn(n, by); got != left {
				t.Fatal(n, by, got, left)
			}
			if got := Turn(n, -by); got != right {
				t.Fatal(n, -by, got, right)
			}
			left = left*2 + left/(1<<63)
			right = right/2 + right%2*(1<<63)
		}
	}
}

// P1.3: Num returns what Put has written.
func TestPutNum(t *testing.T) {
	for width := 1; width <= 8; width++ {
		for _, n := range numbers() {
			b := Put([]byte{3, 4, 5}, n, width)
			b = Put(b, ^n, 8)
			got, ok := Num(b, 3, width)
			if !ok || Fits(n, width) != (got == n) || !bytes.Equal(digits(got, 8)[:width], digits(n, width)) {
				t.Fatal(n, width, got, ok)
			}
			if got, ok := Num(b, 3+width, 8); !ok || got != ^n {
				t.Fatal(n, width, got, ok)
			}
		}
	}
}

// P1.3: Signed and Narrow are inverses of each other.
func TestSignedNarrow(t *testing.T) {
	for width := 1; width <= 8; width++ {
		for _, n := range numbers() {
			low, ok := Narrow(Signed(n, width), width)
			if !ok || !Fits(low, width) || Fits(n, width) != (low == n) {
				t.Fatal(n, width, low, ok)
			}
			if low, ok := Narrow(int64(n), width); ok && (Signed(low, width) != int64(n) || !Fits(low, width)) {
				t.Fatal(n, width, low)
			}
		}
	}
	for n := int64(-70000); n <= 70000; n++ {
		for width := 1; width <= 3; width++ {
			half := int64(1) << (8*width - 1)
			low, ok := Narrow(n, width)
			if ok != (n >= -half && n < half) || ok && Signed(low, width) != n || !ok && low != 0 {
				t.Fatal(n, width, low, ok)
			}
		}
	}
}

// P1.3: a Turn by a number and a Turn by its negative cancel each other.
func TestTurnBack(t *testing.T) {
	for _, n := range numbers() {
		for by := -130; by <= 130; by++ {
			if Turn(Turn(n, by), -by) != n {
				t.Fatal(n, by)
			}
		}
		for _, by := range []int{math.MaxInt, math.MaxInt - 31, math.MinInt + 1, math.MinInt} {
			if Turn(Turn(n, by), -by) != n || Turn(n, by) != Turn(n, by&63) {
				t.Fatal(n, by)
			}
		}
	}
}

type small int8

// Ways: one generic function shifts integers of any type.
func TestShift(t *testing.T) {
	if shift(uint8(0x81), 1) != 2 || shift(uint8(0x81), -7) != 1 || shift(uint8(1), 8) != 0 {
		t.Error("uint8")
	}
	if shift(small(-128), -7) != -1 || shift(small(-128), -1) != -64 || shift(small(1), 7) != -128 {
		t.Error("small")
	}
	if shift(int64(-1), -64) != -1 || shift(int64(-8), -2) != -2 || shift(int64(-1), 64) != 0 {
		t.Error("int64")
	}
	if shift(uint64(1), 63) != 1<<63 || shift(uint64(1)<<63, -63) != 1 || shift(uint64(7), 0) != 7 {
		t.Error("uint64")
	}
	if shift(5, math.MinInt) != 0 || shift(-5, math.MinInt) != -1 || shift(5, math.MaxInt) != 0 {
		t.Error("far")
	}
}
