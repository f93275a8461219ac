package crc

import (
	"bytes"
	"hash/crc32"
	"math"
	"slices"
	"testing"
)

// slow is the checksum as P2.1 tells it, bit by bit.
func slow(b []byte) uint32 {
	register := uint32(math.MaxUint32)
	for _, x := range b {
		register ^= uint32(x)
		for range 8 {
			out := register % 2
			register /= 2
			if out == 1 {
				register ^= 0xedb88320
			}
		}
	}
	return ^register
}

// noise is n bytes that look like nothing, others for each seed.
func noise(n int, seed uint64) []byte {
	l := make([]byte, n)
	for i := range l {
		seed = seed*6364136223846793005 + 1442695040888963407
		l[i] = byte(seed >> 56)
	}
	return l
}

// sums: checksums to go on from, the least and the greatest among them.
var sums = []uint32{0, 1, 7, 0x80000000, 0xcbf43926, 0xdebb20e3, 0xedb88320, math.MaxUint32 - 1, math.MaxUint32}

// P2.1: known checksums.
func TestSumExamples(t *testing.T) {
	for i, x := range []struct {
		b    []byte
		want uint32
	}{
		{nil, 0},
		{[]byte{}, 0},
		{[]byte("123456789"), 0xcbf43926},
		{[]byte("a"), 0xe8b7be43},
		{[]byte("abc"), 0x352441c2},
		{[]byte{0}, 0xd202ef8d},
		{[]byte{255}, 0xff000000},
		{[]byte{0, 0, 0, 0}, 0x2144df1c},
		{[]byte{255, 255, 255, 255}, 0xffffffff},
		{make([]byte, 32), 0x190a55ad},
		{bytes.Repeat([]byte{255}, 32), 0xff6cab0b},
		{[]byte("The quick brown fox jumps over the lazy dog"), 0x414fa339},
	} {
		if got := Sum(x.b); got != x.want {
			t.Errorf("%d: %x, not %x", i, got, x.want)
		}
	}
}

// P2.1: the order of the bytes, and bytes 0 at either end, count.
func TestSumOrder(t *testing.T) {
	seen := map[uint32]string{}
	for _, s := range []string{"", "\x00", "\x00\x00", "ab", "ba", "ab\x00", "\x00ab", "a\x00b", "a", "b"} {
		if was, ok := seen[Sum([]byte(s))]; ok {
			t.Errorf("%q and %q", s, was)
		}
		seen[Sum([]byte(s))] = s
	}
}

// P2.1: every byte, alone and behind another one.
func TestSumShort(t *testing.T) {
	for i := range 256 {
		if b := []byte{byte(i)}; Sum(b) != slow(b) {
			t.Errorf("%d: %x", i, Sum(b))
		}
		for j := range 256 {
			if b := []byte{byte(i), byte(j)}; Sum(b) != slow(b) {
				t.Fatalf("%d %d: %x", i, j, Sum(b))
			}
		}
	}
}

func TestSumLong(t *testing.T) {
	for n := range 600 {
		b := noise(n, uint64(n))
		if got := Sum(b); got != slow(b) || got != crc32.ChecksumIEEE(b) {
			t.Fatalf("%d: %x", n, got)
		}
	}
	b := noise(1<<20+3, 5)
	if got := Sum(b); got != slow(b) {
		t.Errorf("long: %x", got)
	}
}

// P2.1: what lies in memory behind b is not in b.
func TestSumEndsWithLength(t *testing.T) {
	b := []byte("123456789 and more")
	if Sum(b[:9]) != 0xcbf43926 || Sum(b[:0]) != 0 || More(7, b[:0]) != 7 {
		t.Error("read beyond the length")
	}
}

// P2.1: a sum that goes on with no bytes stays.
func TestMoreNothing(t *testing.T) {
	for _, sum := range sums {
		if More(sum, nil) != sum || More(sum, []byte{}) != sum {
			t.Errorf("%x: %x %x", sum, More(sum, nil), More(sum, []byte{}))
		}
	}
}

// P2.1: any number is the checksum of some bytes, and goes on like one.
func TestMoreAnySum(t *testing.T) {
	for i, x := range []struct {
		sum  uint32
		b    []byte
		want uint32
	}{
		{0, []byte("123456789"), 0xcbf43926},
		{0xe8b7be43, []byte("bc"), 0x352441c2},
		{0xd202ef8d, []byte{0, 0, 0}, 0x2144df1c},
		{0x2144df1c, make([]byte, 28), 0x190a55ad},
		{math.MaxUint32, []byte{0, 0, 0}, math.MaxUint32}, // a register of zeros stays one
		{math.MaxUint32, []byte{128}, 0x12477cdf},         // the divisor, inverted
	} {
		if got := More(x.sum, x.b); got != x.want {
			t.Errorf("%d: %x, not %x", i, got, x.want)
		}
	}
	for _, sum := range sums {
		for n := range 40 {
			b := noise(n, uint64(sum))
			if got := More(sum, b); got != crc32.Update(sum, crc32.IEEETable, b) {
				t.Fatalf("%x %d: %x", sum, n, got)
			}
		}
	}
}

// P2.1: so many bytes 0; fewer than none are none, and there are no more than 65536.
func TestZeros(t *testing.T) {
	many := make([]byte, 70000)
	for _, sum := range append([]uint32{Sum([]byte("a"))}, sums...) {
		for _, n := range []int{math.MinInt, math.MinInt + 1, -65537, -65536, -256, -2, -1, 0, 1, 2, 3, 4, 5, 7, 8, 255, 256, 257, 1000,
			32768, 65534, 65535, 65536, 65537, 65538, 69999, 131072, 1 << 31, 1 << 32, 1<<32 + 1, 1 << 62, math.MaxInt - 1, math.MaxInt} {
			count := n
			if n < 0 {
				count = 0
			}
			if n > 65536 {
				count = 65536
			}
			want := crc32.Update(sum, crc32.IEEETable, many[:count])
			if got := Zeros(sum, n); got != want || got != More(sum, many[:count]) {
				t.Errorf("%x %d: %x, not %x", sum, n, got, want)
			}
		}
	}
}

func TestZerosEdges(t *testing.T) {
	a := Sum([]byte("a"))
	if Zeros(a, 0) != a || Zeros(a, -1) != a || Zeros(a, math.MinInt) != a || Zeros(a, 1) != Sum([]byte("a\x00")) || Zeros(a, 1) == a {
		t.Error("few")
	}
	last := slow(append([]byte("a"), make([]byte, 65536)...))
	if Zeros(a, 65535) == last || Zeros(a, 65536) != last || Zeros(a, 65537) != last || Zeros(a, math.MaxInt) != last {
		t.Error("many")
	}
}

// Each number of bytes 0 is one more than the one before, up to the last one.
func TestZerosOneByOne(t *testing.T) {
	sum := uint32(7)
	for n := range 3000 {
		if got := Zeros(7, n); got != sum {
			t.Fatalf("%d: %x, not %x", n, got, sum)
		}
		sum = More(sum, []byte{0})
	}
}

// P2.2: More(Sum(a), b) is the Sum of a followed by b, wherever the cut is.
func TestMoreOfSum(t *testing.T) {
	for n := range 80 {
		whole := noise(n, uint64(3*n+1))
		want := slow(whole)
		for cut := range n + 1 {
			if got := More(Sum(whole[:cut]), whole[cut:]); got != want {
				t.Fatalf("%d %d: %x, not %x", n, cut, got, want)
			}
			for next := cut; next <= n; next += 7 {
				if got := More(More(Sum(whole[:cut]), whole[cut:next]), whole[next:]); got != want {
					t.Fatalf("%d %d %d: %x, not %x", n, cut, next, got, want)
				}
			}
		}
	}
}

// flip inverts the bits of mask, from that bit of b on; the lowest bit of a byte is its first.
func flip(b []byte, at int, mask uint32) []byte {
	l := slices.Clone(b)
	for i := range 32 {
		if mask>>i&1 == 1 && at+i < 8*len(l) {
			l[(at+i)/8] ^= 1 << ((at + i) % 8)
		}
	}
	return l
}

// P2.2: whatever is changed within 32 consecutive bits, the checksum is another one.
func TestBursts(t *testing.T) {
	for _, n := range []int{1, 2, 4, 5, 9, 40, 256} {
		b := noise(n, uint64(n))
		was := Sum(b)
		for at := range 8 * n {
			for i, mask := range []uint32{1, 3, 5, 0xff, 0x101, 0x80000001, 0xffffffff, 0xaaaaaaab, 0xedb88320, 0xdb710641, 0x04c11db7, 0x76dc4190, 0x00010001} {
				x := flip(b, at, mask)
				if !bytes.Equal(x, b) && Sum(x) == was {
					t.Fatalf("%d %d %d", n, at, i)
				}
			}
		}
	}
}

// basis has changes of a checksum of which none is the exclusive or of others, each by its highest bit.
type basis [32]uint32

// add tells whether x is no exclusive or of what is there, and takes it in.
func (l *basis) add(x uint32) bool {
	for high := 31; high >= 0; high-- {
		if x>>high == 0 {
			continue
		}
		if l[high] == 0 {
			l[high] = x
			return true
		}
		x ^= l[high]
	}
	return false
}

// P2.2, for all 2^32 - 1 changes of 32 bits: what a bit changes in the checksum is no exclusive or of what others change.
func TestBurstsAllOfThem(t *testing.T) {
	b := noise(64, 9)
	for at := 0; at+32 <= 8*len(b); at++ {
		var changes basis
		for bit := range 32 {
			if !changes.add(Sum(b) ^ Sum(flip(b, at, 1<<bit))) {
				t.Fatalf("%d: bit %d changes what others change", at, bit)
			}
		}
	}
}

// What two changes do to the checksum is the exclusive or of what each does: what the test above builds on.
func TestChangesAdd(t *testing.T) {
	b := noise(64, 9)
	for at := 0; at+32 <= 8*len(b); at += 5 {
		one, two := uint32(at)*2654435761+1, uint32(at)*40503+77
		both := Sum(b) ^ Sum(flip(b, at, one^two))
		if both != Sum(flip(b, at, one))^Sum(flip(b, at, two)) {
			t.Fatal(at)
		}
	}
}

// R3: neither the bytes nor the memory beyond them are changed.
func TestNothingChanged(t *testing.T) {
	for n := range 40 {
		all := noise(40, 77)
		was := slices.Clone(all)
		Sum(all[:n])
		More(3, all[:n])
		More(math.MaxUint32, all[n:])
		if !bytes.Equal(all, was) {
			t.Fatal(n)
		}
	}
}

// R4: a call's result depends on its arguments alone, whatever was called before.
func TestNothingKept(t *testing.T) {
	b := noise(100, 4)
	sum, more, zeros := Sum(b), More(9, b), Zeros(9, 100)
	for n := range 50 {
		Sum(b[:n])
		More(uint32(n), b[n:])
		Zeros(uint32(n), n)
		if Sum(b) != sum || More(9, b) != more || Zeros(9, 100) != zeros {
			t.Fatal(n)
		}
	}
}

// Ways: the array holds the steps of all 256 bytes.
func TestSteps(t *testing.T) {
	all := steps()
	for i, got := range all {
		want := uint32(i)
		for range 8 {
			want = shift(want)
		}
		if got != want {
			t.Errorf("%d: %x, not %x", i, got, want)
		}
	}
	if len(all) != 256 || all != table(*crc32.IEEETable) {
		t.Error("table")
	}
}
