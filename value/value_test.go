package value

import (
	"math"
	"slices"
	"strings"
	"testing"

	"orangery/api"
)

const (
	ones  = "\xff\xff\xff\xff\xff\xff\xff\xff" // the greatest number
	zeros = "\x00\x00\x00\x00\x00\x00\x00\x00"
	most  = math.MaxUint64
)

// of is the value with the bytes of s, laid by hand.
func of(s string) api.Value {
	v := api.Value{N: len(s)}
	for i := range len(s) {
		v.B[i] = s[i]
	}
	return v
}

// texts: every string of at most 3 bytes out of 0, 1, 97, 254, 255, alone and behind bytes that leave it astride the eighth or fill a value, and some others of every length.
func texts() []string {
	l := []string{""}
	for from := 0; len(l[from]) < 3; from++ {
		for _, x := range []byte{0, 1, 97, 254, 255} {
			l = append(l, l[from]+string([]byte{x}))
		}
	}
	for _, s := range slices.Clone(l) {
		for _, head := range []string{"abcdef", ones[:6], zeros[:6], "0123456789abc", ones + ones[:5], zeros + zeros[:5]} {
			l = append(l, head+s)
		}
	}
	for n := range api.MaxValue + 1 {
		l = append(l, "0123456789abcdef"[:n], (ones + ones)[:n], (zeros + zeros)[:n], ("\x00" + ones + ones)[:n], ("\xff" + zeros + zeros)[:n])
	}
	l = append(l, "é", "日本語", "\xc3\x28", "a b", "\n")
	slices.Sort(l)
	return slices.Compact(l)
}

// bad: values that are not valid, by N, by a byte behind the value, or by both.
func bad() []api.Value {
	full := of(ones + ones).B
	l := []api.Value{
		{N: -1}, {N: 17}, {N: 18}, {N: 32}, {N: -8}, {N: -16}, {N: 256}, {N: -256},
		{N: math.MaxInt}, {N: math.MinInt}, {N: math.MaxInt - 15}, {N: 1 << 32}, {N: 1<<32 + 1}, {N: -1 << 32},
		{B: [16]byte{1}}, {B: [16]byte{15: 1}}, {B: [16]byte{0, 255}}, {B: [16]byte{8: 1}},
		{N: 1, B: [16]byte{1, 2}}, {N: 1, B: [16]byte{97, 15: 255}}, {N: 1, B: [16]byte{0, 0, 1}},
		{N: 7, B: [16]byte{1, 2, 3, 4, 5, 6, 7, 8}}, {N: 8, B: [16]byte{1, 2, 3, 4, 5, 6, 7, 8, 9}}, {N: 8, B: [16]byte{8: 128}},
		{N: -1, B: [16]byte{97}}, {N: 17, B: [16]byte{1, 2, 3}},
	}
	for _, n := range []int{-1, 17, 0, 1, 7, 8, 9, 15, math.MaxInt, math.MinInt} {
		l = append(l, api.Value{N: n, B: full})
	}
	return l
}

// numbers: the edges of every count of bits, and some that look like nothing.
func numbers() []uint64 {
	l := []uint64{0, 1, 2, 5, 255, 256, 258, 0x0102030405060708, 0x8877665544332211, most, most - 1}
	for i := range 64 {
		p := uint64(1) << i
		l = append(l, p-1, p, p+1, -p-1, -p, -p+1)
	}
	for x, i := uint64(7), 0; i < 30; i++ {
		x = x*6364136223846793005 + 1442695040888963407
		l = append(l, x, x>>(i%64))
	}
	return l
}

// digits: the number's eight bytes, the lowest first, by division.
func digits(n uint64) string {
	var l []byte
	for range 8 {
		l = append(l, byte(n%256))
		n /= 256
	}
	return string(l)
}

// worth: the number that the first eight bytes of s are, by multiplication.
func worth(s string) uint64 {
	var n uint64
	for i := min(len(s), 8) - 1; i >= 0; i-- {
		n = n*256 + uint64(s[i])
	}
	return n
}

// total: the eight bytes of the sum of two numbers of eight bytes, byte by byte; what is carried out of the last one is lost.
func total(a, b string) string {
	var l []byte
	carry := 0
	for i := range 8 {
		sum := int(a[i]) + int(b[i]) + carry
		l = append(l, byte(sum%256))
		carry = sum / 256
	}
	return string(l)
}

// P4.1: the value with the bytes of s.
func TestOf(t *testing.T) {
	for i, x := range []struct {
		s    string
		want api.Value
	}{
		{"", api.Value{}},
		{"a", api.Value{N: 1, B: [16]byte{97}}},
		{"\x00", api.Value{N: 1}},
		{"\xff", api.Value{N: 1, B: [16]byte{255}}},
		{"a\x00", api.Value{N: 2, B: [16]byte{97}}},
		{"\x00a", api.Value{N: 2, B: [16]byte{0, 97}}},
		{"\x00\xff\x00", api.Value{N: 3, B: [16]byte{0, 255, 0}}},
		{"é", api.Value{N: 2, B: [16]byte{0xc3, 0xa9}}},
		{"abcdefgh", api.Value{N: 8, B: [16]byte{97, 98, 99, 100, 101, 102, 103, 104}}},
		{"abcdefghi", api.Value{N: 9, B: [16]byte{97, 98, 99, 100, 101, 102, 103, 104, 105}}},
		{"0123456789abcde", api.Value{N: 15, B: [16]byte{48, 49, 50, 51, 52, 53, 54, 55, 56, 57, 97, 98, 99, 100, 101}}},
		{"0123456789abcdef", api.Value{N: 16, B: [16]byte{48, 49, 50, 51, 52, 53, 54, 55, 56, 57, 97, 98, 99, 100, 101, 102}}},
		{zeros, api.Value{N: 8}},
		{zeros + zeros, api.Value{N: 16}},
		{ones + ones[:7], api.Value{N: 15, B: [16]byte{255, 255, 255, 255, 255, 255, 255, 255, 255, 255, 255, 255, 255, 255, 255}}},
	} {
		if v, e := Of(x.s); v != x.want || e != api.OK {
			t.Error(i, v, e)
		}
	}
	for _, s := range texts() {
		if v, e := Of(s); v != of(s) || e != api.OK {
			t.Errorf("%q: %v %v", s, v, e)
		}
	}
}

// P4.1: more than 16 bytes, whichever they are and however many characters they make, are too many.
func TestOfTooLarge(t *testing.T) {
	for _, s := range []string{"0123456789abcdefg", zeros + zeros + "\x00", ones + ones + "\xff", "ééééééééé", "日本語日本語",
		strings.Repeat("a", 32), strings.Repeat("\x00", 256), strings.Repeat("b", 257), strings.Repeat("c", 1<<20)} {
		if v, e := Of(s); v != (api.Value{}) || e != api.ErrTooLarge {
			t.Errorf("%.20q: %v %v", s, v, e)
		}
	}
	for n := range 80 {
		want := api.OK
		if n > 16 {
			want = api.ErrTooLarge
		}
		if _, e := Of(strings.Repeat("x", n)); e != want {
			t.Error(n, e)
		}
	}
}

// P4.1: N is from 0 to 16, and the bytes behind it are 0.
func TestCheck(t *testing.T) {
	for _, s := range texts() {
		if !Check(of(s)) {
			t.Errorf("%q", s)
		}
	}
	for i, v := range bad() {
		if Check(v) {
			t.Error(i, v)
		}
	}
	if !Check(api.Value{}) {
		t.Error("the zero value is the value of no bytes")
	}
}

// One byte that is not 0, at each place: it may stand there only if N is beyond it.
func TestCheckPlaces(t *testing.T) {
	for n := -40; n <= 40; n++ {
		if want := n >= 0 && n <= 16; Check(api.Value{N: n}) != want {
			t.Error(n)
		}
		for at := range 16 {
			for _, x := range []byte{1, 97, 128, 255} {
				v := api.Value{N: n}
				v.B[at] = x
				if want := n <= 16 && at < n; Check(v) != want {
					t.Error(n, at, x)
				}
			}
		}
	}
}

// P4.1: the bytes of a valid value, and none of another one.
func TestText(t *testing.T) {
	for _, s := range texts() {
		if got := Text(of(s)); got != s {
			t.Errorf("%q: %q", s, got)
		}
	}
	for i, v := range bad() {
		if got := Text(v); got != "" {
			t.Errorf("%d: %q", i, got)
		}
	}
}

// Values are equal by == exactly if their Texts are, whatever they were made by.
func TestEqual(t *testing.T) {
	l := texts()
	for i := range l {
		a, _ := Of(l[i])
		for j := i % 5; j < len(l); j += 5 {
			b, _ := Of(l[j])
			if same := l[i] == l[j]; (a == b) != same || (Text(a) == Text(b)) != same {
				t.Fatalf("%q %q", l[i], l[j])
			}
		}
	}
	for _, n := range numbers() {
		if made, _ := Of(digits(n)); From(n) != made || Plus(made, 0) != made || Text(From(n)) != digits(n) {
			t.Fatal(n, made)
		}
	}
}

// P4.2: the first eight bytes, the lowest first.
func TestNumberExamples(t *testing.T) {
	for i, x := range []struct {
		s    string
		want uint64
	}{
		{"", 0}, {"\x00", 0}, {zeros, 0}, {zeros + zeros, 0},
		{"\x01", 1}, {"\x01\x00", 1}, {"\x00\x01", 256}, {"\x02\x01", 258}, {"\x01\x02", 513}, {"\xff", 255}, {"\xff\xff", 65535}, {"\x00\xff", 65280},
		{"a", 97}, {"ab", 25185}, {"\x01\x02\x03\x04\x05\x06\x07", 0x07060504030201}, {"\x01\x02\x03\x04\x05\x06\x07\x08", 0x0807060504030201},
		{zeros[:7] + "\x01", 1 << 56}, {zeros[:7] + "\x80", 1 << 63}, {ones, most}, {ones[:7], 1<<56 - 1}, {"\xfe" + ones[:7], most - 1},
		{zeros + "\x01", 0}, {zeros + ones, 0}, {zeros[:7] + "\x01X", 1 << 56}, {ones + "\x00", most}, {ones + ones, most}, {"\x01" + zeros[:7] + "\x01", 1},
		{"\x01\x02\x03\x04\x05\x06\x07\x08\x09", 0x0807060504030201}, {"\x01\x02\x03\x04\x05\x06\x07\x08" + ones, 0x0807060504030201},
	} {
		if got := Number(of(x.s)); got != x.want {
			t.Errorf("%d: %q: %d", i, x.s, got)
		}
	}
}

func TestNumberAll(t *testing.T) {
	for _, s := range texts() {
		if got := Number(of(s)); got != worth(s) {
			t.Fatalf("%q: %d", s, got)
		}
	}
	for _, n := range numbers() {
		s := digits(n)
		for _, tail := range []string{"", "\x00", "\x01", "X", "\xff", zeros, ones, "89abcdef"} {
			if got := Number(of(s + tail)); got != n {
				t.Fatalf("%d %q: %d", n, tail, got)
			}
		}
		for count := range 8 {
			if got := Number(of(s[:count])); got != n%(1<<(8*count)) {
				t.Fatal(n, count, got)
			}
		}
	}
}

// P4.2: eight bytes, be the number as small as it may.
func TestFrom(t *testing.T) {
	for i, x := range []struct {
		n    uint64
		want api.Value
	}{
		{0, api.Value{N: 8}},
		{1, api.Value{N: 8, B: [16]byte{1}}},
		{255, api.Value{N: 8, B: [16]byte{255}}},
		{256, api.Value{N: 8, B: [16]byte{0, 1}}},
		{258, api.Value{N: 8, B: [16]byte{2, 1}}},
		{1 << 56, api.Value{N: 8, B: [16]byte{7: 1}}},
		{1 << 63, api.Value{N: 8, B: [16]byte{7: 128}}},
		{0x0807060504030201, api.Value{N: 8, B: [16]byte{1, 2, 3, 4, 5, 6, 7, 8}}},
		{most, api.Value{N: 8, B: [16]byte{255, 255, 255, 255, 255, 255, 255, 255}}},
	} {
		if got := From(x.n); got != x.want {
			t.Error(i, got)
		}
	}
	for _, n := range numbers() {
		if got := From(n); got != of(digits(n)) || !Check(got) {
			t.Fatal(n, got)
		}
	}
}

// P4.2: eight bytes of the sum, whatever the length of the value; what goes past the greatest number begins anew at 0.
func TestPlusExamples(t *testing.T) {
	for i, x := range []struct {
		s    string
		by   uint64
		want string
	}{
		{"\x01", 255, "\x00\x01" + zeros[:6]},
		{"", 0, zeros}, {"", 7, "\x07" + zeros[:7]}, {"", most, ones}, {"\x00", 0, zeros}, {"\xff", 0, "\xff" + zeros[:7]},
		{"\xff", 1, "\x00\x01" + zeros[:6]}, {"\xff\xff", 1, "\x00\x00\x01" + zeros[:5]}, {"\x01\x02", 513, "\x02\x04" + zeros[:6]},
		{"a", 1, "b" + zeros[:7]}, {ones[:7], 1, zeros[:7] + "\x01"}, {zeros[:7] + "\x7f", 1 << 56, zeros[:7] + "\x80"},
		{ones, 0, ones}, {ones, 1, zeros}, {ones, 2, "\x01" + zeros[:7]}, {ones, most, "\xfe" + ones[:7]}, {"\x01", most, zeros}, {"\x02", most, "\x01" + zeros[:7]},
		{zeros[:7] + "\x80", 1 << 63, zeros}, {zeros[:7] + "\xff", 1 << 56, zeros}, {"\xfe" + ones[:7], 1, ones}, {"\xfe" + ones[:7], 3, "\x01" + zeros[:7]},
		{"0123456789abcdef", 0, "01234567"}, {"0123456789abcdef", 1, "11234567"}, {ones + ones, 0, ones}, {ones + ones, 1, zeros}, {ones + "\x01", 1, zeros},
		{zeros + ones, 0, zeros}, {zeros + "\x01", 5, "\x05" + zeros[:7]}, {"01234567X", 256, "02234567"},
	} {
		if got := Plus(of(x.s), x.by); got != of(x.want) {
			t.Errorf("%d: %q %d: %v", i, x.s, x.by, got)
		}
	}
}

func TestPlusAll(t *testing.T) {
	l := numbers()
	for _, s := range texts() {
		for i := len(s) % 7; i < len(l); i += 7 {
			by := l[i]
			if got := Plus(of(s), by); got != of(total(digits(worth(s)), digits(by))) || !Check(got) {
				t.Fatalf("%q %d: %v", s, by, got)
			}
		}
	}
}

// P4.3: what From lays, Number reads.
func TestNumberOfFrom(t *testing.T) {
	for _, n := range numbers() {
		if got := Number(From(n)); got != n {
			t.Fatal(n, got)
		}
	}
}

// P4.3: by one number and then by another one is by their sum, wherever the sums wrap round.
func TestPlusTwice(t *testing.T) {
	l, from := numbers(), texts()
	for i, a := range l {
		for j := i % 5; j < len(l); j += 5 {
			v := of(from[(i+j)%len(from)])
			if twice, once := Plus(Plus(v, a), l[j]), Plus(v, a+l[j]); twice != once || twice != Plus(Plus(v, l[j]), a) {
				t.Fatal(v, a, l[j], twice, once)
			}
			if there := Plus(v, a); Number(there) != Number(v)+a || Plus(there, -a) != From(Number(v)) {
				t.Fatal(v, a, there)
			}
		}
	}
}

// R1: of values that are not valid nothing is said but that the calls end.
func TestBadValuesEnd(t *testing.T) {
	for _, v := range bad() {
		Number(v)
		for _, by := range []uint64{0, 1, 255, 1 << 63, most} {
			Plus(v, by)
		}
	}
}

// R3, R4: no call changes what was handed in, or the result of an earlier call; the same call has the same result again.
func TestNothingChanged(t *testing.T) {
	all := bad()
	for _, s := range texts() {
		all = append(all, of(s))
	}
	was := slices.Clone(all)
	type results struct {
		value       api.Value
		code        api.Errno
		valid       bool
		text        string
		number      uint64
		from, added api.Value
	}
	call := func(v *api.Value) (r results) {
		r.text = Text(*v)
		r.value, r.code = Of(r.text)
		r.valid = Check(*v)
		r.number = Number(*v)
		r.from = From(r.number)
		r.added = Plus(*v, most)
		return r
	}
	var first []results
	for i := range all {
		first = append(first, call(&all[i]))
	}
	kept := slices.Clone(first)
	for i := range all {
		if again := call(&all[i]); again != kept[i] {
			t.Fatal(was[i], again, kept[i])
		}
	}
	if !slices.Equal(all, was) || !slices.Equal(first, kept) {
		t.Error("changed")
	}
}

// What the caller then does to a result is not to be seen in what was handed in, nor in a later result.
func TestNothingShared(t *testing.T) {
	for _, s := range texts() {
		v, _ := Of(s)
		text := Text(v)
		clear(v.B[:])
		v.N = 3
		if again, _ := Of(s); text != s || again != of(s) {
			t.Errorf("%q: %q %v", s, text, again)
		}
	}
	for _, n := range numbers() {
		v := From(n)
		sum := Plus(v, 1)
		clear(v.B[:])
		if From(n) != of(digits(n)) || sum != of(total(digits(n), digits(1))) {
			t.Error(n)
		}
		clear(sum.B[:])
		if Plus(From(n), 1) != of(total(digits(n), digits(1))) {
			t.Error(n)
		}
	}
}
