package key

import (
	"math"
	"slices"
	"strings"
	"testing"

	"orangery/api"
)

const (
	high  = "\xff\xff\xff\xff\xff\xff\xff\xff" // the greatest key
	zeros = "\x00\x00\x00\x00\x00\x00\x00\x00"
)

// of is the key with the bytes of s, laid by hand.
func of(s string) api.Key {
	k := api.Key{N: len(s)}
	for i := range len(s) {
		k.B[i] = s[i]
	}
	return k
}

func keys(texts ...string) []api.Key {
	var l []api.Key
	for _, s := range texts {
		l = append(l, of(s))
	}
	return l
}

// texts: every string of at most 4 bytes out of 0, 1, 97, 254, 255, alone and behind bytes that fill a key, and some others.
func texts() []string {
	l := []string{""}
	for from := 0; len(l[from]) < 4; from++ {
		for _, x := range []byte{0, 1, 97, 254, 255} {
			l = append(l, l[from]+string([]byte{x}))
		}
	}
	for _, s := range slices.Clone(l) {
		l = append(l, "abcd"+s, high[:4]+s, zeros[:4]+s)
	}
	l = append(l, "a", "b", "ab", "abc", "abcdefg", "abcdefgh", "é", "日本", "\xc3", "\xc3\x28", "a b", "\n")
	slices.Sort(l)
	return slices.Compact(l)
}

// bad: keys that are not valid, by N, by a byte behind the key, or by both.
func bad() []api.Key {
	return []api.Key{
		{N: -1}, {N: 9}, {N: 10}, {N: 16}, {N: -8}, {N: 256}, {N: -256},
		{N: math.MaxInt}, {N: math.MinInt}, {N: math.MaxInt - 7}, {N: 1 << 32}, {N: 1<<32 + 1}, {N: -1 << 32},
		{B: [8]byte{1}}, {B: [8]byte{7: 1}}, {B: [8]byte{0, 255}},
		{N: 1, B: [8]byte{1, 2}}, {N: 1, B: [8]byte{97, 7: 255}}, {N: 1, B: [8]byte{0, 0, 1}},
		{N: 7, B: [8]byte{1, 2, 3, 4, 5, 6, 7, 8}}, {N: 7, B: [8]byte{7: 128}},
		{N: -1, B: [8]byte{97}}, {N: 9, B: [8]byte{1, 2, 3, 4, 5, 6, 7, 8}},
		{N: -1, B: of(high).B}, {N: 9, B: of(high).B}, {N: 0, B: of(high).B}, {N: 7, B: of(high).B},
		{N: math.MaxInt, B: of(high).B}, {N: math.MinInt, B: of(high).B},
	}
}

// before tells whether a is less than b, byte by byte.
func before(a, b string) bool {
	for i := range len(b) {
		if i == len(a) || a[i] < b[i] {
			return true
		}
		if a[i] > b[i] {
			return false
		}
	}
	return false
}

// P3.1: the key with the bytes of s.
func TestOf(t *testing.T) {
	for i, x := range []struct {
		s    string
		want api.Key
	}{
		{"", api.Key{}},
		{"a", api.Key{N: 1, B: [8]byte{97}}},
		{"\x00", api.Key{N: 1}},
		{"\xff", api.Key{N: 1, B: [8]byte{255}}},
		{"a\x00", api.Key{N: 2, B: [8]byte{97}}},
		{"\x00a", api.Key{N: 2, B: [8]byte{0, 97}}},
		{"\x00\xff\x00", api.Key{N: 3, B: [8]byte{0, 255, 0}}},
		{"é", api.Key{N: 2, B: [8]byte{0xc3, 0xa9}}},
		{"abcdefg", api.Key{N: 7, B: [8]byte{97, 98, 99, 100, 101, 102, 103}}},
		{"abcdefgh", api.Key{N: 8, B: [8]byte{97, 98, 99, 100, 101, 102, 103, 104}}},
		{zeros, api.Key{N: 8}},
		{high, api.Key{N: 8, B: [8]byte{255, 255, 255, 255, 255, 255, 255, 255}}},
	} {
		if k, e := Of(x.s); k != x.want || e != api.OK {
			t.Error(i, k, e)
		}
	}
	for _, s := range texts() {
		if k, e := Of(s); k != of(s) || e != api.OK {
			t.Errorf("%q: %v %v", s, k, e)
		}
	}
}

// P3.1: more than 8 bytes, whichever they are and however many characters they make, are too many.
func TestOfTooLarge(t *testing.T) {
	for _, s := range []string{"abcdefghi", zeros + "\x00", high + "\xff", "ééééé", "日本語", strings.Repeat("a", 16),
		strings.Repeat("\x00", 256), strings.Repeat("b", 257), strings.Repeat("c", 1<<20)} {
		if k, e := Of(s); k != (api.Key{}) || e != api.ErrTooLarge {
			t.Errorf("%.20q: %v %v", s, k, e)
		}
	}
	for n := range 40 {
		want := api.OK
		if n > 8 {
			want = api.ErrTooLarge
		}
		if _, e := Of(strings.Repeat("x", n)); e != want {
			t.Error(n, e)
		}
	}
}

// P3.1: N is from 0 to 8, and the bytes behind it are 0.
func TestCheck(t *testing.T) {
	for _, s := range texts() {
		if !Check(of(s)) {
			t.Errorf("%q", s)
		}
	}
	for i, k := range bad() {
		if Check(k) {
			t.Error(i, k)
		}
	}
	if !Check(api.Key{}) {
		t.Error("the zero key is the key of no bytes")
	}
}

// One byte that is not 0, at each place: it may stand there only if N is beyond it.
func TestCheckPlaces(t *testing.T) {
	for n := -20; n <= 20; n++ {
		if want := n >= 0 && n <= 8; Check(api.Key{N: n}) != want {
			t.Error(n)
		}
		for at := range 8 {
			for _, x := range []byte{1, 97, 128, 255} {
				k := api.Key{N: n}
				k.B[at] = x
				if want := n <= 8 && at < n; Check(k) != want {
					t.Error(n, at, x)
				}
			}
		}
	}
}

// P3.1: the bytes of a valid key, and none of another one.
func TestText(t *testing.T) {
	for _, s := range texts() {
		if got := Text(of(s)); got != s {
			t.Errorf("%q: %q", s, got)
		}
	}
	for i, k := range bad() {
		if got := Text(k); got != "" {
			t.Errorf("%d: %q", i, got)
		}
	}
}

// P3.2: byte by byte, a proper prefix first.
func TestCompareExamples(t *testing.T) {
	for i, x := range []struct {
		a, b string
		want int
	}{
		{"a", "ab", -1}, {"ab", "a", 1}, {"a", "a", 0}, {"", "", 0}, {"", "\x00", -1}, {"\x00", "", 1},
		{"a", "b", -1}, {"ab", "b", -1}, {"b", "ab", 1}, {"abcdefgh", "b", -1},
		{"a", "a\x00", -1}, {"a\x00", "a", 1}, {"a\x00", "a\x00\x00", -1}, {"a\x00\x00", "a\x01", -1}, {"a\x00b", "ab", -1},
		{"\x7f", "\x80", -1}, {"\xff", "\x00", 1}, {"\xff", "\xff\x00", -1}, {"\x00\xff", "\x01", -1},
		{"a\xff", "b", -1}, {"Z", "a", -1}, {zeros, "\x01", -1}, {zeros, zeros[:7], 1}, {"", zeros, -1},
		{"abcdefgh", "abcdefgi", -1}, {"abcdefgh", "abcdefgh", 0}, {"abcdefgh", "abcdefg", 1}, {high, high, 0}, {high, high[:7], 1},
		{high, "\xff\xff\xff\xff\xff\xff\xff\xfe", 1},
	} {
		if got := Compare(of(x.a), of(x.b)); got != x.want {
			t.Errorf("%d: %q %q: %d", i, x.a, x.b, got)
		}
	}
}

func TestCompareAll(t *testing.T) {
	l := texts()
	for i := 0; i < len(l); i += 3 {
		for j := range l {
			want := 0
			if before(l[i], l[j]) {
				want = -1
			}
			if before(l[j], l[i]) {
				want = 1
			}
			if got := Compare(of(l[i]), of(l[j])); got != want {
				t.Fatalf("%q %q: %d", l[i], l[j], got)
			}
			if got := Compare(of(l[j]), of(l[i])); got != -want {
				t.Fatalf("%q %q: %d", l[j], l[i], got)
			}
		}
	}
}

// P3.2: a key's next is the key and a byte 0, or if that is too long, the least key above.
func TestNextExamples(t *testing.T) {
	for i, x := range []struct{ from, to string }{
		{"", "\x00"}, {"a", "a\x00"}, {"\x00", "\x00\x00"}, {"\xff", "\xff\x00"}, {"a\x00", "a\x00\x00"},
		{"abcdef", "abcdef\x00"}, {"abcdefg", "abcdefg\x00"}, {high[:7], high[:7] + "\x00"}, {zeros[:7], zeros},
		{"abcdefgh", "abcdefgi"}, {zeros, zeros[:7] + "\x01"}, {"abcdefg\x00", "abcdefg\x01"}, {"abcdefg\x7f", "abcdefg\x80"},
		{"abcdefg\xfe", "abcdefg\xff"}, {"abcdefg\xff", "abcdefh"}, {"abcdef\xff\xff", "abcdeg"}, {"abcdef\xff\xfe", "abcdef\xff\xff"},
		{"abcd\xffgh\xff", "abcd\xffgi"}, {"a" + high[:7], "b"}, {"\x00" + high[:7], "\x01"}, {"\xfe" + high[:7], "\xff"},
		{high[:7] + "\x00", high[:7] + "\x01"}, {high[:7] + "\xfe", high}, {high[:6] + "\xfe\xff", high[:7]}, {zeros[:7] + "\xff", zeros[:6] + "\x01"},
	} {
		if k, ok := Next(of(x.from)); k != of(x.to) || !ok {
			t.Errorf("%d: %q: %v %v", i, x.from, k, ok)
		}
	}
}

func TestNextOfTheGreatest(t *testing.T) {
	if k, ok := Next(of(high)); k != (api.Key{}) || ok {
		t.Error(k, ok)
	}
	for _, s := range texts() {
		if _, ok := Next(of(s)); ok != (s != high) {
			t.Errorf("%q: %v", s, ok)
		}
	}
}

// P3.3: as many as there are different ones, the invalid ones among them.
func TestKinds(t *testing.T) {
	for i, x := range []struct {
		l    []api.Key
		want int
	}{
		{nil, 0}, {[]api.Key{}, 0},
		{keys("a", "b", "a"), 2}, {keys("a"), 1}, {keys(""), 1}, {keys("", ""), 1}, {keys("b", "b", "b"), 1},
		{keys("a", "a\x00", "a\x00\x00", "\x00a", "", "\x00"), 6}, {keys("abcdefgh", "abcdefg", "abcdefgh", high, zeros, zeros), 4},
		{[]api.Key{{N: 9}, {N: 9}}, 1}, {[]api.Key{{N: 9}, {N: 10}, {N: -1}, {N: 9}}, 3},
		{[]api.Key{{}, {N: 9}, {N: -1}, {B: [8]byte{7: 1}}, {}}, 4},
		{[]api.Key{{N: 1, B: [8]byte{97}}, {N: 1, B: [8]byte{97, 1}}, {N: 1, B: [8]byte{97, 2}}, {N: 1, B: [8]byte{97, 1}}}, 3},
		{bad(), len(bad())}, {append(bad(), bad()...), len(bad())},
	} {
		if got := Kinds(x.l); got != x.want {
			t.Error(i, got, x.want)
		}
	}
	l := keys(texts()...)
	if got := Kinds(append(append(l, bad()...), l...)); got != len(l)+len(bad()) {
		t.Error("many", got)
	}
}

// P3.3: the valid ones, each once, from the least on.
func TestOrder(t *testing.T) {
	for i, x := range []struct{ l, want []api.Key }{
		{nil, nil}, {[]api.Key{}, nil},
		{keys("b"), keys("b")}, {keys("b", "a", "b"), keys("a", "b")}, {keys("a", "b"), keys("a", "b")}, {keys("", ""), keys("")},
		{keys("ab", "a\x00", "", "b", "a", high, "\x00", zeros), keys("", "\x00", zeros, "a", "a\x00", "ab", "b", high)},
		{keys("abcdefgh", "abcdefg", "abcdefgh", "abcdefg\x00"), keys("abcdefg", "abcdefg\x00", "abcdefgh")},
		{[]api.Key{{N: 9}}, nil}, {bad(), nil}, {append(bad(), bad()...), nil},
		{[]api.Key{{N: 9}, of("b"), {N: -1}, of("a"), {N: 1, B: [8]byte{97, 1}}, of("b"), {}}, keys("", "a", "b")},
		{[]api.Key{of("a"), {N: 1, B: [8]byte{97, 1}}, {N: 9, B: [8]byte{97}}, of("a")}, keys("a")},
	} {
		if got := Order(x.l); !slices.Equal(got, x.want) {
			t.Error(i, got, x.want)
		}
	}
}

func TestOrderMany(t *testing.T) {
	want := keys(texts()...)
	var l []api.Key
	for i := range want {
		at := i * 1009 % len(want)
		l = append(l, want[at], bad()[i%len(bad())], want[len(want)-1-at])
	}
	for range 5 {
		if got := Order(l); !slices.Equal(got, want) {
			t.Fatal(len(got), len(want))
		}
		slices.Reverse(l)
	}
}

// P3.4: equal by == exactly if the Texts are equal, whatever the keys were made by.
func TestEqual(t *testing.T) {
	l := texts()
	for i := range l {
		a, _ := Of(l[i])
		if again, _ := Of(Text(a)); again != a {
			t.Fatalf("%q", l[i])
		}
		for j := i % 7; j < len(l); j += 7 {
			b, _ := Of(l[j])
			if same := l[i] == l[j]; (a == b) != same || (Text(a) == Text(b)) != same || (Compare(a, b) == 0) != same {
				t.Fatalf("%q %q", l[i], l[j])
			}
		}
	}
}

func TestEqualAfterNext(t *testing.T) {
	for _, x := range []struct{ from, to string }{{"a", "a\x00"}, {"abcdef\xff\xff", "abcdeg"}, {"a" + high[:7], "b"}, {"abcdefgh", "abcdefgi"}} {
		next, _ := Next(of(x.from))
		if made, _ := Of(x.to); next != made || Text(next) != Text(made) || Compare(next, made) != 0 {
			t.Errorf("%q: %v %v", x.from, next, made)
		}
	}
}

// P3.4: no key is between a key and its Next, which is above it and valid.
func TestNothingBetween(t *testing.T) {
	l := texts()
	for i, s := range l {
		if s == high {
			continue
		}
		next, ok := Next(of(s))
		if !ok || !Check(next) || Compare(of(s), next) != -1 || Compare(next, of(s)) != 1 || !before(s, Text(next)) {
			t.Fatalf("%q: %v %v", s, next, ok)
		}
		for j, x := range l {
			if (j > i) != !before(x, Text(next)) {
				t.Fatalf("%q is between %q and its next", x, s)
			}
		}
	}
}

// P3.4: from Next to Next, the keys of full length come in the order of the numbers that their bytes are, and none is left out.
func TestNextCounts(t *testing.T) {
	k := of("abcde\xfe\xfe\x00")
	for n := 0xfefe00; n < 0xffffff; n++ {
		want := of("abcde" + string([]byte{byte(n >> 16), byte(n >> 8), byte(n)}))
		if k != want {
			t.Fatal(n, k, want)
		}
		next, ok := Next(k)
		for range 8 {
			if ok && next.N < 8 { // a shorter key is ahead of those that begin with it
				next, ok = Next(next)
			}
		}
		if !ok {
			t.Fatal(n)
		}
		k = next
	}
}

// R1: of keys that are not valid nothing is said but that the calls end.
func TestBadKeysEnd(t *testing.T) {
	l := append(bad(), of(""), of("a"), of("abcdefgh"), of(high))
	for _, a := range l {
		Next(a)
		for _, b := range l {
			Compare(a, b)
		}
	}
}

// R3: neither the list nor the memory beyond it is changed, and later calls change no earlier result.
func TestNothingChanged(t *testing.T) {
	all := append(append(keys("b", "", "abcdefgh", "a", "b", "a\x00", high), bad()...), keys("z", "y", "a")...)
	was := slices.Clone(all)
	for n := range len(all) + 1 {
		count, got := Kinds(all[:n]), Order(all[:n])
		kept := slices.Clone(got)
		for m := range len(all) + 1 {
			Kinds(all[:m])
			Order(all[:m])
			Kinds(all[m:])
			Order(all[m:])
		}
		if !slices.Equal(all, was) || !slices.Equal(got, kept) || Kinds(all[:n]) != count || !slices.Equal(Order(all[:n]), kept) {
			t.Fatal(n)
		}
	}
}

// What the caller then does to the list, or to the result, is not to be seen in the other one, nor in a later result.
func TestNothingShared(t *testing.T) {
	for _, texts := range [][]string{{"a", "b", "c"}, {"a"}, {"c", "a", "a", "b"}} {
		all := append(keys(texts...), keys("x", "y", "z")...)
		was := slices.Clone(all)
		l := all[:len(texts)]
		got := Order(l)
		want := slices.Clone(got)
		more := append(got, of("q"))
		clear(got)
		clear(more)
		if !slices.Equal(all, was) || !slices.Equal(Order(l), want) {
			t.Error(texts, all)
		}
		got = Order(l)
		clear(all)
		if !slices.Equal(got, want) {
			t.Error(texts, got)
		}
	}
}
