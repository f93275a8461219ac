package msg

import (
	"math"
	"slices"
	"testing"

	"orangery/api"
)

const (
	ones  = "\xff\xff\xff\xff\xff\xff\xff\xff" // the greatest key, and the greatest number
	zeros = "\x00\x00\x00\x00\x00\x00\x00\x00"
	most  = math.MaxUint64
)

// kk is the key with the bytes of s, laid by hand.
func kk(s string) api.Key {
	k := api.Key{N: len(s)}
	for i := range len(s) {
		k.B[i] = s[i]
	}
	return k
}

// vv is the value with the bytes of s, laid by hand.
func vv(s string) api.Value {
	v := api.Value{N: len(s)}
	for i := range len(s) {
		v.B[i] = s[i]
	}
	return v
}

// eight is the value of eight bytes that are the number n, by division.
func eight(n uint64) api.Value {
	v := api.Value{N: 8}
	for i := range 8 {
		v.B[i] = byte(n % 256)
		n /= 256
	}
	return v
}

// worth is the number that the first eight bytes of v are, by multiplication.
func worth(v api.Value) uint64 {
	var n uint64
	for i := min(v.N, 8) - 1; i >= 0; i-- {
		n = n*256 + uint64(v.B[i])
	}
	return n
}

func put(seq uint64, k, v string) api.Msg {
	return api.Msg{Kind: api.Put, Seq: seq, Key: kk(k), Value: vv(v)}
}

func sum(seq uint64, k string, n uint64) api.Msg {
	return api.Msg{Kind: api.Put, Seq: seq, Key: kk(k), Value: eight(n)}
}

func del(seq uint64, k string) api.Msg {
	return api.Msg{Kind: api.Del, Seq: seq, Key: kk(k)}
}

func add(seq uint64, k string, by uint64) api.Msg {
	return api.Msg{Kind: api.Add, Seq: seq, Key: kk(k), By: by}
}

// keyTexts: keys of every length, the shortest and the longest among them, and some that look alike.
func keyTexts() []string {
	l := []string{"a\x00", "\x00", zeros, "b", "é", "\xff\x00"}
	for n := range api.MaxKey + 1 {
		l = append(l, "abcdefgh"[:n], ones[:n])
	}
	return l
}

// valueTexts: values of every length, and some whose numbers are at an edge.
func valueTexts() []string {
	l := []string{"\x00", "\x01", "\x05", "\xff\x00", "\x00\x01", zeros, zeros + zeros, zeros + "\x07", ones + "\x01", "\xfe" + ones[:7], zeros[:7] + "\x80"}
	for n := range api.MaxValue + 1 {
		l = append(l, "0123456789abcdef"[:n], (ones + ones)[:n])
	}
	return l
}

// numbers: the edges of 64 bits, and some that look like nothing.
func numbers() []uint64 {
	return []uint64{0, 1, 2, 3, 5, 255, 256, 1 << 32, 0x0102030405060708, 0xdeadbeefcafef00d, 1<<63 - 1, 1 << 63, 1<<63 + 1, most - 2, most - 1, most}
}

// seqs come in no order: nothing asks for one.
func seqs() []uint64 { return []uint64{7, 0, 1, most, 1 << 63, 2} }

// changes of one key: Puts of all values, Adds of all numbers, and a Del.
func changes(k string) []api.Msg {
	l := []api.Msg{del(3, k)}
	for i, v := range valueTexts() {
		l = append(l, put(seqs()[i%6], k, v))
	}
	for i, n := range numbers() {
		l = append(l, add(seqs()[i%6], k, n), sum(seqs()[(i+1)%6], k, n))
	}
	return append(l, del(most, k))
}

// badKeys: keys that are not valid, by N, by a byte behind the key, or by both.
func badKeys() []api.Key {
	return []api.Key{
		{N: -1}, {N: 9}, {N: 16}, {N: -8}, {N: 256}, {N: math.MaxInt}, {N: math.MinInt}, {N: 1 << 32},
		{B: [8]byte{1}}, {B: [8]byte{7: 1}}, {N: 1, B: [8]byte{97, 98}}, {N: 7, B: [8]byte{1, 2, 3, 4, 5, 6, 7, 8}},
		{N: -1, B: kk(ones).B}, {N: 9, B: kk(ones).B}, {N: math.MinInt, B: kk(ones).B}, {N: math.MaxInt, B: kk(ones).B},
	}
}

// badValues: values that are not valid, in the same ways.
func badValues() []api.Value {
	full := vv(ones + ones).B
	return []api.Value{
		{N: -1}, {N: 17}, {N: 32}, {N: -16}, {N: 256}, {N: math.MaxInt}, {N: math.MinInt}, {N: 1 << 32},
		{B: [16]byte{1}}, {B: [16]byte{15: 1}}, {N: 1, B: [16]byte{97, 98}}, {N: 8, B: [16]byte{8: 1}}, {N: 15, B: full},
		{N: -1, B: full}, {N: 17, B: full}, {N: math.MinInt, B: full}, {N: math.MaxInt, B: full},
	}
}

// bad: messages that are not valid, each for one reason or for several.
func bad() []api.Msg {
	l := []api.Msg{{}, {Seq: 1, Key: kk("a")}, {Key: kk("a"), By: 1}, {Key: kk("a"), Value: vv("x")}}
	for _, kind := range []int{-1, 0, api.Get, 5, 6, 255, 256 + api.Put, 1<<32 + api.Add, -api.Del, math.MaxInt, math.MinInt} {
		l = append(l, api.Msg{Kind: kind}, api.Msg{Kind: kind, Key: kk("a")}, api.Msg{Kind: kind, Key: kk("a"), Value: vv("x")}, api.Msg{Kind: kind, Key: kk("a"), By: 2})
	}
	for _, k := range badKeys() {
		l = append(l, api.Msg{Kind: api.Put, Key: k, Value: vv("x")}, api.Msg{Kind: api.Del, Key: k}, api.Msg{Kind: api.Add, Key: k, By: 2})
	}
	for _, v := range badValues() {
		l = append(l, api.Msg{Kind: api.Put, Key: kk("a"), Value: v})
	}
	// The value of no kind but Put: one of no bytes is the zero value, everything else is a value too many.
	for _, v := range append(badValues(), vv("\x00"), vv("x"), vv(zeros), vv(zeros+zeros), vv("0123456789abcdef"), eight(2)) {
		l = append(l, api.Msg{Kind: api.Del, Key: kk("a"), Value: v}, api.Msg{Kind: api.Add, Key: kk("a"), By: 2, Value: v}, api.Msg{Kind: api.Add, Value: v})
	}
	for _, by := range []uint64{1, 256, 1 << 32, 1 << 63, most} {
		l = append(l, api.Msg{Kind: api.Put, Key: kk("a"), Value: vv("x"), By: by}, api.Msg{Kind: api.Put, By: by}, api.Msg{Kind: api.Del, Key: kk("a"), By: by}, api.Msg{Kind: api.Del, By: by})
	}
	return append(l, api.Msg{Kind: api.Put, Key: api.Key{N: 9}, Value: api.Value{N: 17}, By: 1}, api.Msg{Kind: api.Del, Value: vv("x"), By: 1})
}

// P5.1: the chapter's example, and what each kind has.
func TestSizes(t *testing.T) {
	for i, x := range []struct {
		m    api.Msg
		want int
	}{
		{put(1, "ab", "xyz"), 16},
		{put(0, "", ""), 11}, {put(1, "a", ""), 12}, {put(1, "", "x"), 12}, {put(1, "a", "x"), 13},
		{put(1, "abcdefgh", ""), 19}, {put(1, "", "0123456789abcdef"), 27}, {put(1, "abcdefgh", "0123456789abcdef"), 35},
		{put(1, zeros, zeros+zeros), 35}, {sum(1, "a", 0), 20},
		{del(0, ""), 10}, {del(1, "a"), 11}, {del(1, "abc"), 13}, {del(1, "abcdefgh"), 18}, {del(most, zeros), 18},
		{add(0, "", 0), 18}, {add(1, "", most), 18}, {add(1, "a", 0), 19}, {add(1, "ab", 5), 20}, {add(1, "abcdefgh", most), 26},
	} {
		if !Check(x.m) || Bytes(x.m) != x.want {
			t.Error(i, Check(x.m), Bytes(x.m), x.want)
		}
	}
}

// P5.1: every length of a key with every length of a value; Seq and By and what the bytes are do not count.
func TestSizesAll(t *testing.T) {
	for i, k := range keyTexts() {
		seq := seqs()[i%6]
		for _, v := range valueTexts() {
			if m := put(seq, k, v); !Check(m) || Bytes(m) != 11+len(k)+len(v) {
				t.Errorf("%q %q: %v %d", k, v, Check(m), Bytes(m))
			}
		}
		for _, n := range numbers() {
			if m := add(seq, k, n); !Check(m) || Bytes(m) != 18+len(k) {
				t.Errorf("%q %d: %v %d", k, n, Check(m), Bytes(m))
			}
		}
		if m := del(seq, k); !Check(m) || Bytes(m) != 10+len(k) {
			t.Errorf("%q: %v %d", k, Check(m), Bytes(m))
		}
	}
}

// P5.1: messages that are not valid have no size, whatever Seq they have.
func TestBad(t *testing.T) {
	for i, m := range bad() {
		for _, seq := range seqs() {
			m.Seq = seq
			if Check(m) || Bytes(m) != 0 {
				t.Error(i, m, Check(m), Bytes(m))
			}
		}
	}
}

// P5.1: exactly three kinds are kinds, of the same key.
func TestKinds(t *testing.T) {
	for kind := -300; kind <= 300; kind++ {
		m := api.Msg{Kind: kind, Key: kk("a")}
		size := map[int]int{api.Put: 12, api.Del: 11, api.Add: 19}[kind]
		if Check(m) != (size > 0) || Bytes(m) != size {
			t.Error(kind, Check(m), Bytes(m))
		}
	}
}

// P5.2: the chapter's examples, and each pair of kinds.
func TestComposeExamples(t *testing.T) {
	for i, x := range []struct{ older, newer, want api.Msg }{
		{add(1, "a", 3), add(2, "a", 2), add(2, "a", 5)},
		{del(1, "a"), add(2, "a", 2), sum(2, "a", 2)},
		{put(1, "a", "x"), put(2, "a", "y"), put(2, "a", "y")},
		{del(1, "a"), put(2, "a", "y"), put(2, "a", "y")},
		{add(1, "a", 3), put(2, "a", "y"), put(2, "a", "y")},
		{put(1, "a", "x"), del(2, "a"), del(2, "a")},
		{del(1, "a"), del(2, "a"), del(2, "a")},
		{add(1, "a", 3), del(2, "a"), del(2, "a")},
		{put(1, "a", "\x05"), add(2, "a", 3), sum(2, "a", 8)},
		{put(1, "a", "1"), add(2, "a", 1), sum(2, "a", 50)},

		// The value is of eight bytes whatever it was, and be the number 0.
		{put(1, "a", ""), add(2, "a", 0), sum(2, "a", 0)},
		{put(1, "a", ""), add(2, "a", 7), sum(2, "a", 7)},
		{del(1, "a"), add(2, "a", 0), sum(2, "a", 0)},
		{put(1, "a", "0123456789abcdef"), add(2, "a", 1), put(2, "a", "11234567")},
		{put(1, "a", zeros+ones), add(2, "a", 1), sum(2, "a", 1)},

		// Sums past the greatest number begin anew at 0.
		{add(1, "a", most), add(2, "a", 1), add(2, "a", 0)},
		{add(1, "a", most), add(2, "a", 3), add(2, "a", 2)},
		{add(1, "a", most), add(2, "a", most), add(2, "a", most-1)},
		{add(1, "a", 1<<63), add(2, "a", 1<<63), add(2, "a", 0)},
		{add(1, "a", 0), add(2, "a", most), add(2, "a", most)},
		{put(1, "a", ones), add(2, "a", 1), sum(2, "a", 0)},
		{put(1, "a", ones+ones), add(2, "a", 3), sum(2, "a", 2)},
		{put(1, "a", ones[:7]), add(2, "a", 1), sum(2, "a", 1<<56)},
		{sum(1, "a", 5), add(2, "a", most), sum(2, "a", 4)},
		{del(1, "a"), add(2, "a", most), sum(2, "a", most)},

		// The Seq is that of the newer one, be it the less.
		{add(9, "a", 3), add(2, "a", 2), add(2, "a", 5)},
		{put(9, "a", "\x05"), add(0, "a", 3), sum(0, "a", 8)},
		{del(most, "a"), add(0, "a", 3), sum(0, "a", 3)},
		{put(9, "a", "x"), put(2, "a", "y"), put(2, "a", "y")},
		{put(0, "a", "x"), del(most, "a"), del(most, "a")},

		// Keys of no bytes and of eight are keys as others are.
		{add(1, "", 3), add(2, "", 2), add(2, "", 5)},
		{put(1, "", "\x05"), add(2, "", 3), sum(2, "", 8)},
		{del(1, "abcdefgh"), add(2, "abcdefgh", 3), sum(2, "abcdefgh", 3)},
		{add(1, ones, 3), add(2, ones, 2), add(2, ones, 5)},
	} {
		if got := Compose(x.older, x.newer); got != x.want {
			t.Error(i, got, x.want)
		}
	}
}

// P5.2: of messages of different keys, be they ever so alike, the newer one is left as it is.
func TestComposeOtherKeys(t *testing.T) {
	for _, x := range []struct{ older, newer string }{
		{"a", "b"}, {"b", "a"}, {"", "a"}, {"a", ""}, {"a", "a\x00"}, {"a\x00", "a"}, {"", "\x00"}, {"\x00", ""}, {zeros, zeros[:7]},
		{"abcdefgh", "abcdefgi"}, {"abcdefgh", "bbcdefgh"}, {"abcdefgh", "abcdefg"}, {ones, ones[:7]}, {ones[:7], ones},
	} {
		for _, older := range changes(x.older) {
			for _, newer := range changes(x.newer) {
				if got := Compose(older, newer); got != newer {
					t.Fatalf("%q %q: %v %v: %v", x.older, x.newer, older, newer, got)
				}
			}
		}
	}
}

// composed is what P5.2 says of two messages of one key.
func composed(older, newer api.Msg) api.Msg {
	if newer.Kind != api.Add {
		return newer
	}
	out := api.Msg{Seq: newer.Seq, Key: newer.Key}
	if older.Kind == api.Add {
		out.Kind, out.By = api.Add, older.By+newer.By
		return out
	}
	out.Kind, out.Value = api.Put, eight(worth(older.Value)+newer.By)
	if older.Kind == api.Del {
		out.Value = eight(newer.By)
	}
	return out
}

func TestComposeAll(t *testing.T) {
	for _, k := range []string{"", "a", "a\x00", "abcdefgh", ones} {
		for _, older := range changes(k) {
			for _, newer := range changes(k) {
				got := Compose(older, newer)
				if got != composed(older, newer) || !Check(got) {
					t.Fatal(older, newer, got)
				}
			}
		}
	}
}

// P5.2: what each kind makes of a value, and of none.
func TestApplyExamples(t *testing.T) {
	for i, x := range []struct {
		v     string
		there bool
		m     api.Msg
		want  api.Value
		ok    bool
	}{
		{"old", true, put(1, "a", "new"), vv("new"), true},
		{"old", false, put(1, "a", "new"), vv("new"), true},
		{"", false, put(1, "a", ""), vv(""), true},
		{"old", true, put(1, "a", ""), vv(""), true},
		{"", true, put(1, "a", "0123456789abcdef"), vv("0123456789abcdef"), true},
		{"0123456789abcdef", true, put(1, "", "x"), vv("x"), true},

		{"old", true, del(1, "a"), api.Value{}, false},
		{"old", false, del(1, "a"), api.Value{}, false},
		{"", true, del(1, ""), api.Value{}, false},
		{"", false, del(1, "abcdefgh"), api.Value{}, false},
		{"0123456789abcdef", true, del(1, "a"), api.Value{}, false},

		{"\x05", true, add(1, "a", 3), eight(8), true},
		{"\x05", false, add(1, "a", 3), eight(3), true},
		{"", true, add(1, "a", 0), eight(0), true},
		{"", false, add(1, "a", 0), eight(0), true},
		{"", false, add(1, "a", most), eight(most), true},
		{"1", true, add(1, "a", 1), eight(50), true},
		{"0123456789abcdef", true, add(1, "abcdefgh", 1), vv("11234567"), true},
		{zeros + ones, true, add(1, "a", 0), eight(0), true},
		{ones, true, add(1, "a", 1), eight(0), true},
		{ones, true, add(1, "a", most), eight(most - 1), true},
		{ones + ones, true, add(1, "", 3), eight(2), true},
		{ones, false, add(1, "a", 1), eight(1), true},
		{zeros[:7] + "\x80", true, add(1, "a", 1<<63), eight(0), true},
	} {
		if v, ok := Apply(vv(x.v), x.there, x.m); v != x.want || ok != x.ok {
			t.Error(i, v, ok)
		}
	}
}

func TestApplyAll(t *testing.T) {
	for _, k := range []string{"", "a", ones} {
		for _, m := range changes(k) {
			for _, s := range valueTexts() {
				with := map[int]api.Value{api.Put: m.Value, api.Add: eight(worth(vv(s)) + m.By)}[m.Kind]
				if v, ok := Apply(vv(s), true, m); v != with || ok != (m.Kind != api.Del) {
					t.Fatalf("%q %v: %v %v", s, m, v, ok)
				}
				without := map[int]api.Value{api.Put: m.Value, api.Add: eight(m.By)}[m.Kind]
				if v, ok := Apply(vv(s), false, m); v != without || ok != (m.Kind != api.Del) {
					t.Fatalf("none %q %v: %v %v", s, m, v, ok)
				}
			}
		}
	}
}

// P5.2: the value of a key that has none is ignored, be it not even a value.
func TestApplyIgnores(t *testing.T) {
	for _, m := range changes("a") {
		want, there := Apply(api.Value{}, false, m)
		for _, v := range append(badValues(), vv("x"), eight(most), vv(ones+ones)) {
			if got, ok := Apply(v, false, m); got != want || ok != there {
				t.Fatal(v, m, got, ok)
			}
		}
	}
}

// P5.3: the composed message does what both do one after the other.
func TestComposeThenApply(t *testing.T) {
	l := changes("a")
	for _, older := range l {
		for _, newer := range l {
			both := Compose(older, newer)
			for _, s := range valueTexts() {
				for _, there := range []bool{false, true} {
					between, still := Apply(vv(s), there, older)
					want, ok := Apply(between, still, newer)
					if got, has := Apply(vv(s), there, both); got != want || has != ok {
						t.Fatalf("%q %v %v %v: %v %v", s, there, older, newer, got, has)
					}
				}
			}
		}
	}
}

// P5.3: of three messages of one key it is the same which two are composed first.
func TestComposeAssociative(t *testing.T) {
	l := changes("abcdefgh")
	for _, a := range l {
		for _, b := range l {
			for _, c := range l {
				if first, last := Compose(Compose(a, b), c), Compose(a, Compose(b, c)); first != last {
					t.Fatal(a, b, c, first, last)
				}
			}
		}
	}
}

// P5.3: many messages, composed from either side, do what they do one by one.
func TestComposeMany(t *testing.T) {
	l := changes("a")
	for from := range l {
		forth, back := l[from], l[(from+19*13)%len(l)]
		v, there := Apply(vv("start"), true, forth)
		for i := 1; i < 20; i++ {
			next := l[(from+i*13)%len(l)]
			forth = Compose(forth, next)
			v, there = Apply(v, there, next)
			back = Compose(l[(from+(19-i)*13)%len(l)], back)
		}
		if got, ok := Apply(vv("start"), true, forth); forth != back || got != v || ok != there {
			t.Fatal(from, forth, back, got, ok, v, there)
		}
	}
}

// R1: of messages and values that are not valid nothing is said but that the calls end.
func TestBadEnd(t *testing.T) {
	l := append(bad(), changes("a")...)
	for _, a := range l {
		for _, b := range l {
			Compose(a, b)
		}
		for _, v := range append(badValues(), vv(""), vv("x"), eight(most)) {
			Apply(v, true, a)
			Apply(v, false, a)
		}
	}
}

// R3, R4: no call changes what was handed in, or the result of an earlier call; the same call has the same result again.
func TestNothingChanged(t *testing.T) {
	type results struct {
		valid                    bool
		size                     int
		ahead, behind, with      api.Msg
		value, onto, other, none api.Value
		has, still, anew, lone   bool
	}
	all := append(bad(), changes("a")...)
	values := append(badValues(), vv(""), vv("x"), vv(ones), vv("0123456789abcdef"))
	others := []api.Msg{put(1, "a", "\x05"), del(2, "a"), add(3, "a", most), add(4, "b", 1)}
	call := func(i int) (r results) {
		m, v, other := &all[i], &values[i%len(values)], &others[i%len(others)]
		r.valid, r.size = Check(*m), Bytes(*m)
		r.ahead, r.behind, r.with = Compose(*m, *other), Compose(*other, *m), Compose(*m, *m)
		r.value, r.has = Apply(*v, true, *m)
		r.onto, r.still = Apply(*v, true, *other)
		r.other, r.anew = Apply(*v, false, *other)
		r.none, r.lone = Apply(*v, false, *m)
		return r
	}
	wasAll, wasValues, wasOthers := slices.Clone(all), slices.Clone(values), slices.Clone(others)
	var first []results
	for i := range all {
		first = append(first, call(i))
	}
	kept := slices.Clone(first)
	for i := range all {
		if again := call(i); again != kept[i] {
			t.Fatal(all[i], again, kept[i])
		}
	}
	if !slices.Equal(all, wasAll) || !slices.Equal(values, wasValues) || !slices.Equal(others, wasOthers) || !slices.Equal(first, kept) {
		t.Error("changed")
	}
}

// What the caller then does to a result is not to be seen in what was handed in, nor in a later result.
func TestNothingShared(t *testing.T) {
	for _, older := range changes("a") {
		for _, newer := range changes("a") {
			wasOlder, wasNewer := older, newer
			got := Compose(older, newer)
			clear(got.Key.B[:])
			clear(got.Value.B[:])
			got.Key.N, got.Value.N, got.By = 5, 5, 5
			if older != wasOlder || newer != wasNewer || Compose(older, newer) != composed(older, newer) {
				t.Fatal(older, newer)
			}
		}
		was := older
		v, has := Apply(vv("x"), true, older)
		want := v
		clear(v.B[:])
		v.N = 5
		if again, still := Apply(vv("x"), true, older); older != was || again != want || still != has {
			t.Fatal(older)
		}
	}
}
