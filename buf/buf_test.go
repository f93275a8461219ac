package buf

import (
	"maps"
	"math"
	"slices"
	"testing"

	"orangery/api"
	"orangery/key"
	"orangery/msg"
	"orangery/value"
)

const (
	ones  = "\xff\xff\xff\xff\xff\xff\xff\xff" // the greatest key
	big   = "0123456789abcdef"                 // of a Put of 28 bytes, if the key has one
	most  = math.MaxUint64
	least = math.MinInt
)

func kk(s string) api.Key {
	k, _ := key.Of(s)
	return k
}

func put(seq uint64, k, v string) api.Msg {
	x, _ := value.Of(v)
	return api.Msg{Kind: api.Put, Seq: seq, Key: kk(k), Value: x}
}

func sum(seq uint64, k string, n uint64) api.Msg {
	return api.Msg{Kind: api.Put, Seq: seq, Key: kk(k), Value: value.From(n)}
}

func del(seq uint64, k string) api.Msg {
	return api.Msg{Kind: api.Del, Seq: seq, Key: kk(k)}
}

func add(seq uint64, k string, by uint64) api.Msg {
	return api.Msg{Kind: api.Add, Seq: seq, Key: kk(k), By: by}
}

// texts of keys, ascending: the least and the greatest, and some that stand side by side.
func texts() []string {
	return []string{"", "\x00", "a", "a\x00", "ab", "b", "b\x00\x00", ones}
}

// change is a message of the key k, of another kind for each of three i.
func change(i int, k string) api.Msg {
	return []api.Msg{put(uint64(i), k, big[:i%17]), del(uint64(i), k), add(uint64(i), k, uint64(i))}[i%3]
}

// buffers: one for each choice among the texts, with messages of all kinds.
func buffers() [][]api.Msg {
	var out [][]api.Msg
	for set := range 1 << len(texts()) {
		var l []api.Msg
		for i, s := range texts() {
			if set>>i&1 == 1 {
				l = append(l, change(set+i, s))
			}
		}
		out = append(out, l)
	}
	return out
}

// long is a buffer of n messages, at most 256.
func long(n int) []api.Msg {
	var l []api.Msg
	for i := range n {
		l = append(l, change(i, string([]byte{'k', byte(i)})))
	}
	return l
}

// ladders: lists of pivots, one for each choice among the texts.
func ladders() [][]api.Key {
	var out [][]api.Key
	for _, l := range buffers() {
		var pivots []api.Key
		for _, m := range l {
			pivots = append(pivots, m.Key)
		}
		out = append(out, pivots)
	}
	return out
}

// badMsgs: messages that are not valid, by the kind, the key, the value, or the number.
func badMsgs() []api.Msg {
	return []api.Msg{
		{}, {Kind: api.Get, Key: kk("a")}, {Kind: -1, Key: kk("a")}, {Kind: math.MaxInt, Key: kk("a")},
		{Kind: api.Del, Key: api.Key{N: -1}}, {Kind: api.Del, Key: api.Key{N: 9}}, {Kind: api.Add, Key: api.Key{N: least}}, {Kind: api.Put, Key: api.Key{N: 1, B: [8]byte{97, 98}}},
		{Kind: api.Put, Key: kk("a"), Value: api.Value{N: 17}}, {Kind: api.Put, Key: kk("a"), Value: api.Value{N: math.MaxInt}}, {Kind: api.Put, Key: kk("a"), By: 1},
		{Kind: api.Del, Key: kk("a"), Value: api.Value{N: 1}}, {Kind: api.Del, Key: kk("a"), By: 1}, {Kind: api.Add, Key: kk("a"), Value: api.Value{N: 1}},
	}
}

// badLists: keys that do not ascend, keys that come twice, messages that are not valid, alone and among others.
func badLists() [][]api.Msg {
	l := [][]api.Msg{
		{del(1, "b"), del(2, "a")}, {del(2, "a"), del(1, "a")}, {put(1, "a", "x"), put(1, "a", "x")}, {add(1, "a", 1), del(2, "a")},
		{del(1, ""), del(2, "")}, {del(1, "\x00"), del(2, "")}, {del(1, "a\x00"), del(2, "a")}, {del(1, "ab"), del(2, "a")}, {del(1, ones), del(2, ones[:7])},
		{del(1, "a"), del(2, "b"), del(3, "a")}, {del(1, "b"), del(2, "c"), del(3, "a")}, {del(1, "a"), del(2, "c"), del(3, "b")}, {del(1, "a"), del(2, "b"), del(3, "b")},
		{del(1, "b"), del(2, "a"), del(3, "c")}, {del(1, "c"), del(2, "b"), del(3, "a")}, {del(1, "\x80"), del(2, "a")},
	}
	for _, m := range badMsgs() {
		l = append(l, []api.Msg{m}, []api.Msg{m, del(1, "c")}, []api.Msg{del(1, ""), m}, []api.Msg{del(1, ""), m, del(2, "c")}, []api.Msg{m, m})
	}
	return l
}

// P6.1: lists of messages whose keys ascend are valid, in whatever order their Seqs are.
func TestCheck(t *testing.T) {
	for i, l := range append(buffers(), nil, []api.Msg{}, []api.Msg{del(3, ""), put(1, "a", "x"), add(2, "b", 7)}, []api.Msg{del(most, "a"), del(0, "b")}, []api.Msg{del(1, "a"), del(1, "b")}) {
		if !Check(l) {
			t.Error(i, l)
		}
	}
	for i, l := range badLists() {
		if Check(l) {
			t.Error(i, l)
		}
	}
}

// P6.1: of all lists of four texts just those are valid that ascend at each step.
func TestCheckOrder(t *testing.T) {
	for _, a := range texts() {
		for _, b := range texts() {
			for _, c := range texts() {
				for _, d := range texts() {
					l := []api.Msg{change(1, a), change(2, b), change(3, c), change(4, d)}
					if Check(l) != (a < b && b < c && c < d) {
						t.Fatalf("%q %q %q %q: %v", a, b, c, d, Check(l))
					}
				}
			}
		}
	}
}

// P6.1: a message that is not valid is seen wherever it stands, in a list that is long, too.
func TestCheckEachPlace(t *testing.T) {
	if !Check(long(100)) {
		t.Fatal("long")
	}
	for i := range 100 {
		l := long(100)
		l[i].Kind = 0
		if Check(l) {
			t.Error("kind", i)
		}
		l = long(100)
		l[i].Value.N = 17
		if Check(l) {
			t.Error("value", i)
		}
		l = long(100)
		if l = slices.Insert(l, i, l[i]); Check(l) {
			t.Error("twice", i)
		}
		if l = long(100); i > 0 {
			l[i-1], l[i] = l[i], l[i-1]
			if Check(l) {
				t.Error("swapped", i)
			}
		}
	}
}

// P6.1: the sizes of all messages together; those that are not valid have none.
func TestBytes(t *testing.T) {
	for i, x := range []struct {
		l    []api.Msg
		want int
	}{
		{nil, 0}, {[]api.Msg{}, 0}, {[]api.Msg{del(1, "")}, 10}, {[]api.Msg{put(1, "ab", "xyz")}, 16}, {[]api.Msg{add(1, "a", 0)}, 19},
		{[]api.Msg{del(3, ""), put(1, "a", "x"), add(2, "b", 7)}, 10 + 13 + 19},
		{[]api.Msg{put(1, "a", big), put(2, "b", big), put(3, "c", big), put(4, "d", big)}, 112},
		{[]api.Msg{put(1, "abcdefgh", big), add(2, ones, most)}, 35 + 26},

		{[]api.Msg{del(1, "a"), {}}, 11}, {[]api.Msg{{}, del(1, "a")}, 11}, {[]api.Msg{{}, {}}, 0}, {badMsgs(), 0},
		{[]api.Msg{del(1, "b"), del(2, "a")}, 22}, {[]api.Msg{del(1, "a"), del(1, "a"), del(1, "a")}, 33},
		{slices.Concat(badMsgs(), []api.Msg{add(1, "b", 1)}, badMsgs(), []api.Msg{del(1, "a")}), 19 + 11},
		{slices.Repeat([]api.Msg{put(1, "abcdefgh", big)}, 1000), 35000},
	} {
		if got := Bytes(x.l); got != x.want {
			t.Error(i, got, x.want)
		}
	}
	for _, l := range append(buffers(), badLists()...) {
		want := 0
		for _, m := range l {
			want += msg.Bytes(m)
		}
		if got := Bytes(l); got != want {
			t.Error(l, got, want)
		}
	}
}

// P6.2: the message of each key that is there, and none of those between, below and above.
func TestFind(t *testing.T) {
	for _, l := range buffers() {
		for _, s := range append(texts(), "a\x00\x00", "aa", "\x01", "abcdefgh", "c", "b\x00", ones[:7], "\x00\x00") {
			var want api.Msg
			found := false
			for _, m := range l {
				if key.Text(m.Key) == s {
					want, found = m, true
				}
			}
			if got, ok := Find(l, kk(s)); got != want || ok != found {
				t.Fatalf("%v %q: %v %v", l, s, got, ok)
			}
		}
	}
}

// P6.2: in buffers of every length each message, the first and the last among them, is found.
func TestFindEachPlace(t *testing.T) {
	var l []api.Msg
	for i := range 60 {
		for j, m := range l {
			if got, ok := Find(l, m.Key); got != m || !ok {
				t.Fatal(i, j, got, ok)
			}
			if got, ok := Find(l, kk(string([]byte{byte(2*j + 2)}))); got != (api.Msg{}) || ok {
				t.Fatal(i, j, got, ok)
			}
		}
		if got, ok := Find(l, kk("")); got != (api.Msg{}) || ok {
			t.Fatal(i, got, ok)
		}
		if got, ok := Find(l, kk(ones)); got != (api.Msg{}) || ok {
			t.Fatal(i, got, ok)
		}
		l = append(l, change(i, string([]byte{byte(2*i + 1)})))
	}
}

// P6.2: the chapter's example, places at both ends and between, and what stands for two messages of one key.
func TestAddExamples(t *testing.T) {
	l := []api.Msg{del(1, "b"), add(2, "d", 3), put(3, "f", "\x05")}
	b, d, f := l[0], l[1], l[2]
	for i, x := range []struct {
		l    []api.Msg
		m    api.Msg
		want []api.Msg
	}{
		{[]api.Msg{add(1, "a", 3)}, add(2, "a", 2), []api.Msg{add(2, "a", 5)}},
		{nil, del(1, "a"), []api.Msg{del(1, "a")}}, {[]api.Msg{}, put(1, "", ""), []api.Msg{put(1, "", "")}},

		{l, del(4, "a"), []api.Msg{del(4, "a"), b, d, f}}, {l, add(4, "", 1), []api.Msg{add(4, "", 1), b, d, f}},
		{l, put(4, "c", "x"), []api.Msg{b, put(4, "c", "x"), d, f}}, {l, del(4, "e"), []api.Msg{b, d, del(4, "e"), f}},
		{l, add(4, "g", 1), []api.Msg{b, d, f, add(4, "g", 1)}}, {l, del(4, ones), []api.Msg{b, d, f, del(4, ones)}},
		{l, del(4, "b\x00"), []api.Msg{b, del(4, "b\x00"), d, f}}, {l, del(4, "f\x00"), []api.Msg{b, d, f, del(4, "f\x00")}},

		{l, put(4, "b", "x"), []api.Msg{put(4, "b", "x"), d, f}}, {l, del(4, "b"), []api.Msg{del(4, "b"), d, f}}, {l, add(4, "b", 7), []api.Msg{sum(4, "b", 7), d, f}},
		{l, put(4, "d", "x"), []api.Msg{b, put(4, "d", "x"), f}}, {l, del(4, "d"), []api.Msg{b, del(4, "d"), f}}, {l, add(4, "d", 7), []api.Msg{b, add(4, "d", 10), f}},
		{l, put(4, "f", ""), []api.Msg{b, d, put(4, "f", "")}}, {l, del(4, "f"), []api.Msg{b, d, del(4, "f")}}, {l, add(4, "f", 7), []api.Msg{b, d, sum(4, "f", 12)}},
		{l, add(4, "d", most), []api.Msg{b, add(4, "d", 2), f}}, {l, add(4, "f", most), []api.Msg{b, d, sum(4, "f", 4)}},
		{l, add(0, "d", 7), []api.Msg{b, add(0, "d", 10), f}}, // the Seq is that of the one that is added, be it the less
	} {
		if got := Add(x.l, x.m); !slices.Equal(got, x.want) {
			t.Error(i, got, x.want)
		}
	}
}

// added is what P6.2 says of l with one message more, by a map and a sort.
func added(l []api.Msg, m api.Msg) []api.Msg {
	of := map[string]api.Msg{}
	for _, x := range l {
		of[key.Text(x.Key)] = x
	}
	s := key.Text(m.Key)
	if older, ok := of[s]; ok {
		m = msg.Compose(older, m)
	}
	of[s] = m
	var out []api.Msg
	for _, s := range slices.Sorted(maps.Keys(of)) {
		out = append(out, of[s])
	}
	return out
}

func TestAddAll(t *testing.T) {
	for i, l := range buffers() {
		for j, s := range append(texts(), "aa", "abcdefgh", "c") {
			for kind := range 3 {
				m := change(300+3*(i+j)+kind, s)
				if got := Add(l, m); !slices.Equal(got, added(l, m)) || !Check(got) {
					t.Fatal(l, m, got)
				}
			}
		}
	}
}

// P6.2: messages are added in their order, be it that of their keys or not, and be it often the same key.
func TestAllExamples(t *testing.T) {
	for i, x := range []struct{ l, more, want []api.Msg }{
		{nil, nil, nil}, {[]api.Msg{}, []api.Msg{}, nil},
		{[]api.Msg{del(1, "a")}, nil, []api.Msg{del(1, "a")}}, {nil, []api.Msg{del(1, "a")}, []api.Msg{del(1, "a")}},
		{[]api.Msg{add(1, "a", 3)}, []api.Msg{add(2, "a", 2), del(4, "b")}, []api.Msg{add(2, "a", 5), del(4, "b")}},
		{[]api.Msg{del(1, "b"), del(2, "d")}, []api.Msg{add(5, "a", 1), add(6, "b", 2), add(7, "c", 3), add(8, "d", 4), add(9, "e", 5)}, []api.Msg{add(5, "a", 1), sum(6, "b", 2), add(7, "c", 3), sum(8, "d", 4), add(9, "e", 5)}},
		{[]api.Msg{del(1, "a")}, []api.Msg{del(4, "d"), del(3, "c"), del(2, "b")}, []api.Msg{del(1, "a"), del(2, "b"), del(3, "c"), del(4, "d")}},
		{nil, []api.Msg{put(1, "a", "\x01"), add(2, "a", 1)}, []api.Msg{sum(2, "a", 2)}},
		{nil, []api.Msg{add(2, "a", 1), put(1, "a", "\x01")}, []api.Msg{put(1, "a", "\x01")}},
		{[]api.Msg{put(1, "a", "\x01")}, []api.Msg{add(2, "a", 2), add(3, "a", 3), del(4, "a"), add(5, "a", 5), add(6, "a", 6)}, []api.Msg{sum(6, "a", 11)}},
		{nil, []api.Msg{add(1, "b", 1), add(2, "a", 1), add(3, "b", 1), add(4, "a", 1), add(5, "b", 1)}, []api.Msg{add(4, "a", 2), add(5, "b", 3)}},
	} {
		if got := All(x.l, x.more); !slices.Equal(got, x.want) {
			t.Error(i, got, x.want)
		}
	}
}

func TestAllByAdd(t *testing.T) {
	all := buffers()
	for i, l := range all {
		for j := 1; j < len(all); j += 6 {
			more := slices.Concat(all[(i+j)%len(all)], all[j])
			want := l
			for _, m := range more {
				want = added(want, m)
			}
			if got := All(l, more); !slices.Equal(got, want) || !Check(got) {
				t.Fatal(l, more, got)
			}
		}
		var twice []api.Msg
		for _, m := range l {
			twice = append(twice, msg.Compose(m, m))
		}
		if got := All(l, l); !slices.Equal(got, twice) { // one list as both
			t.Fatal(l, got)
		}
	}
}

// P6.3: the chapter's example, the pivots themselves and keys beside them, and children that there are not.
func TestPartExamples(t *testing.T) {
	l := []api.Msg{del(1, ""), del(2, "\xff"), del(3, "`\xff"), del(4, "a"), del(5, "a\x00"), del(6, "d"), del(7, "d\xff\xff\xff\xff\xff\xff\xff"), del(8, "e"), del(9, "e\xff"), del(10, "f"), del(11, ones)}
	l = All(nil, l)
	pivots := []api.Key{kk("a"), kk("e"), kk("f")}
	for i, want := range map[int][]uint64{
		0: {1, 3}, 1: {4, 5, 6, 7}, 2: {8, 9}, 3: {10, 2, 11},
		-1: nil, -2: nil, 4: nil, 5: nil, 1 << 32: nil, least: nil, least + 1: nil, math.MaxInt: nil, math.MaxInt - 1: nil,
	} {
		var seqs []uint64
		for _, m := range Part(l, pivots, i) {
			seqs = append(seqs, m.Seq)
		}
		if !slices.Equal(seqs, want) {
			t.Error(i, seqs, want)
		}
	}
	if got := Part([]api.Msg{del(1, "a"), del(2, "d")}, pivots, 1); !slices.Equal(got, []api.Msg{del(1, "a"), del(2, "d")}) {
		t.Error(got)
	}
	for _, i := range []int{0, -1, 1, 2, least, math.MaxInt} { // no pivots: one child, which has all
		for _, none := range [][]api.Key{nil, {}} {
			if got := Part(l, none, i); i == 0 && !slices.Equal(got, l) || i != 0 && len(got) != 0 {
				t.Error(i, got)
			}
			if len(Part(nil, none, i)) != 0 {
				t.Error(i)
			}
		}
	}
	for i := -1; i < 5; i++ {
		if len(Part(nil, pivots, i)) != 0 || len(Part([]api.Msg{}, pivots, i)) != 0 {
			t.Error(i)
		}
	}
}

// parted is what P6.3 says goes to child i, message by message.
func parted(l []api.Msg, pivots []api.Key, i int) []api.Msg {
	var out []api.Msg
	for _, m := range l {
		s := key.Text(m.Key)
		if i >= 0 && i <= len(pivots) && (i == 0 || s >= key.Text(pivots[i-1])) && (i == len(pivots) || s < key.Text(pivots[i])) {
			out = append(out, m)
		}
	}
	return out
}

func TestPartAll(t *testing.T) {
	for _, l := range buffers() {
		for _, pivots := range ladders() {
			for i := -2; i < len(pivots)+3; i++ {
				if got := Part(l, pivots, i); !slices.Equal(got, parted(l, pivots, i)) {
					t.Fatal(l, pivots, i, got)
				}
			}
		}
	}
}

// P6.3: the chapter's example, just as many bytes as may be, and one more.
func TestBatchExamples(t *testing.T) {
	four := []api.Msg{put(1, "a", big), put(2, "b", big), put(3, "c", big), put(4, "d", big)}
	adds := []api.Msg{add(1, "a", 1), add(2, "b", 1), add(3, "c", 1), add(4, "d", 1)} // 76 bytes
	var dels []api.Msg                                                                // of 10 bytes, and then of 11
	for _, s := range []string{"", "a", "b", "c", "d", "e", "f", "g", "h", "i"} {
		dels = append(dels, del(1, s))
	}
	for i, x := range []struct {
		l, behind []api.Msg
		want      int
	}{
		{nil, nil, 0}, {[]api.Msg{}, nil, 0}, {nil, []api.Msg{del(1, "")}, 1}, {nil, []api.Msg{put(1, "abcdefgh", big)}, 1},
		{four, nil, 3}, {four[:3], nil, 3}, {four[:2], nil, 2},
		{four[:3], []api.Msg{del(4, "cd")}, 4},  // 96
		{four[:3], []api.Msg{del(4, "cde")}, 3}, // 97
		{four[:3], []api.Msg{del(4, "cd"), del(5, "d")}, 4},
		{four[:2], []api.Msg{put(3, "cc", big), del(4, "d")}, 4},                   // 96
		{four[:2], []api.Msg{put(3, "cc", big), put(4, "d", "")}, 3},               // 97
		{four[:2], []api.Msg{put(3, "cc", big), put(4, "d", ""), del(5, "dd")}, 3}, // one that is small enough does not pass one that is not
		{adds, []api.Msg{add(5, "dd", 1)}, 5},                                      // 96
		{adds, []api.Msg{add(5, "ddd", 1)}, 4},                                     // 97
		{adds, []api.Msg{add(5, "ddd", 1), del(6, "e")}, 4},
		{dels, nil, 8}, // 87, and 98 with the ninth
		{dels[:7], []api.Msg{del(8, "ggggg"), del(9, "h")}, 8},
		{dels[:7], []api.Msg{put(8, "g", "12345678"), del(9, "h")}, 8},         // 96
		{dels[:7], []api.Msg{put(8, "g", "123456789"), del(9, "h")}, 7},        // 97
		{dels[:7], []api.Msg{add(8, "gg", 1), del(9, "h")}, 8},                 // 96
		{dels[:7], []api.Msg{add(8, "ggg", 1), del(9, "h"), del(10, "hh")}, 7}, // 97
	} {
		l := slices.Concat(x.l, x.behind)
		if got := Batch(l); !slices.Equal(got, l[:x.want]) {
			t.Error(i, len(got), x.want)
		}
	}
}

func TestBatchAll(t *testing.T) {
	for _, l := range append(buffers(), long(200)) {
		for from := range len(l) + 1 {
			rest := l[from:]
			want, size := 0, 0
			for want < len(rest) && size+msg.Bytes(rest[want]) <= 96 {
				size += msg.Bytes(rest[want])
				want++
			}
			if got := Batch(rest); !slices.Equal(got, rest[:want]) {
				t.Fatal(rest, len(got), want)
			}
		}
	}
}

// P6.3: what has gone is gone by its key alone, and what else has gone is no matter.
func TestLessExamples(t *testing.T) {
	l := []api.Msg{put(1, "a", "x"), del(2, "b"), add(3, "c", 1), del(4, "d")}
	for i, x := range []struct{ l, gone, want []api.Msg }{
		{l, nil, l}, {l, []api.Msg{}, l}, {nil, l, nil}, {[]api.Msg{}, l, nil}, {nil, nil, nil},
		{l, l, nil}, {l, l[:1], l[1:]}, {l, l[3:], l[:3]}, {l, l[1:3], []api.Msg{l[0], l[3]}}, {l[1:3], l, nil}, {l[1:], l[:2], l[2:]},
		{l, []api.Msg{add(9, "a", 7)}, l[1:]}, {l, []api.Msg{put(0, "b", big), del(most, "d")}, []api.Msg{l[0], l[2]}},
		{l, []api.Msg{del(1, ""), del(2, "a\x00"), del(3, "bb"), del(4, "e"), del(5, ones)}, l},
		{l, []api.Msg{del(1, ""), del(2, "a"), del(3, "bb"), del(4, "c"), del(5, ones)}, []api.Msg{l[1], l[3]}},
		{[]api.Msg{del(1, ""), del(2, "\x00")}, []api.Msg{del(1, "")}, []api.Msg{del(2, "\x00")}},
		{[]api.Msg{del(1, ""), del(2, "\x00")}, []api.Msg{del(2, "\x00")}, []api.Msg{del(1, "")}},
	} {
		if got := Less(x.l, x.gone); !slices.Equal(got, x.want) {
			t.Error(i, got, x.want)
		}
	}
}

func TestLessAll(t *testing.T) {
	all := buffers()
	for _, l := range all {
		for _, gone := range all {
			var want []api.Msg
			for _, m := range l {
				if !slices.ContainsFunc(gone, func(g api.Msg) bool { return key.Text(g.Key) == key.Text(m.Key) }) {
					want = append(want, m)
				}
			}
			if got := Less(l, gone); !slices.Equal(got, want) {
				t.Fatal(l, gone, got)
			}
		}
	}
}

// P6.4: all parts together are the buffer, each message in one of them, for any pivots.
func TestPartsTogether(t *testing.T) {
	for _, l := range append(buffers(), long(100)) {
		for _, pivots := range ladders() {
			var all []api.Msg
			rest := l
			for i := range len(pivots) + 1 {
				part := Part(l, pivots, i)
				all = append(all, part...)
				rest = Less(rest, part)
				if !Check(part) {
					t.Fatal(l, pivots, i, part)
				}
			}
			if !slices.Equal(all, l) || len(rest) != 0 {
				t.Fatal(l, pivots, all, rest)
			}
		}
	}
}

// P6.4: what goes down in batches is the whole part in the end.
func TestBatchesTogether(t *testing.T) {
	for _, l := range append(buffers(), long(100)) {
		var all []api.Msg
		for rest := l; len(rest) > 0; {
			b := Batch(rest)
			if len(b) == 0 || Bytes(b) > 96 {
				t.Fatal(rest, b)
			}
			all = append(all, b...)
			rest = Less(rest, b)
		}
		if !slices.Equal(all, l) {
			t.Fatal(l, all)
		}
	}
}

// after is the map m after the messages of l, one by one.
func after(m map[api.Key]api.Value, l []api.Msg) map[api.Key]api.Value {
	m = maps.Clone(m)
	for _, x := range l {
		v, there := m[x.Key]
		delete(m, x.Key)
		if v, there = msg.Apply(v, there, x); there {
			m[x.Key] = v
		}
	}
	return m
}

// P6.4: a buffer does to a map what all that was added would do one after the other.
func TestEffect(t *testing.T) {
	some := []api.Msg{put(1, "a", ""), put(2, "a", "\x05"), del(3, "a"), add(4, "a", 1), add(5, "a", most), put(6, "b", big), del(7, "b"), add(8, "b", 3), add(9, "", 2)}
	x, _ := value.Of("\x09old and long")
	befores := []map[api.Key]api.Value{{}, {kk("a"): x}, {kk("b"): value.From(most), kk("c"): x}, {kk(""): {}, kk("a"): value.From(3), kk("b"): {}}}
	n := len(some)
	for i := range n * n * n * n {
		seq := []api.Msg{some[i%n], some[i/n%n], some[i/n/n%n], some[i/n/n/n]}
		one := Add(Add(Add(Add(nil, seq[0]), seq[1]), seq[2]), seq[3])
		if two := All(All(nil, seq[:2]), seq[2:]); !slices.Equal(one, two) || !slices.Equal(one, All(nil, seq)) || !Check(one) {
			t.Fatal(seq, one, two)
		}
		for _, m := range befores {
			if !maps.Equal(after(m, one), after(m, seq)) {
				t.Fatal(seq, m, one)
			}
		}
	}
}

// R1: of lists that are not buffers, of pivots that do not ascend and of keys that are none nothing is said but that the calls end.
func TestBadEnd(t *testing.T) {
	odd := append(badLists(), nil, long(40), slices.Concat(long(20), long(20)), slices.Concat(badMsgs(), long(3), badMsgs()))
	reversed := long(40)
	slices.Reverse(reversed)
	odd = append(odd, reversed)
	none := []api.Key{{N: -1}, {N: 9}, {N: least, B: kk(ones).B}, {N: math.MaxInt}, {B: kk(ones).B}}
	steps := [][]api.Key{nil, none, {kk("c"), kk("a")}, {kk("a"), kk("a")}, {kk(ones), kk("")}, {kk("b"), kk("a"), kk("b")}, append([]api.Key{kk("k\x14")}, none...), append(slices.Clone(none), kk("k\x0a"))}
	for _, l := range odd {
		for _, other := range odd {
			All(l, other)
			Less(l, other)
		}
		for _, m := range append(badMsgs(), del(1, "a"), add(2, "b", 1)) {
			Add(l, m)
			Find(l, m.Key)
		}
		for _, k := range none {
			Find(l, k)
		}
		for _, pivots := range steps {
			for i := -1; i < len(pivots)+2; i++ {
				Part(l, pivots, i)
			}
			Part(l, pivots, least)
			Part(l, pivots, math.MaxInt)
		}
		Check(l)
		Bytes(l)
		Batch(l)
	}
}

// roomy returns the messages of l, and the whole memory they lie in, which goes on behind them.
func roomy(l []api.Msg) (out, whole []api.Msg) {
	whole = slices.Concat(l, []api.Msg{del(91, "x"), add(92, "y", 1), put(93, "z", "z")})
	return whole[:len(l)], whole
}

// lists are all results of calls with l and more that are lists.
func lists(l, more []api.Msg, pivots []api.Key) [][]api.Msg {
	out := [][]api.Msg{All(l, more), All(more, l), All(l, nil), All(l, l), Less(l, more), Less(l, nil), Less(l, l), Batch(l)}
	for _, m := range more {
		out = append(out, Add(l, m))
	}
	for i := -1; i < len(pivots)+2; i++ {
		out = append(out, Part(l, pivots, i))
	}
	return out
}

func clones(l [][]api.Msg) [][]api.Msg {
	var out [][]api.Msg
	for _, x := range l {
		out = append(out, slices.Clone(x))
	}
	return out
}

// R3, R4: no call changes what was handed in, nor the memory behind it, nor the result of an earlier call; the same call has the same result again.
func TestNothingChanged(t *testing.T) {
	all := buffers()
	for i, x := range all {
		l, whole := roomy(x)
		more, behind := roomy(all[(i*7+5)%len(all)])
		pivots := append(ladders()[(i*11+3)%len(all)], kk("x"), kk("y"))
		wasWhole, wasBehind, wasPivots := slices.Clone(whole), slices.Clone(behind), slices.Clone(pivots)
		low := pivots[:len(pivots)-2]
		first := lists(l, more, low)
		was := clones(first)
		again := lists(l, more, low)
		if !slices.EqualFunc(first, was, slices.Equal) || !slices.EqualFunc(again, was, slices.Equal) {
			t.Fatal("results", l, more, low)
		}
		for _, r := range first { // results that are handed in again, and added to
			lists(r, more, low)
			lists(more, r, low)
		}
		valid, size := Check(l), Bytes(l)
		for _, k := range pivots {
			Find(l, k)
		}
		if !slices.Equal(whole, wasWhole) || !slices.Equal(behind, wasBehind) || !slices.Equal(pivots, wasPivots) || valid != Check(l) || size != Bytes(l) {
			t.Fatal("changed", l, more, low)
		}
		if !slices.EqualFunc(first, was, slices.Equal) {
			t.Fatal("later", l, more, low)
		}
	}
}

// What is appended to a result runs into nothing: not into the part of the next child, nor into the memory behind a buffer.
func TestAppended(t *testing.T) {
	for _, x := range buffers() {
		l, whole := roomy(x)
		was := slices.Clone(whole)
		for _, pivots := range [][]api.Key{nil, {kk("a")}, {kk("a"), kk("ab"), kk("b")}} {
			for _, r := range lists(l, []api.Msg{add(1, "a", 1), del(2, "aa")}, pivots) {
				_ = append(r, del(99, "q"))
				if !slices.Equal(whole, was) {
					t.Fatal(l, pivots, r)
				}
			}
		}
	}
}

// What the caller then does to a result of Add, All or Less is not to be seen in what was handed in.
func TestNothingShared(t *testing.T) {
	for i, x := range buffers() {
		l, whole := roomy(x)
		more, behind := roomy(buffers()[(i*5+1)%256])
		was, wasBehind := slices.Clone(whole), slices.Clone(behind)
		for _, r := range [][]api.Msg{Add(l, del(1, "a")), Add(l, del(1, ones)), All(l, more), All(l, nil), All(nil, more), Less(l, more), Less(l, nil)} {
			clear(r)
			if !slices.Equal(whole, was) || !slices.Equal(behind, wasBehind) {
				t.Fatal(l, more)
			}
		}
	}
}
