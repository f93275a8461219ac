package leaf

import (
	"maps"
	"math"
	"slices"
	"testing"

	"orangery/api"
	"orangery/key"
	"orangery/msg"
	"orangery/value"
)

const (
	ones  = "\xff\xff\xff\xff\xff\xff\xff\xff" // the greatest key
	big   = "0123456789abcdef"                 // the longest value
	most  = math.MaxUint64
	least = math.MinInt
)

func kk(s string) api.Key {
	k, _ := key.Of(s)
	return k
}

func vv(s string) api.Value {
	v, _ := value.Of(s)
	return v
}

func entry(k, v string) api.Entry {
	return api.Entry{Key: kk(k), Value: vv(v)}
}

func sum(k string, n uint64) api.Entry {
	return api.Entry{Key: kk(k), Value: value.From(n)}
}

func put(seq uint64, k, v string) api.Msg {
	return api.Msg{Kind: api.Put, Seq: seq, Key: kk(k), Value: vv(v)}
}

func del(seq uint64, k string) api.Msg {
	return api.Msg{Kind: api.Del, Seq: seq, Key: kk(k)}
}

func add(seq uint64, k string, by uint64) api.Msg {
	return api.Msg{Kind: api.Add, Seq: seq, Key: kk(k), By: by}
}

// texts of keys, ascending: the least and the greatest, and some that stand side by side.
func texts() []string {
	return []string{"", "\x00", "a", "a\x00", "ab", "b", "b\x00\x00", ones}
}

// leaves: one for each choice among the texts, with values of many sizes.
func leaves() [][]api.Entry {
	var out [][]api.Entry
	for set := range 1 << len(texts()) {
		var l []api.Entry
		for i, s := range texts() {
			if set>>i&1 == 1 {
				l = append(l, entry(s, big[(set+i)%3:(set*5+i*3)%14+3]))
			}
		}
		out = append(out, l)
	}
	return out
}

// long is a list of n entries, at most 256.
func long(n int) []api.Entry {
	var l []api.Entry
	for i := range n {
		l = append(l, entry(string([]byte{'k', byte(i)}), big[:i%17]))
	}
	return l
}

// changes of the key k, of all kinds.
func changes(k string) []api.Msg {
	return []api.Msg{put(1, k, ""), put(2, k, "new"), put(3, k, big), del(4, k), add(5, k, 0), add(6, k, 1), add(7, k, most)}
}

// badEntries: keys and values that are not valid.
func badEntries() []api.Entry {
	return []api.Entry{
		{Key: api.Key{N: -1}}, {Key: api.Key{N: 9}}, {Key: api.Key{N: least}}, {Key: api.Key{N: math.MaxInt}},
		{Key: api.Key{B: [8]byte{97}}}, {Key: api.Key{N: 1, B: [8]byte{97, 98}}}, {Key: api.Key{N: 7, B: kk(ones).B}},
		{Key: kk("a"), Value: api.Value{N: -1}}, {Key: kk("a"), Value: api.Value{N: 17}}, {Key: kk("a"), Value: api.Value{N: least}}, {Key: kk("a"), Value: api.Value{N: math.MaxInt}},
		{Key: kk("a"), Value: api.Value{B: vv("x").B}}, {Key: kk("a"), Value: api.Value{N: 15, B: vv(big).B}}, {Key: api.Key{N: 9}, Value: api.Value{N: 17}},
	}
}

// badLists: keys that do not ascend, keys that come twice, entries that are not valid, alone and among others.
func badLists() [][]api.Entry {
	l := [][]api.Entry{
		{entry("b", ""), entry("a", "")}, {entry("a", ""), entry("a", "x")}, {entry("a", "x"), entry("a", "x")}, {entry("", ""), entry("", "")},
		{entry("\x00", ""), entry("", "")}, {entry("a\x00", ""), entry("a", "")}, {entry("ab", ""), entry("a", "")}, {entry(ones, ""), entry(ones[:7], "")}, {entry("\x80", ""), entry("a", "")},
		{entry("a", ""), entry("b", ""), entry("a", "")}, {entry("b", ""), entry("c", ""), entry("a", "")}, {entry("a", ""), entry("c", ""), entry("b", "")}, {entry("a", ""), entry("b", ""), entry("b", "")},
		{entry("b", ""), entry("a", ""), entry("c", "")}, {entry("c", ""), entry("b", ""), entry("a", "")}, {entry("a", ""), entry("a", ""), entry("b", "")},
	}
	for _, e := range badEntries() {
		l = append(l, []api.Entry{e}, []api.Entry{e, entry("c", "")}, []api.Entry{entry("", ""), e}, []api.Entry{entry("", ""), e, entry("c", "")}, []api.Entry{e, e})
	}
	return l
}

// P7.1: lists whose keys ascend are valid, whatever their values are.
func TestCheck(t *testing.T) {
	for i, l := range append(leaves(), nil, []api.Entry{}, []api.Entry{{}}, []api.Entry{entry("", ""), entry("a", "xyz"), entry("b", "")}, []api.Entry{entry("a", "z"), entry("b", "a")}, []api.Entry{entry("abcdefgh", big), entry(ones, big)}) {
		if !Check(l) {
			t.Error(i, l)
		}
	}
	for i, l := range badLists() {
		if Check(l) {
			t.Error(i, l)
		}
	}
}

// P7.1: of all lists of four texts just those are valid that ascend at each step.
func TestCheckOrder(t *testing.T) {
	for _, a := range texts() {
		for _, b := range texts() {
			for _, c := range texts() {
				for _, d := range texts() {
					l := []api.Entry{entry(a, "x"), entry(b, ""), entry(c, big), entry(d, "x")}
					if Check(l) != (a < b && b < c && c < d) {
						t.Fatalf("%q %q %q %q: %v", a, b, c, d, Check(l))
					}
				}
			}
		}
	}
}

// P7.1: what is not valid is seen wherever it stands, in a list that is long, too.
func TestCheckEachPlace(t *testing.T) {
	if !Check(long(100)) {
		t.Fatal("long")
	}
	for i := range 100 {
		l := long(100)
		l[i].Key.N = 9
		if Check(l) {
			t.Error("key", i)
		}
		l = long(100)
		l[i].Value.N = 17
		if Check(l) {
			t.Error("value", i)
		}
		l = long(100)
		if l = slices.Insert(l, i, l[i]); Check(l) {
			t.Error("twice", i)
		}
		if l = long(100); i > 0 {
			l[i-1], l[i] = l[i], l[i-1]
			if Check(l) {
				t.Error("swapped", i)
			}
		}
	}
}

// P7.1: the chapter's example, and the sizes of all entries together, of lists that are not valid, too.
func TestBytes(t *testing.T) {
	for i, x := range []struct {
		l    []api.Entry
		want int
	}{
		{nil, 0}, {[]api.Entry{}, 0}, {[]api.Entry{{}}, 2}, {[]api.Entry{entry("a", "xyz")}, 6}, {[]api.Entry{entry("abcdefgh", big)}, 26},
		{[]api.Entry{entry("a", "")}, 3}, {[]api.Entry{entry("", "a")}, 3}, {[]api.Entry{entry("", ""), entry("a", "xyz"), entry("b", "")}, 11},
		{[]api.Entry{sum("a", 0), sum("b", most)}, 22}, {slices.Repeat([]api.Entry{entry("abcdefgh", big)}, 1000), 26000},

		{[]api.Entry{entry("b", ""), entry("a", "")}, 6}, {[]api.Entry{entry("a", "x"), entry("a", "x"), entry("a", "x")}, 12},
		{[]api.Entry{{Key: api.Key{N: -1}}}, 1}, {[]api.Entry{{Key: api.Key{N: 9}, Value: api.Value{N: 17}}}, 28}, {[]api.Entry{{Value: api.Value{N: -5}}, {Key: api.Key{N: 100}}}, 99},
	} {
		if got := Bytes(x.l); got != x.want {
			t.Error(i, got, x.want)
		}
	}
	for _, l := range append(leaves(), badLists()...) {
		want := 2 * len(l)
		for _, e := range l {
			want += e.Key.N + e.Value.N
		}
		if got := Bytes(l); got != want {
			t.Error(l, got, want)
		}
	}
}

// P7.2: the value of each key that is there, and none of those between, below and above.
func TestFind(t *testing.T) {
	for _, l := range leaves() {
		for _, s := range append(texts(), "a\x00\x00", "aa", "\x01", "abcdefgh", "c", "b\x00", ones[:7], "\x00\x00") {
			var want api.Value
			found := false
			for _, e := range l {
				if key.Text(e.Key) == s {
					want, found = e.Value, true
				}
			}
			if got, ok := Find(l, kk(s)); got != want || ok != found {
				t.Fatalf("%v %q: %v %v", l, s, got, ok)
			}
		}
	}
	if v, ok := Find([]api.Entry{entry("a", "")}, kk("a")); v != (api.Value{}) || !ok { // a value of no bytes is a value
		t.Error(v, ok)
	}
}

// P7.2: in lists of every length each entry, the first and the last among them, is found, and nothing beside it.
func TestFindEachPlace(t *testing.T) {
	var l []api.Entry
	for i := range 60 {
		for j, e := range l {
			if got, ok := Find(l, e.Key); got != e.Value || !ok {
				t.Fatal(i, j, got, ok)
			}
			if got, ok := Find(l, kk(string([]byte{byte(2*j + 2)}))); got != (api.Value{}) || ok {
				t.Fatal(i, j, got, ok)
			}
		}
		for _, s := range []string{"", ones} {
			if got, ok := Find(l, kk(s)); got != (api.Value{}) || ok {
				t.Fatal(i, got, ok)
			}
		}
		l = append(l, entry(string([]byte{byte(2*i + 1)}), string([]byte{byte(i), 'v'})))
	}
}

// P7.2: the chapter's example, and each kind of message at both ends, between, and at a key that is there.
func TestPutExamples(t *testing.T) {
	l := []api.Entry{entry("b", "\x01"), entry("d", "yy"), entry("f", "")}
	b, d, f := l[0], l[1], l[2]
	one := l[:1:1]
	for i, x := range []struct {
		l    []api.Entry
		m    api.Msg
		want []api.Entry
	}{
		{l, del(1, "c"), l}, {l, del(1, ""), l}, {l, del(1, "a"), l}, {l, del(1, "e"), l}, {l, del(1, "g"), l}, {l, del(1, ones), l}, {l, del(1, "b\x00"), l}, {nil, del(1, "a"), nil}, {[]api.Entry{}, del(1, ""), nil},
		{l, del(1, "b"), []api.Entry{d, f}}, {l, del(1, "d"), []api.Entry{b, f}}, {l, del(1, "f"), []api.Entry{b, d}}, {one, del(1, "b"), nil}, {one, del(1, "a"), one}, {one, del(1, "c"), one},

		{l, put(1, "a", "z"), []api.Entry{entry("a", "z"), b, d, f}}, {l, put(1, "c", "z"), []api.Entry{b, entry("c", "z"), d, f}}, {l, put(1, "e", ""), []api.Entry{b, d, entry("e", ""), f}}, {l, put(1, "g", big), []api.Entry{b, d, f, entry("g", big)}},
		{l, put(1, "b\x00", "z"), []api.Entry{b, entry("b\x00", "z"), d, f}}, {l, put(1, "", ""), []api.Entry{{}, b, d, f}}, {l, put(1, ones, ""), []api.Entry{b, d, f, entry(ones, "")}},
		{l, put(1, "b", "z"), []api.Entry{entry("b", "z"), d, f}}, {l, put(1, "d", ""), []api.Entry{b, entry("d", ""), f}}, {l, put(1, "f", big), []api.Entry{b, d, entry("f", big)}},
		{nil, put(1, "a", "x"), []api.Entry{entry("a", "x")}}, {[]api.Entry{}, put(1, "", ""), []api.Entry{{}}}, {one, put(1, "a", ""), []api.Entry{entry("a", ""), b}}, {one, put(1, "c", ""), []api.Entry{b, entry("c", "")}},

		{l, add(1, "b", 4), []api.Entry{sum("b", 5), d, f}}, {l, add(1, "d", 1), []api.Entry{b, sum("d", 0x7979+1), f}}, {l, add(1, "f", 7), []api.Entry{b, d, sum("f", 7)}}, {l, add(1, "b", most), []api.Entry{sum("b", 0), d, f}}, {l, add(1, "f", 0), []api.Entry{b, d, sum("f", 0)}},
		{l, add(1, "a", 4), []api.Entry{sum("a", 4), b, d, f}}, {l, add(1, "c", 0), []api.Entry{b, sum("c", 0), d, f}}, {l, add(1, "e", most), []api.Entry{b, d, sum("e", most), f}}, {l, add(1, "g", 1), []api.Entry{b, d, f, sum("g", 1)}},
		{nil, add(1, "a", 3), []api.Entry{sum("a", 3)}},
	} {
		if got := Put(x.l, x.m); !slices.Equal(got, x.want) {
			t.Error(i, got, x.want)
		}
	}
}

// done is what P7.2 says of l after the message m, by a map and a sort.
func done(l []api.Entry, m api.Msg) []api.Entry {
	of := map[string]api.Value{}
	for _, e := range l {
		of[key.Text(e.Key)] = e.Value
	}
	s := key.Text(m.Key)
	v, there := of[s]
	delete(of, s)
	if v, there = msg.Apply(v, there, m); there {
		of[s] = v
	}
	var out []api.Entry
	for _, s := range slices.Sorted(maps.Keys(of)) {
		out = append(out, api.Entry{Key: kk(s), Value: of[s]})
	}
	return out
}

func TestPutEach(t *testing.T) {
	for _, l := range append(leaves(), long(50)) {
		for _, s := range append(texts(), "aa", "abcdefgh", "c", "k\x00", "k\x07", "k\x31", "k\x32") {
			for _, m := range changes(s) {
				if got := Put(l, m); !slices.Equal(got, done(l, m)) || !Check(got) {
					t.Fatal(l, m, got)
				}
			}
		}
	}
}

// P7.2: messages are applied in their order, be it that of their keys and Seqs or not, and be it often the same key.
func TestAllExamples(t *testing.T) {
	l := []api.Entry{entry("b", "\x01"), entry("d", "y")}
	b, d := l[0], l[1]
	for i, x := range []struct {
		l    []api.Entry
		ms   []api.Msg
		want []api.Entry
	}{
		{nil, nil, nil}, {[]api.Entry{}, []api.Msg{}, nil}, {l, nil, l}, {l, []api.Msg{}, l}, {l, []api.Msg{del(1, "c")}, l},
		{l, []api.Msg{del(1, "b"), add(2, "b", 2)}, []api.Entry{sum("b", 2), d}}, {l, []api.Msg{add(2, "b", 2), del(1, "b")}, []api.Entry{d}},
		{l, []api.Msg{add(1, "b", 2), add(2, "b", 3)}, []api.Entry{sum("b", 6), d}}, {l, []api.Msg{put(9, "b", "x"), put(2, "b", "z")}, []api.Entry{entry("b", "z"), d}},
		{l, []api.Msg{put(1, "e", "5"), put(2, "c", "3"), put(3, "a", "1")}, []api.Entry{entry("a", "1"), b, entry("c", "3"), d, entry("e", "5")}},
		{l, []api.Msg{del(1, "d"), del(2, "b")}, nil}, {l, []api.Msg{del(1, "d"), del(2, "b"), add(3, "c", 3), add(4, "a", 1)}, []api.Entry{sum("a", 1), sum("c", 3)}},
		{nil, []api.Msg{put(1, "a", ""), del(2, "a"), add(3, "a", most), add(4, "a", 2), put(5, "b", big), add(6, "a", 1)}, []api.Entry{sum("a", 2), entry("b", big)}},
	} {
		if got := All(x.l, x.ms); !slices.Equal(got, x.want) {
			t.Error(i, got, x.want)
		}
	}
}

func TestAllByPut(t *testing.T) {
	some := []api.Msg{put(1, "a", ""), put(2, "a", "\x05"), del(3, "a"), add(4, "a", 1), add(5, "a", most), put(6, "b", big), del(7, "b"), add(8, "b", 3), add(9, "", 2), del(10, ones)}
	n := len(some)
	for i, l := range leaves() {
		for j := i % 7; j < n*n*n; j += 7 {
			ms := []api.Msg{some[j%n], some[j/n%n], some[j/n/n], some[(i+j)%n]}
			want := l
			for _, m := range ms {
				want = done(want, m)
			}
			if got := All(l, ms); !slices.Equal(got, want) || !Check(got) {
				t.Fatal(l, ms, got)
			}
		}
	}
}

// sized is a list whose entries have these bytes each, from 3 to 19.
func sized(sizes ...int) []api.Entry {
	var l []api.Entry
	for i, n := range sizes {
		l = append(l, entry(string([]byte{byte(i)}), big[:n-3]))
	}
	return l
}

// P7.3: the chapter's example, lists of two, halves that are just half and one byte less, and entries that have half or more alone.
func TestSplitExamples(t *testing.T) {
	for i, x := range []struct {
		sizes []int
		want  int
	}{
		{[]int{4, 4, 4}, 2},
		{[]int{3, 3}, 1}, {[]int{3, 19}, 1}, {[]int{19, 3}, 1}, {[]int{4, 5}, 1},
		{[]int{4, 4, 4, 4}, 2}, {[]int{4, 4, 4, 4, 4}, 3}, {[]int{4, 5, 4, 5}, 2}, {[]int{5, 5, 5, 5, 5, 5}, 3},
		{[]int{8, 4, 4}, 1}, {[]int{7, 4, 4}, 2}, {[]int{8, 4, 5}, 2}, {[]int{9, 4, 5}, 1}, {[]int{10, 4, 5}, 1}, // half, one less (of 15 and of 17), half again, and more
		{[]int{4, 4, 8}, 2}, {[]int{4, 4, 9}, 2}, {[]int{4, 3, 8}, 2}, {[]int{4, 4, 4, 12}, 3}, {[]int{4, 4, 4, 13}, 3}, {[]int{4, 4, 4, 11}, 3}, {[]int{4, 4, 3, 12, 3}, 4}, {[]int{5, 5, 5, 12, 3}, 3}, {[]int{5, 4, 5, 12, 3}, 4}, {[]int{5, 5, 5, 12, 4}, 4},
		{[]int{19, 3, 3, 3}, 1}, {[]int{3, 19, 3, 3}, 2}, {[]int{3, 3, 19, 3}, 3}, {[]int{3, 3, 3, 19}, 3}, {[]int{3, 3, 3, 3, 3, 19}, 5}, {[]int{12, 4, 4, 4}, 1}, {[]int{11, 4, 4, 4}, 2}, {[]int{3, 12, 4, 4}, 2},
	} {
		l := sized(x.sizes...)
		a, b, pivot, ok := Split(l)
		if !slices.Equal(a, l[:x.want]) || !slices.Equal(b, l[x.want:]) || pivot != l[x.want].Key || !ok {
			t.Error(i, x.sizes, len(a), len(b), pivot, ok)
		}
	}
	for _, l := range [][]api.Entry{nil, {}, {{}}, {entry("a", "x")}, {entry(ones, big)}} {
		if a, b, pivot, ok := Split(l); len(a) != 0 || len(b) != 0 || pivot != (api.Key{}) || ok {
			t.Error(l, a, b, pivot, ok)
		}
	}
}

// P7.3: the first part is the shortest that may be, in lists with all sizes of keys and values.
func TestSplitEach(t *testing.T) {
	lists := append(leaves(), long(200))
	for i := range 5 * 5 * 5 * 5 * 5 {
		lists = append(lists, sized(3+i%5*2, 3+i/5%5*3, 3+i/25%5, 3+i/125%5*4, 3+i/625))
	}
	for _, l := range lists {
		want := 1
		for want < len(l)-1 && 2*Bytes(l[:want]) < Bytes(l) {
			want++
		}
		a, b, pivot, ok := Split(l)
		if len(l) < 2 {
			if ok || len(a)+len(b) != 0 || pivot != (api.Key{}) {
				t.Fatal(l, a, b, pivot)
			}
		} else if !ok || !slices.Equal(a, l[:want]) || !slices.Equal(b, l[want:]) || pivot != l[want].Key {
			t.Fatal(l, a, b, pivot, ok)
		}
	}
}

// P7.4: both parts are the list, each has an entry and is valid, and the pivot tells which of them a key is in.
func TestSplitTogether(t *testing.T) {
	for _, l := range append(leaves()[1:], long(2), long(3), long(256)) {
		a, b, pivot, ok := Split(l)
		if ok != (len(l) > 1) {
			t.Fatal(l)
		}
		if !ok {
			continue
		}
		if !slices.Equal(slices.Concat(a, b), l) || len(a) == 0 || len(b) == 0 || !Check(a) || !Check(b) {
			t.Fatal(l, a, b)
		}
		for _, e := range l {
			part := a
			if key.Compare(e.Key, pivot) >= 0 {
				part = b
			}
			if v, there := Find(part, e.Key); v != e.Value || !there {
				t.Fatal(l, e, pivot)
			}
		}
	}
}

// P7.4: of a list that a leaf with room may come to by one batch, each part has room in a leaf: with entries as great as may be, as small as may be, and of both kinds.
func TestSplitRoom(t *testing.T) {
	great := 0
	for set := range 1 << 14 {
		var l []api.Entry
		for i := 0; ; i++ {
			e := entry(string([]byte{byte(i), 0, 0, 0, 0, 0, 0, 0}), big)
			if set>>(i%14)&1 == 1 {
				e = entry(string([]byte{byte(i)}), "")
			}
			if Bytes(l)+Bytes([]api.Entry{e}) > 248+96 {
				break
			}
			l = append(l, e)
		}
		a, b, _, ok := Split(l)
		if !ok || !slices.Equal(slices.Concat(a, b), l) || Bytes(a) > 248 || Bytes(b) > 248 {
			t.Fatal(l, Bytes(a), Bytes(b))
		}
		great = max(great, Bytes(l))
	}
	if great < 340 {
		t.Error(great)
	}
}

// R1: of lists that are not valid, of keys and of messages that are none nothing is said but that the calls end.
func TestBadEnd(t *testing.T) {
	reversed := long(40)
	slices.Reverse(reversed)
	odd := append(badLists(), nil, long(40), reversed, slices.Concat(long(20), long(20)), slices.Concat(badEntries(), long(3), badEntries()))
	ms := append(changes("a"), api.Msg{}, api.Msg{Kind: api.Get, Key: kk("a")}, api.Msg{Kind: -1, Key: kk("a")}, api.Msg{Kind: math.MaxInt, Key: kk("b"), By: 1}, api.Msg{Kind: api.Put, Key: kk("a"), Value: api.Value{N: 17}}, api.Msg{Kind: api.Add, Key: kk("a"), Value: api.Value{N: -1}, By: 1})
	for _, e := range badEntries() {
		for kind := range 5 {
			ms = append(ms, api.Msg{Kind: kind, Key: e.Key, Value: e.Value, By: most})
		}
	}
	for _, l := range odd {
		for _, m := range ms {
			Put(l, m)
			Find(l, m.Key)
		}
		All(l, ms)
		Split(l)
		Check(l)
		Bytes(l)
	}
}

// roomy returns the entries of l, and the whole memory they lie in, which goes on behind them.
func roomy(l []api.Entry) (out, whole []api.Entry) {
	whole = slices.Concat(l, []api.Entry{entry("x", ""), entry("y", "yy"), entry("z", big)})
	return whole[:len(l)], whole
}

// lists are all results of calls with l and ms that are lists.
func lists(l []api.Entry, ms []api.Msg) [][]api.Entry {
	a, b, _, _ := Split(l)
	out := [][]api.Entry{a, b, All(l, ms), All(l, nil)}
	for _, m := range ms {
		out = append(out, Put(l, m))
	}
	return out
}

func clones(l [][]api.Entry) [][]api.Entry {
	var out [][]api.Entry
	for _, x := range l {
		out = append(out, slices.Clone(x))
	}
	return out
}

// batches of messages, which do everything to lists.
func batches() [][]api.Msg {
	var all []api.Msg
	for _, s := range append(texts(), "aa", "c") {
		all = append(all, changes(s)...)
	}
	return [][]api.Msg{nil, changes("a"), changes(""), {del(1, "a"), put(2, "a", "x")}, {del(1, ""), del(2, "b"), del(3, ones)}, all}
}

// R3, R4: no call changes what was handed in, nor the memory behind it, nor the result of an earlier call; the same call has the same result again.
func TestNothingChanged(t *testing.T) {
	for _, x := range leaves() {
		for _, given := range batches() {
			l, whole := roomy(x)
			behind := append(slices.Clone(given), del(91, "a"), del(92, "b"))
			ms := behind[:len(given)]
			wasWhole, wasBehind := slices.Clone(whole), slices.Clone(behind)
			first := lists(l, ms)
			was := clones(first)
			if again := lists(l, ms); !slices.EqualFunc(first, was, slices.Equal) || !slices.EqualFunc(again, was, slices.Equal) {
				t.Fatal("results", l, ms)
			}
			for _, r := range first { // results that are handed in again
				lists(r, ms)
			}
			valid, size := Check(l), Bytes(l)
			for _, s := range texts() {
				Find(l, kk(s))
			}
			if !slices.Equal(whole, wasWhole) || !slices.Equal(behind, wasBehind) || valid != Check(l) || size != Bytes(l) {
				t.Fatal("changed", l, ms)
			}
			if !slices.EqualFunc(first, was, slices.Equal) {
				t.Fatal("later", l, ms)
			}
		}
	}
}

// What the caller then does to a result, or appends to it, is to be seen neither in what was handed in nor in another result.
func TestNothingShared(t *testing.T) {
	for _, x := range leaves() {
		for _, ms := range batches() {
			l, whole := roomy(x)
			wasWhole := slices.Clone(whole)
			all := lists(l, ms)
			was := clones(all)
			for i, r := range all {
				_ = append(r, entry("q", "q"))
				clear(r)
				if !slices.Equal(whole, wasWhole) {
					t.Fatal("handed in", l, ms)
				}
				if !slices.EqualFunc(all[i+1:], was[i+1:], slices.Equal) {
					t.Fatal("other results", l, ms)
				}
			}
		}
	}
}
