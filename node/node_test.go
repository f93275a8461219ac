package node

import (
	"math"
	"slices"
	"testing"

	"orangery/api"
	"orangery/key"
	"orangery/value"
)

const (
	ones = "\xff\xff\xff\xff\xff\xff\xff\xff" // the greatest key
	big  = "0123456789abcdef"                 // the longest value
	most = math.MaxUint64
)

func kk(s string) api.Key {
	k, _ := key.Of(s)
	return k
}

func keys(l ...string) []api.Key {
	var out []api.Key
	for _, s := range l {
		out = append(out, kk(s))
	}
	return out
}

func vv(s string) api.Value {
	v, _ := value.Of(s)
	return v
}

func entry(k, v string) api.Entry {
	return api.Entry{Key: kk(k), Value: vv(v)}
}

func put(k, v string) api.Msg {
	return api.Msg{Kind: api.Put, Seq: 1, Key: kk(k), Value: vv(v)}
}

func del(k string) api.Msg {
	return api.Msg{Kind: api.Del, Seq: 2, Key: kk(k)}
}

func add(k string, by uint64) api.Msg {
	return api.Msg{Kind: api.Add, Seq: 3, Key: kk(k), By: by}
}

// size of a message that is valid, by the chapter of package msg.
func size(m api.Msg) int {
	return 10 + m.Key.N + map[int]int{api.Put: 1 + m.Value.N, api.Add: 8}[m.Kind]
}

// leafOf is a leaf with entries.
func leafOf(entries ...api.Entry) api.Node {
	return api.Node{Leaf: true, Entries: entries}
}

// innerOf is an inner node with children for the pivots, and with messages.
func innerOf(pivots []api.Key, msgs ...api.Msg) api.Node {
	return api.Node{Kids: []int{9, 255, 1, 4, 8, 7}[:len(pivots)+1], Pivots: pivots, Msgs: msgs}
}

// texts of keys, ascending: the least and the greatest, and some that stand side by side.
func texts() []string {
	return []string{"", "\x00", "a", "a\x00", "ab", "b", "b\x00\x00", ones}
}

// chosen are the texts that the bits of set choose.
func chosen(set int) []string {
	var out []string
	for i, s := range texts() {
		if set>>i&1 == 1 {
			out = append(out, s)
		}
	}
	return out
}

// change is a message of the key k, of another kind for each of three i.
func change(i int, k string) api.Msg {
	return []api.Msg{put(k, big[:i%17]), del(k), add(k, uint64(i))}[i%3]
}

// leaves are valid: one for each choice among the texts, with values of many sizes.
func leaves() []api.Node {
	var out []api.Node
	for set := range 1 << len(texts()) {
		n := leafOf()
		for i, s := range chosen(set) {
			n.Entries = append(n.Entries, entry(s, big[:(set+i*5)%17]))
		}
		out = append(out, n)
	}
	return out
}

// ladders: pivots of two, of three and of four children.
func ladders() [][]api.Key {
	return [][]api.Key{
		keys(""), keys("a"), keys("m"), keys(ones),
		keys("", "\x00"), keys("a", "b"), keys("\x00", ones), keys("d", "m"),
		keys("", "a", "b"), keys("a", "a\x00", "ab"), keys("b", "b\x00\x00", ones), keys("d", "m", "p"), keys("\x00", "ab", "c"),
	}
}

// inners are valid: one for each of the ladders and each choice of messages among the texts.
func inners() []api.Node {
	var out []api.Node
	for at, pivots := range ladders() {
		for set := range 1 << len(texts()) {
			n := innerOf(pivots)
			for i, s := range chosen(set) {
				n.Msgs = append(n.Msgs, change(at+set+i, s))
			}
			out = append(out, n)
		}
	}
	return out
}

// badEntries are lists that package leaf refuses.
func badEntries() [][]api.Entry {
	return [][]api.Entry{
		{entry("b", ""), entry("a", "")}, {entry("a", ""), entry("a", "x")}, {entry("", ""), entry("", "")}, {entry("a", ""), entry("c", ""), entry("b", "")},
		{{Key: api.Key{N: 9}}}, {{Key: api.Key{N: -1}}}, {{Key: api.Key{N: math.MaxInt}}}, {{Key: api.Key{N: math.MinInt}}}, {{Key: api.Key{N: 1, B: [8]byte{97, 98}}}}, {entry("", ""), {Key: api.Key{B: [8]byte{97}}}},
		{{Key: kk("a"), Value: api.Value{N: 17}}}, {{Key: kk("a"), Value: api.Value{N: -1}}}, {{Key: kk("a"), Value: api.Value{N: 1, B: vv("xy").B}}}, {entry("", ""), {Key: kk("a"), Value: api.Value{N: math.MaxInt}}, entry("b", "")},
	}
}

// badMsgs are lists that package buf refuses.
func badMsgs() [][]api.Msg {
	return [][]api.Msg{
		{del("b"), del("a")}, {del("a"), del("a")}, {put("a", "x"), put("a", "x")}, {del("a"), add("c", 1), del("b")},
		{{}}, {{Kind: api.Get, Key: kk("a")}}, {{Kind: -1, Key: kk("a")}}, {del(""), {Kind: math.MaxInt, Key: kk("a")}, del("b")},
		{{Kind: api.Del, Key: api.Key{N: 9}}}, {{Kind: api.Add, Key: api.Key{N: -1}}}, {{Kind: api.Put, Key: api.Key{N: 1, B: [8]byte{97, 98}}}}, {del(""), {Kind: api.Del, Key: api.Key{N: math.MaxInt}}},
		{{Kind: api.Put, Key: kk("a"), Value: api.Value{N: 17}}}, {{Kind: api.Put, Key: kk("a"), By: 1}}, {{Kind: api.Del, Key: kk("a"), By: 1}}, {{Kind: api.Add, Key: kk("a"), Value: vv("x")}},
	}
}

// family is what an inner node has of children.
type family struct {
	kids   []int
	pivots []api.Key
}

// badFans are what package fan refuses: by the kids, by the pivots, by their numbers.
func badFans() []family {
	return []family{
		{}, {[]int{}, []api.Key{}}, {[]int{1}, nil}, {nil, keys("a")}, {[]int{1, 2, 3, 4, 5}, keys("a", "b", "c", "d")}, {[]int{1, 2}, nil}, {[]int{1, 2}, keys("a", "b")}, {[]int{1, 2, 3}, keys("a")},
		{[]int{0, 1}, keys("a")}, {[]int{1, 0}, keys("a")}, {[]int{1, 256}, keys("a")}, {[]int{-1, 1}, keys("a")}, {[]int{1, math.MaxInt}, keys("a")}, {[]int{math.MinInt, 1}, keys("a")}, {[]int{1, 1}, keys("a")}, {[]int{1, 2, 1}, keys("a", "b")}, {[]int{1, 2, 3, 3}, keys("a", "b", "c")},
		{[]int{1, 2, 3}, keys("b", "a")}, {[]int{1, 2, 3}, keys("a", "a")}, {[]int{1, 2, 3, 4}, keys("a", "c", "b")}, {[]int{1, 2}, []api.Key{{N: 9}}}, {[]int{1, 2}, []api.Key{{N: -1}}}, {[]int{1, 2, 3}, []api.Key{{}, {N: 1, B: [8]byte{97, 98}}}},
	}
}

// badNodes are not valid.
func badNodes() []api.Node {
	out := []api.Node{{}}
	for _, l := range badEntries() {
		out = append(out, leafOf(l...), api.Node{Leaf: true, Entries: l, Kids: []int{1, 2}, Pivots: keys("m")}, api.Node{Kids: []int{1, 2}, Pivots: keys("m"), Entries: l})
	}
	for _, l := range badMsgs() {
		out = append(out, innerOf(keys("m"), l...), api.Node{Leaf: true, Msgs: l}, api.Node{Msgs: l})
	}
	for _, f := range badFans() {
		for _, msgs := range append(badMsgs(), nil, []api.Msg{del("a")}, []api.Msg{put("", big), del("a"), add("b", most), del("c")}) {
			out = append(out, api.Node{Kids: f.kids, Pivots: f.pivots, Msgs: msgs}, api.Node{Kids: f.kids, Pivots: f.pivots, Msgs: msgs, Entries: []api.Entry{entry("a", "")}})
		}
		if len(f.kids)+len(f.pivots) > 0 {
			out = append(out, api.Node{Leaf: true, Kids: f.kids, Pivots: f.pivots})
		}
	}
	return out
}

// P9.1: leaves with entries that ascend, or with none, and inner nodes with children and pivots, with or without messages.
func TestCheck(t *testing.T) {
	for i, n := range append(append(leaves(), inners()...),
		api.Node{Leaf: true}, leafOf(entry("a", "x")), api.Node{Leaf: true, Entries: []api.Entry{}, Kids: []int{}, Pivots: []api.Key{}, Msgs: []api.Msg{}},
		api.Node{Kids: []int{1, 2}, Pivots: keys("m")}, api.Node{Kids: []int{255, 1, 254, 2}, Pivots: keys("", "a", ones), Entries: []api.Entry{}, Msgs: []api.Msg{}}, innerOf(keys("m"), put("a", "x"))) {
		if !Check(n) {
			t.Error(i, n)
		}
	}
	for i, n := range badNodes() {
		if Check(n) {
			t.Error(i, n)
		}
	}
}

// P9.1: a leaf has no kids, no pivots and no messages, not even such as an inner node may have; an inner node has no entries.
func TestCheckForeign(t *testing.T) {
	for i, n := range []api.Node{
		{Leaf: true, Kids: []int{1}}, {Leaf: true, Kids: []int{1, 2}}, {Leaf: true, Kids: []int{0}}, {Leaf: true, Pivots: keys("a")}, {Leaf: true, Pivots: []api.Key{{}}}, {Leaf: true, Pivots: []api.Key{{N: 9}}},
		{Leaf: true, Msgs: []api.Msg{put("a", "")}}, {Leaf: true, Msgs: []api.Msg{{}}}, {Leaf: true, Kids: []int{1, 2}, Pivots: keys("m")}, {Leaf: true, Kids: []int{1, 2}, Pivots: keys("m"), Msgs: []api.Msg{del("a")}},
		{Leaf: true, Entries: []api.Entry{entry("a", "x")}, Kids: []int{1, 2}}, {Leaf: true, Entries: []api.Entry{entry("a", "x")}, Pivots: keys("m")}, {Leaf: true, Entries: []api.Entry{entry("a", "x")}, Msgs: []api.Msg{del("b")}},
		{Kids: []int{1, 2}, Pivots: keys("m"), Entries: []api.Entry{{}}}, {Kids: []int{1, 2}, Pivots: keys("m"), Entries: []api.Entry{entry("a", "x")}}, {Kids: []int{1, 2}, Pivots: keys("m"), Entries: []api.Entry{{Key: api.Key{N: 9}}}},
		{Kids: []int{1, 2}, Pivots: keys("m"), Entries: []api.Entry{entry("a", "x")}, Msgs: []api.Msg{put("a", "x")}}, {Entries: []api.Entry{entry("a", "x")}}, {Entries: []api.Entry{entry("a", "x")}, Msgs: []api.Msg{put("a", "x")}},
	} {
		if Check(n) || Fits(n) {
			t.Error(i, n)
		}
	}
}

// P9.1: of all that parts which are empty, valid and not valid make together just those nodes are valid that have the parts of their kind, each valid.
func TestCheckEach(t *testing.T) {
	const empty, good = 0, 1 // 2 is not valid by the layer of the part
	entries := [][]api.Entry{nil, {entry("a", "x")}, {entry("b", ""), entry("a", "")}}
	fans := []family{{}, {[]int{2, 1}, keys("m")}, {[]int{2, 2}, keys("m")}, {[]int{2, 1}, nil}, {nil, keys("m")}, {[]int{2, 1}, []api.Key{{N: 9}}}, {[]int{2, 1, 3}, keys("m")}}
	msgs := [][]api.Msg{nil, {put("a", "x")}, {{}}}
	count := 0
	for e := range entries {
		for f := range fans {
			for m := range msgs {
				for _, leaf := range []bool{true, false} {
					want := e == empty && f == good && m <= good
					if leaf {
						want = e <= good && f == empty && m == empty
					}
					n := api.Node{Leaf: leaf, Entries: entries[e], Kids: fans[f].kids, Pivots: fans[f].pivots, Msgs: msgs[m]}
					if Check(n) != want || Fits(n) != want {
						t.Error(n, want)
					}
					if want {
						count++
					}
				}
			}
		}
	}
	if count != 4 {
		t.Error(count)
	}
}

// P9.1: the entries of a leaf and the messages of an inner node have bytes, and nothing else has.
func TestBytesExamples(t *testing.T) {
	wrong := api.Msg{Kind: api.Get, Key: kk("a")}
	for i, x := range []struct {
		n    api.Node
		want int
	}{
		{api.Node{}, 0}, {leafOf(), 0}, {leafOf([]api.Entry{}...), 0}, {leafOf(entry("", "")), 2}, {leafOf(entry("a", "xyz")), 6}, {leafOf(entry("a", "x"), entry("ab", ""), entry("abcdefgh", big)), 4 + 4 + 26},
		{innerOf(keys("m")), 0}, {innerOf(keys("a", "b", "c")), 0}, {innerOf(keys("m"), del("")), 10}, {innerOf(keys("m"), put("a", "x")), 13}, {innerOf(keys("a", "b"), put("", ""), del("a"), add("b", most)), 11 + 11 + 19}, {innerOf(keys("m"), put("abcdefgh", big)), 35},
		// Nodes that are not valid: what counts is what belongs to the kind of the node.
		{api.Node{Leaf: true, Kids: []int{1, 2}, Pivots: keys("m"), Msgs: []api.Msg{put("a", "x")}}, 0}, {api.Node{Leaf: true, Entries: []api.Entry{entry("a", "x")}, Msgs: []api.Msg{put("a", "x")}}, 4},
		{api.Node{Entries: []api.Entry{entry("a", "x")}}, 0}, {api.Node{Entries: []api.Entry{entry("a", "x")}, Msgs: []api.Msg{put("a", "x")}}, 13}, {api.Node{Msgs: []api.Msg{put("b", "x"), put("a", "x")}}, 26},
		{leafOf(entry("b", "x"), entry("a", "x")), 8}, {leafOf(api.Entry{Key: api.Key{N: 9}, Value: api.Value{N: 17}}), 28}, {leafOf(api.Entry{Key: api.Key{N: -1}}), 1}, {innerOf(keys("m"), wrong), 0}, {innerOf(keys("m"), wrong, del("b")), 11},
	} {
		if got := Bytes(x.n); got != x.want {
			t.Error(i, got, x.want)
		}
	}
}

func TestBytesEach(t *testing.T) {
	for _, n := range append(leaves(), inners()...) {
		want := 0
		for _, e := range n.Entries {
			want += 2 + e.Key.N + e.Value.N
		}
		for _, m := range n.Msgs {
			want += size(m)
		}
		if got := Bytes(n); got != want {
			t.Fatal(n, got, want)
		}
	}
}

// fullLeaf is a valid leaf of just that many bytes, from 190 to 300.
func fullLeaf(bytes int) api.Node {
	n := leafOf()
	for i := 0; bytes > 0; i++ {
		// Between 2 and 18 bytes go with a key of one byte: the rest of one entry must not be a single byte.
		take := min(bytes, 19)
		if bytes-take > 0 && bytes-take < 3 {
			take = 10
		}
		n.Entries = append(n.Entries, entry(string([]byte{byte(i)}), big[:take-3]))
		bytes -= take
	}
	return n
}

// fullInner is a valid inner node with messages of just that many bytes, at least 12.
func fullInner(bytes int) api.Node {
	n := innerOf(keys("\x01", "\x02"))
	for i := 0; bytes > 0; i++ {
		take := min(bytes, 28)
		if bytes-take > 0 && bytes-take < 12 {
			take = 16
		}
		n.Msgs = append(n.Msgs, put(string([]byte{byte(i)}), big[:take-12]))
		bytes -= take
	}
	return n
}

// P9.1: a leaf fits up to Room bytes, an inner node up to BufRoom, and neither with a byte more.
func TestFits(t *testing.T) {
	if api.Room != 248 || api.BufRoom != 205 {
		t.Fatal(api.Room, api.BufRoom)
	}
	for bytes := 190; bytes < 300; bytes++ {
		n := fullLeaf(bytes)
		if !Check(n) || Bytes(n) != bytes || Fits(n) != (bytes <= 248) {
			t.Error("leaf", bytes, Bytes(n), Fits(n))
		}
		n = fullInner(bytes)
		if !Check(n) || Bytes(n) != bytes || Fits(n) != (bytes <= 205) {
			t.Error("inner", bytes, Bytes(n), Fits(n))
		}
	}
	for i, n := range append(leaves(), inners()...) {
		room := api.BufRoom
		if n.Leaf {
			room = api.Room
		}
		if Fits(n) != (Bytes(n) <= room) {
			t.Fatal(i, n)
		}
	}
}

// P9.1: what is not valid does not fit, be it as small as it may, or just full.
func TestFitsBad(t *testing.T) {
	for i, n := range badNodes() {
		if Fits(n) {
			t.Error(i, n)
		}
	}
	leaf, inner := fullLeaf(api.Room), fullInner(api.BufRoom)
	for i, n := range []api.Node{
		{Leaf: true, Entries: leaf.Entries, Kids: inner.Kids, Pivots: inner.Pivots}, {Leaf: true, Entries: leaf.Entries, Msgs: []api.Msg{del("a")}}, {Leaf: true, Entries: append(slices.Clone(leaf.Entries[1:]), leaf.Entries[0])},
		{Kids: inner.Kids, Pivots: inner.Pivots, Msgs: inner.Msgs, Entries: []api.Entry{{}}}, {Kids: inner.Kids, Pivots: inner.Pivots[1:], Msgs: inner.Msgs}, {Kids: []int{1, 2, 0}, Pivots: inner.Pivots, Msgs: inner.Msgs}, {Kids: inner.Kids, Pivots: inner.Pivots, Msgs: append(slices.Clone(inner.Msgs[1:]), inner.Msgs[0])},
		{Leaf: true, Entries: []api.Entry{{Key: api.Key{N: math.MinInt}}}}, {Leaf: true, Entries: []api.Entry{{Key: api.Key{N: math.MaxInt}, Value: api.Value{N: math.MaxInt}}}},
	} {
		if Fits(n) {
			t.Error(i, n)
		}
	}
}

// turned are nodes that differ from n, and from each other, in one part.
func turned(n api.Node) []api.Node {
	var out []api.Node
	with := func(change func(n *api.Node)) {
		m := clone(n)
		change(&m)
		out = append(out, m)
	}
	with(func(n *api.Node) { n.Leaf = !n.Leaf })
	with(func(n *api.Node) { n.Entries = append(n.Entries, api.Entry{}) })
	with(func(n *api.Node) { n.Entries = append(n.Entries, entry("q", "x")) })
	with(func(n *api.Node) { n.Kids = append(n.Kids, 0) })
	with(func(n *api.Node) { n.Kids = append(n.Kids, 100) })
	with(func(n *api.Node) { n.Pivots = append(n.Pivots, api.Key{}) })
	with(func(n *api.Node) { n.Pivots = append(n.Pivots, kk("q")) })
	with(func(n *api.Node) { n.Msgs = append(n.Msgs, api.Msg{}) })
	with(func(n *api.Node) { n.Msgs = append(n.Msgs, del("q")) })
	for i := range n.Entries {
		with(func(n *api.Node) { n.Entries = slices.Delete(n.Entries, i, i+1) })
		with(func(n *api.Node) { n.Entries[i].Key.N += 100 })
		with(func(n *api.Node) { n.Entries[i].Key.B[7] ^= 8 })
		with(func(n *api.Node) { n.Entries[i].Value.N += 100 })
		with(func(n *api.Node) { n.Entries[i].Value.B[15] ^= 1 })
	}
	for i := range n.Kids {
		with(func(n *api.Node) { n.Kids = slices.Delete(n.Kids, i, i+1) })
		with(func(n *api.Node) { n.Kids[i] += 100 })
		with(func(n *api.Node) { n.Kids[i] = -n.Kids[i] })
	}
	for i := range n.Pivots {
		with(func(n *api.Node) { n.Pivots = slices.Delete(n.Pivots, i, i+1) })
		with(func(n *api.Node) { n.Pivots[i].N += 100 })
		with(func(n *api.Node) { n.Pivots[i].B[0] ^= 32 })
		with(func(n *api.Node) { n.Pivots[i].B[7] ^= 8 })
	}
	for i := range n.Msgs {
		with(func(n *api.Node) { n.Msgs = slices.Delete(n.Msgs, i, i+1) })
		with(func(n *api.Node) { n.Msgs[i].Kind += 4 })
		with(func(n *api.Node) { n.Msgs[i].Seq += 1 << 63 })
		with(func(n *api.Node) { n.Msgs[i].Key.N += 100 })
		with(func(n *api.Node) { n.Msgs[i].Key.B[7] ^= 8 })
		with(func(n *api.Node) { n.Msgs[i].Value.N += 100 })
		with(func(n *api.Node) { n.Msgs[i].Value.B[15] ^= 1 })
		with(func(n *api.Node) { n.Msgs[i].By += 1 << 63 })
	}
	return out
}

// whole has all four lists, as no valid node has.
func whole() api.Node {
	return api.Node{Entries: []api.Entry{entry("a", "x"), entry("b", "")}, Kids: []int{1, 2, 3}, Pivots: keys("d", "m"), Msgs: []api.Msg{put("a", "x"), del("e"), add("f", 7)}}
}

// P9.1: a node is the same as itself and as one of its own memory, and as no other one that differs in a part.
func TestSame(t *testing.T) {
	for _, n := range []api.Node{{}, leafOf(), leafOf(entry("a", "x")), fullLeaf(api.Room), innerOf(keys("d", "m")), innerOf(keys("m"), put("a", "x")), fullInner(api.BufRoom), whole()} {
		all := append(turned(n), n)
		for i, a := range all {
			for j, b := range all {
				if got := Same(a, clone(b)); got != (i == j) {
					t.Fatal(i, j, a, b, got)
				}
			}
		}
	}
}

// P9.1: the order of a list counts, and what stands ahead of the rest of a longer one is not it.
func TestSameOrder(t *testing.T) {
	for i, part := range []func(n *api.Node){
		func(n *api.Node) { slices.Reverse(n.Entries) }, func(n *api.Node) { slices.Reverse(n.Kids) }, func(n *api.Node) { slices.Reverse(n.Pivots) }, func(n *api.Node) { slices.Reverse(n.Msgs) },
		func(n *api.Node) { n.Entries = nil }, func(n *api.Node) { n.Kids = nil }, func(n *api.Node) { n.Pivots = nil }, func(n *api.Node) { n.Msgs = nil },
		func(n *api.Node) { n.Entries = n.Entries[:1] }, func(n *api.Node) { n.Kids = n.Kids[:1] }, func(n *api.Node) { n.Pivots = n.Pivots[:1] }, func(n *api.Node) { n.Msgs = n.Msgs[:1] },
		func(n *api.Node) { n.Entries = n.Entries[1:] }, func(n *api.Node) { n.Kids = n.Kids[1:] }, func(n *api.Node) { n.Pivots = n.Pivots[1:] }, func(n *api.Node) { n.Msgs = n.Msgs[1:] },
	} {
		n := whole()
		part(&n)
		if Same(n, whole()) || Same(whole(), n) || !Same(n, n) {
			t.Error(i)
		}
	}
}

// P9.1, R3: lists that are nil and lists that are empty are equal, in each part.
func TestSameEmpty(t *testing.T) {
	var all []api.Node
	for set := range 16 {
		var n api.Node
		if set&1 != 0 {
			n.Entries = []api.Entry{}
		}
		if set&2 != 0 {
			n.Kids = make([]int, 0, 3)
		}
		if set&4 != 0 {
			n.Pivots = keys("a")[:0]
		}
		if set&8 != 0 {
			n.Msgs = []api.Msg{}
		}
		all = append(all, n)
	}
	for i, a := range all {
		for j, b := range all {
			leaf := b
			leaf.Leaf = true
			if !Same(a, b) || Same(a, leaf) || Same(leaf, a) {
				t.Error(i, j)
			}
		}
	}
}

// P9.2: the weights and the first of the greatest ones.
func TestWeightsExamples(t *testing.T) {
	three := keys("d", "m")
	for i, x := range []struct {
		n    api.Node
		want []int
		most int
	}{
		{leafOf(), nil, -1}, {leafOf(entry("a", big)), nil, -1}, {fullLeaf(api.Room), nil, -1},
		{innerOf(keys("m")), []int{0, 0}, -1}, {innerOf(three), []int{0, 0, 0}, -1}, {api.Node{Kids: []int{1, 2, 3, 4}, Pivots: keys("a", "b", "c"), Msgs: []api.Msg{}}, []int{0, 0, 0, 0}, -1},
		{innerOf(three, put("a", ""), put("e", "x"), put("m", "x"), put("z", "")), []int{12, 13, 25}, 2},
		{innerOf(three, put("a", big), put("e", "x"), put("m", "x")), []int{28, 13, 13}, 0}, {innerOf(three, put("a", ""), put("e", "xy"), put("m", "x")), []int{12, 14, 13}, 1},
		// All below the first pivot, and all from the last one on.
		{innerOf(three, put("", ""), del("a"), add("c\xff\xff\xff\xff\xff\xff\xff", 1)), []int{11 + 11 + 26, 0, 0}, 0}, {innerOf(three, del("m"), add("m\x00", 1), put(ones, "")), []int{0, 0, 11 + 20 + 19}, 2}, {innerOf(three, del("d"), del("l")), []int{0, 22, 0}, 1},
		{innerOf(keys(""), del(""), del("a")), []int{0, 21}, 1}, {innerOf(keys(ones), del(""), del(ones[:7])), []int{27, 0}, 0}, {innerOf(keys(ones), del(ones)), []int{0, 18}, 1}, {innerOf(keys("a", "b", "c"), del("c")), []int{0, 0, 0, 11}, 3},
		// Of the same weight: the first.
		{innerOf(keys("m"), put("a", "x"), put("z", "x")), []int{13, 13}, 0}, {innerOf(three, put("a", "x"), put("e", "x")), []int{13, 13, 0}, 0}, {innerOf(three, put("e", "x"), put("z", "x")), []int{0, 13, 13}, 1}, {innerOf(three, put("a", "x"), put("z", "x")), []int{13, 0, 13}, 0},
		{innerOf(three, del("a"), put("e", "x"), put("z", "x")), []int{11, 13, 13}, 1}, {innerOf(three, put("a", "x"), del("e"), put("z", "x")), []int{13, 11, 13}, 0}, {innerOf(three, del("a"), del("e"), del("z")), []int{11, 11, 11}, 0}, {innerOf(keys("d", "m", "p"), del("a"), del("b"), del("e"), del("p"), del("q")), []int{22, 11, 0, 22}, 0},
		// More messages, but fewer bytes.
		{innerOf(keys("m"), del("a"), del("b"), put("x", big)), []int{22, 28}, 1}, {innerOf(keys("m"), add("abcdefgh", most), del("x"), del("y")), []int{26, 22}, 0},
		{fullInner(api.BufRoom), []int{28, 28, 149}, 2},
	} {
		if got := Weights(x.n); !slices.Equal(got, x.want) || Heaviest(x.n) != x.most {
			t.Error(i, got, Heaviest(x.n))
		}
	}
}

// P9.2: a child's weight is that of the messages whose keys are not below the pivot ahead of it, and below the one behind it.
func TestWeightsEach(t *testing.T) {
	for _, n := range inners() {
		want := make([]int, len(n.Kids))
		for _, m := range n.Msgs {
			i := 0
			for _, p := range n.Pivots {
				if key.Text(p) <= key.Text(m.Key) {
					i++
				}
			}
			want[i] += size(m)
		}
		first := -1
		if len(n.Msgs) > 0 {
			first = slices.Index(want, slices.Max(want))
		}
		if got := Weights(n); !slices.Equal(got, want) || Heaviest(n) != first {
			t.Fatal(n, got, want, Heaviest(n), first)
		}
	}
	for _, n := range leaves() {
		if len(Weights(n)) != 0 || Heaviest(n) != -1 {
			t.Fatal(n)
		}
	}
}

// P9.2: an inner node is heavy from half of BufRoom on, which is odd; a leaf never is.
func TestHeavy(t *testing.T) {
	for bytes := 12; bytes < 300; bytes++ {
		if n := fullInner(bytes); Bytes(n) != bytes || Heavy(n) != (bytes >= 103) {
			t.Error("inner", bytes, Heavy(n))
		}
	}
	for i, x := range []struct {
		n    api.Node
		want bool
	}{
		{innerOf(keys("m")), false}, {innerOf(keys("a", "b", "c")), false}, {innerOf(keys("m"), put("a", "x")), false},
		{innerOf(keys("m"), put("a", big), put("b", big), put("c", big), put("d", "012345")), false}, {innerOf(keys("m"), put("a", big), put("b", big), put("c", big), put("d", "0123456")), true}, {innerOf(keys("m"), put("a", big), put("b", big), put("c", big), put("d", "01234567")), true},
		{innerOf(keys("b"), put("a", big), put("b", big), put("c", big), add("d", 1)), true}, {innerOf(keys("b"), put("a", big), put("b", big), del("c"), add("d", 1)), false}, {fullInner(api.BufRoom), true},
		{leafOf(), false}, {leafOf(entry("a", big)), false}, {fullLeaf(api.Room), false}, {fullLeaf(api.Room + 1), false},
	} {
		if Heavy(x.n) != x.want {
			t.Error(i, !x.want)
		}
	}
	for _, n := range append(inners(), leaves()...) {
		if Heavy(n) != (!n.Leaf && 2*Bytes(n) >= api.BufRoom) {
			t.Fatal(n, Heavy(n))
		}
	}
}

// P9.3: all weights together are the bytes of an inner node.
func TestSumOfWeights(t *testing.T) {
	nodes := inners()
	for bytes := 12; bytes < 300; bytes++ {
		nodes = append(nodes, fullInner(bytes))
	}
	for _, n := range nodes {
		sum := 0
		for _, w := range Weights(n) {
			sum += w
		}
		if sum != Bytes(n) || len(Weights(n)) != len(n.Kids) {
			t.Fatal(n, sum, Bytes(n))
		}
	}
}

// long are nodes of many parts, valid and not.
func long() []api.Node {
	n := api.Node{Kids: []int{0}}
	for i := range 250 {
		k := string([]byte{'k', byte(i)})
		n.Entries = append(n.Entries, entry(k, big))
		n.Msgs = append(n.Msgs, change(i, k))
		n.Kids, n.Pivots = append(n.Kids, i+1), append(n.Pivots, kk(k))
	}
	return []api.Node{n, leafOf(n.Entries...), {Kids: []int{1, 2}, Pivots: keys("k\x07"), Msgs: n.Msgs}, {Kids: n.Kids, Pivots: n.Pivots[1:], Msgs: n.Msgs}, {Kids: n.Kids[2:], Pivots: n.Pivots, Msgs: n.Msgs}, {Leaf: true, Kids: n.Kids, Pivots: n.Pivots, Msgs: n.Msgs}}
}

// R1: of the weights of what is not valid nothing is said but that the calls end.
func TestBadEnd(t *testing.T) {
	for _, n := range append(badNodes(), whole(), leafOf(), api.Node{Kids: []int{1, 2, 3, 4}, Msgs: []api.Msg{del("a")}}, api.Node{Kids: []int{1, 2, 3}, Pivots: keys("b", "a"), Msgs: []api.Msg{del("a"), del("b")}}) {
		for _, m := range append(turned(n), n) {
			asked(m)
			Same(n, m)
		}
	}
	for _, n := range long() {
		asked(n)
	}
}

// answers of all calls about one node.
type answers struct {
	valid, fits, heavy, same bool
	bytes, first             int
	weights                  []int
}

func asked(n api.Node) answers {
	return answers{Check(n), Fits(n), Heavy(n), Same(n, n), Bytes(n), Heaviest(n), Weights(n)}
}

func equal(a, b answers) bool {
	same := slices.Equal(a.weights, b.weights)
	return same && a.valid == b.valid && a.fits == b.fits && a.heavy == b.heavy && a.same == b.same && a.bytes == b.bytes && a.first == b.first
}

func clone(n api.Node) api.Node {
	return api.Node{Leaf: n.Leaf, Entries: slices.Clone(n.Entries), Kids: slices.Clone(n.Kids), Pivots: slices.Clone(n.Pivots), Msgs: slices.Clone(n.Msgs)}
}

// roomy returns n, and the whole memory it lies in, which goes on behind its lists.
func roomy(n api.Node) (out, all api.Node) {
	all = api.Node{Leaf: n.Leaf, Entries: slices.Concat(n.Entries, []api.Entry{entry("x", ""), entry("y", big)}), Kids: slices.Concat(n.Kids, []int{71, 72}), Pivots: slices.Concat(n.Pivots, keys("x", "y")), Msgs: slices.Concat(n.Msgs, []api.Msg{del("x"), put("y", big)})}
	return api.Node{Leaf: n.Leaf, Entries: all.Entries[:len(n.Entries)], Kids: all.Kids[:len(n.Kids)], Pivots: all.Pivots[:len(n.Pivots)], Msgs: all.Msgs[:len(n.Msgs)]}, all
}

// equalNodes compares the parts by itself: Same is one of the calls that are tested.
func equalNodes(a, b api.Node) bool {
	return a.Leaf == b.Leaf && slices.Equal(a.Entries, b.Entries) && slices.Equal(a.Kids, b.Kids) && slices.Equal(a.Pivots, b.Pivots) && slices.Equal(a.Msgs, b.Msgs)
}

// R3, R4: no call changes what was handed in, nor the memory behind it, nor the result of an earlier call; the same call has the same result again.
func TestNothingChanged(t *testing.T) {
	for _, x := range append(append(append(leaves(), inners()...), badNodes()...), append(long(), whole())...) {
		n, all := roomy(x)
		was := clone(all)
		first := asked(n)
		kept := first
		kept.weights = slices.Clone(first.weights)
		if again := asked(n); !equal(again, kept) || !equal(asked(clone(x)), kept) || !first.same {
			t.Fatal("answers", x)
		}
		other := clone(x)
		other.Kids = append(other.Kids, 100)
		asked(other)
		if Same(n, other) || Same(other, n) || !equalNodes(all, was) {
			t.Fatal("changed", x)
		}
		if !equal(first, kept) {
			t.Fatal("later", x)
		}
		// What the caller does to the weights is to be seen neither in the node nor in other weights.
		more := Weights(n)
		_ = append(first.weights, 98)
		clear(first.weights)
		if !equalNodes(all, was) || !slices.Equal(more, kept.weights) || !equal(asked(n), kept) {
			t.Fatal("shared", x)
		}
	}
}
