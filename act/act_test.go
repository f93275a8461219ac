package act

import (
	"math"
	"slices"
	"testing"

	"orangery/api"
	"orangery/key"
	"orangery/msg"
	"orangery/node"
	"orangery/value"
)

const (
	ones = "\xff\xff\xff\xff\xff\xff\xff\xff" // the greatest key
	big  = "0123456789abcdef"                 // the longest value: a Put of it is of 28 bytes, if the key has one
	most = math.MaxUint64
)

func kk(s string) api.Key {
	k, _ := key.Of(s)
	return k
}

func keys(l ...string) []api.Key {
	var out []api.Key
	for _, s := range l {
		out = append(out, kk(s))
	}
	return out
}

func vv(s string) api.Value {
	v, _ := value.Of(s)
	return v
}

func entry(k, v string) api.Entry {
	return api.Entry{Key: kk(k), Value: vv(v)}
}

func put(seq uint64, k, v string) api.Msg {
	return api.Msg{Kind: api.Put, Seq: seq, Key: kk(k), Value: vv(v)}
}

func del(seq uint64, k string) api.Msg {
	return api.Msg{Kind: api.Del, Seq: seq, Key: kk(k)}
}

func add(seq uint64, k string, by uint64) api.Msg {
	return api.Msg{Kind: api.Add, Seq: seq, Key: kk(k), By: by}
}

// sum is the Put of a number.
func sum(seq uint64, k string, n uint64) api.Msg {
	return api.Msg{Kind: api.Put, Seq: seq, Key: kk(k), Value: value.From(n)}
}

// leafOf is a leaf of keys and values by turns.
func leafOf(l ...string) api.Node {
	n := api.Node{Leaf: true}
	for i := 0; i+1 < len(l); i += 2 {
		n.Entries = append(n.Entries, entry(l[i], l[i+1]))
	}
	return n
}

func innerOf(kids []int, pivots []api.Key, msgs ...api.Msg) api.Node {
	return api.Node{Kids: kids, Pivots: pivots, Msgs: msgs}
}

// two is an inner node of two children with messages.
func two(pivot string, msgs ...api.Msg) api.Node {
	return innerOf([]int{5, 6}, keys(pivot), msgs...)
}

// four is an inner node of four children with messages.
func four(msgs ...api.Msg) api.Node {
	return innerOf([]int{1, 2, 3, 4}, keys("b", "d", "f"), msgs...)
}

// same compares the parts by itself, so that no more than the calls of act is trusted.
func same(a, b api.Node) bool {
	return a.Leaf == b.Leaf && slices.Equal(a.Entries, b.Entries) && slices.Equal(a.Kids, b.Kids) && slices.Equal(a.Pivots, b.Pivots) && slices.Equal(a.Msgs, b.Msgs)
}

// zero tells whether n is the zero Node, but for lists that are empty instead of nil.
func zero(n api.Node) bool {
	return same(n, api.Node{})
}

func clone(n api.Node) api.Node {
	return api.Node{Leaf: n.Leaf, Entries: slices.Clone(n.Entries), Kids: slices.Clone(n.Kids), Pivots: slices.Clone(n.Pivots), Msgs: slices.Clone(n.Msgs)}
}

// entrySize and msgSize are the sizes by the chapters of packages leaf and msg.
func entrySize(e api.Entry) int {
	return 2 + e.Key.N + e.Value.N
}

func msgSize(m api.Msg) int {
	return 10 + m.Key.N + map[int]int{api.Put: 1 + m.Value.N, api.Add: 8}[m.Kind]
}

func size(n api.Node) int {
	total := 0
	for _, e := range n.Entries {
		total += entrySize(e)
	}
	for _, m := range n.Msgs {
		total += msgSize(m)
	}
	return total
}

// fits tells it of a node that is valid.
func fits(n api.Node) bool {
	if n.Leaf {
		return size(n) <= 248
	}
	return size(n) <= 205
}

// cell is what a key has: a value, or none.
type cell struct {
	v     api.Value
	there bool
}

func (c cell) after(m api.Msg) cell {
	switch m.Kind {
	case api.Put:
		return cell{m.Value, true}
	case api.Add:
		n := m.By
		if c.there {
			n += value.Number(c.v)
		}
		return cell{value.From(n), true}
	}
	return cell{}
}

// with returns the node after the messages of ms: by maps, whose keys are put in order at the end.
func with(n api.Node, ms ...api.Msg) api.Node {
	out := clone(n)
	out.Entries, out.Msgs = nil, nil
	cells, msgs := map[string]cell{}, map[string]api.Msg{}
	for _, e := range n.Entries {
		cells[key.Text(e.Key)] = cell{e.Value, true}
	}
	for _, m := range n.Msgs {
		msgs[key.Text(m.Key)] = m
	}
	for _, m := range ms {
		k := key.Text(m.Key)
		old, there := msgs[k]
		if n.Leaf {
			cells[k] = cells[k].after(m)
		} else if there {
			msgs[k] = msg.Compose(old, m)
		} else {
			msgs[k] = m
		}
	}
	for k, c := range cells {
		if c.there {
			out.Entries = append(out.Entries, api.Entry{Key: kk(k), Value: c.v})
		}
	}
	for _, m := range msgs {
		out.Msgs = append(out.Msgs, m)
	}
	slices.SortFunc(out.Entries, func(a, b api.Entry) int { return key.Compare(a.Key, b.Key) })
	slices.SortFunc(out.Msgs, func(a, b api.Msg) int { return key.Compare(a.Key, b.Key) })
	return out
}

// child is the index of the child of n to which k belongs.
func child(n api.Node, k api.Key) int {
	at := 0
	for _, p := range n.Pivots {
		if key.Text(p) <= key.Text(k) {
			at++
		}
	}
	return at
}

// batch returns the messages of p that go down to the child i at once, and p without them.
func batch(p api.Node, i int) (gone []api.Msg, rest api.Node) {
	rest = clone(p)
	rest.Msgs = nil
	total, full := 0, false
	for _, m := range p.Msgs {
		mine := child(p, m.Key) == i && !full
		if mine && total+msgSize(m) > 96 {
			mine, full = false, true
		}
		if mine {
			total += msgSize(m)
			gone = append(gone, m)
		} else {
			rest.Msgs = append(rest.Msgs, m)
		}
	}
	return gone, rest
}

// cut returns the two halves of n and the pivot between them; false if it can't be divided.
func cut(n api.Node) (a, b api.Node, pivot api.Key, ok bool) {
	if !n.Leaf {
		if len(n.Kids) != 4 {
			return api.Node{}, api.Node{}, api.Key{}, false
		}
		a, b = api.Node{Kids: n.Kids[:2], Pivots: n.Pivots[:1]}, api.Node{Kids: n.Kids[2:], Pivots: n.Pivots[2:]}
		for _, m := range n.Msgs {
			if key.Text(m.Key) < key.Text(n.Pivots[1]) {
				a.Msgs = append(a.Msgs, m)
			} else {
				b.Msgs = append(b.Msgs, m)
			}
		}
		return a, b, n.Pivots[1], true
	}
	if len(n.Entries) < 2 {
		return api.Node{}, api.Node{}, api.Key{}, false
	}
	at := 1
	for at < len(n.Entries)-1 && size(api.Node{Entries: n.Entries[:at]}) < size(api.Node{Entries: n.Entries[at:]}) {
		at++
	}
	return api.Node{Leaf: true, Entries: n.Entries[:at]}, api.Node{Leaf: true, Entries: n.Entries[at:]}, n.Entries[at].Key, true
}

// grown returns p with the child id and a pivot ahead of it behind the child i.
func grown(p api.Node, i int, pivot api.Key, id int) api.Node {
	out := clone(p)
	out.Kids = slices.Concat(p.Kids[:i+1], []int{id}, p.Kids[i+1:])
	out.Pivots = slices.Concat(p.Pivots[:i], []api.Key{pivot}, p.Pivots[i:])
	return out
}

// splitLeaf and splitInner are the calls as the chapter tells them, for arguments that are not refused but for what can't be divided.
func splitLeaf(p, c api.Node, i, id int) (p2, c2, n api.Node, ok bool) {
	gone, rest := batch(p, i)
	a, b, pivot, ok := cut(with(c, gone...))
	if !ok {
		return p, c, api.Node{}, false
	}
	return grown(rest, i, pivot, id), a, b, true
}

func splitInner(p, c api.Node, i, id int) (p2, c2, n api.Node, ok bool) {
	a, b, pivot, ok := cut(c)
	if !ok {
		return p, c, api.Node{}, false
	}
	return grown(p, i, pivot, id), a, b, true
}

// texts of keys, ascending: the least and the greatest, and some that stand side by side.
func texts() []string {
	return []string{"", "\x00", "a", "a\x00", "ab", "b", "b\x00\x00", ones}
}

// chosen are the texts that the bits of set choose.
func chosen(set int) []string {
	var out []string
	for i, s := range texts() {
		if set>>i&1 == 1 {
			out = append(out, s)
		}
	}
	return out
}

// change is a message of the key k, of another kind for each of three i.
func change(i int, k string) api.Msg {
	return []api.Msg{put(uint64(i), k, big[:i%17]), del(uint64(i), k), add(uint64(i), k, uint64(i))}[i%3]
}

// line is a way through numbers that look as if there were no rule: the same at each run.
type line uint64

func (l *line) below(n int) int {
	*l = *l*6364136223846793005 + 1442695040888963407
	return int(*l>>33) % n
}

// text of a key out of few, so that keys meet.
func (l *line) text() string {
	if l.below(4) == 0 {
		return texts()[l.below(len(texts()))]
	}
	return string([]byte{byte('a' + l.below(26))})
}

func (l *line) msg() api.Msg {
	k := l.text()
	switch l.below(5) {
	case 0:
		return del(uint64(l.below(1000)), k)
	case 1:
		return add(uint64(l.below(1000)), k, uint64(l.below(3))-1)
	case 2:
		return put(uint64(l.below(1000)), k, big)
	}
	return put(uint64(l.below(1000)), k, big[:l.below(17)])
}

// filled returns n with fewer than that many messages more, as far as it fits.
func (l *line) filled(n api.Node, fewer int) api.Node {
	for range l.below(fewer) {
		if m := with(n, l.msg()); fits(m) {
			n = m
		}
	}
	return n
}

// bare is an inner node of so many pivots, without messages.
func (l *line) bare(want int) api.Node {
	var pivots []string
	for len(pivots) < want {
		if s := l.text(); !slices.Contains(pivots, s) {
			pivots = append(pivots, s)
		}
	}
	slices.Sort(pivots)
	return innerOf([]int{9, 255, 1, 4}[:len(pivots)+1], keys(pivots...))
}

// leaf and inner are nodes that fit, from empty ones to full ones.
func (l *line) leaf() api.Node {
	return l.filled(leafOf(), 40)
}

func (l *line) inner() api.Node {
	return l.filled(l.bare(1+l.below(3)), 30)
}

// beneath is an inner node, without messages, whose pivots belong to the child i of p, if such a one is soon found.
func (l *line) beneath(p api.Node, i int) api.Node {
	want := 1 + l.below(3)
	n := l.bare(want)
	for tries := 0; tries < 200 && !pivotsWithin(p, i, n); tries++ {
		n = l.bare(want)
	}
	return n
}

// either is a leaf or an inner node.
func (l *line) either() api.Node {
	if l.below(2) == 0 {
		return l.leaf()
	}
	return l.inner()
}

// fullLeaf is a leaf of just that many bytes, at least 190; its keys are of one byte, from "\x01" on.
func fullLeaf(bytes int) api.Node {
	n := leafOf()
	for i := 1; bytes > 0; i++ {
		take := min(bytes, 19)
		if bytes-take > 0 && bytes-take < 3 {
			take = 10
		}
		n.Entries = append(n.Entries, entry(string([]byte{byte(i)}), big[:take-3]))
		bytes -= take
	}
	return n
}

// fullInner has messages of just that many bytes, at most 205 and at least 12; their keys are of one byte, from "\x01" on.
func fullInner(bytes int) api.Node {
	n := innerOf([]int{7, 8}, keys("k"))
	for i := 1; bytes > 0; i++ {
		take := min(bytes, 28)
		if bytes-take > 0 && bytes-take < 12 {
			take = 16
		}
		n.Msgs = append(n.Msgs, put(uint64(i), string([]byte{byte(i)}), big[:take-12]))
		bytes -= take
	}
	return n
}

// P10.1: a leaf has its entries after the message, an inner node has the message.
func TestInsert(t *testing.T) {
	for i, x := range []struct {
		n    api.Node
		m    api.Msg
		want api.Node
	}{
		{leafOf(), put(1, "a", "x"), leafOf("a", "x")}, {leafOf(), put(1, "", ""), leafOf("", "")}, {leafOf(), add(1, "a", 258), leafOf("a", "\x02\x01\x00\x00\x00\x00\x00\x00")}, {leafOf(), del(1, "a"), leafOf()},
		{leafOf("a", "x", "c", "y"), put(1, "b", "z"), leafOf("a", "x", "b", "z", "c", "y")}, {leafOf("a", "x", "c", "y"), put(1, "", "z"), leafOf("", "z", "a", "x", "c", "y")}, {leafOf("a", "x", "c", "y"), put(1, ones, "z"), leafOf("a", "x", "c", "y", ones, "z")},
		{leafOf("a", "x", "c", "y"), put(1, "a", "z"), leafOf("a", "z", "c", "y")}, {leafOf("a", "x", "c", "y"), del(1, "a"), leafOf("c", "y")}, {leafOf("a", "x", "c", "y"), del(1, "b"), leafOf("a", "x", "c", "y")}, {leafOf("a", "\x05"), add(1, "a", most), leafOf("a", "\x04\x00\x00\x00\x00\x00\x00\x00")},
		{two("m"), del(1, "a"), two("m", del(1, "a"))}, {two("m"), put(9, "z", "x"), two("m", put(9, "z", "x"))}, {two("m"), add(9, "m", 1), two("m", add(9, "m", 1))}, {four(), del(1, "a"), four(del(1, "a"))},
		{two("m", del(1, "a"), del(2, "c")), put(3, "b", "x"), two("m", del(1, "a"), put(3, "b", "x"), del(2, "c"))}, {two("m", del(1, "a"), del(2, "c")), put(3, "", "x"), two("m", put(3, "", "x"), del(1, "a"), del(2, "c"))}, {two("m", del(1, "a")), put(3, "a\x00", "x"), two("m", del(1, "a"), put(3, "a\x00", "x"))},
		{two("m", put(1, "a", "x")), put(3, "a", "y"), two("m", put(3, "a", "y"))}, {two("m", put(1, "a", "x")), del(3, "a"), two("m", del(3, "a"))}, {two("m", put(1, "a", "\x05")), add(3, "a", 2), two("m", sum(3, "a", 7))}, {two("m", del(1, "a")), add(3, "a", 2), two("m", sum(3, "a", 2))}, {two("m", add(1, "a", 3)), add(3, "a", 2), two("m", add(3, "a", 5))},
	} {
		if got, ok := Insert(x.n, x.m); !ok || !same(got, x.want) {
			t.Error(i, got, ok)
		}
	}
}

// P10.1: all choices of entries or messages, with each message of each key.
func TestInsertEach(t *testing.T) {
	for set := range 1 << len(texts()) {
		l, n := leafOf(), innerOf([]int{9, 255, 1}, keys("a", "b"))
		for i, s := range chosen(set) {
			l.Entries, n.Msgs = append(l.Entries, entry(s, big[:(set+i*5)%17])), append(n.Msgs, change(set+i, s))
		}
		for i, s := range texts() {
			for j := range 3 {
				m := change(900+i*3+j, s)
				for _, x := range []api.Node{l, n} {
					if !fits(x) {
						continue
					}
					want := with(x, m)
					if !fits(want) {
						want = x
					}
					if got, ok := Insert(x, m); ok != fits(with(x, m)) || !same(got, want) {
						t.Fatal(x, m, got, ok)
					}
				}
			}
		}
	}
}

// P10.1: what just fits goes in, with one byte more it does not; what counts is the result, not what comes.
func TestInsertFits(t *testing.T) {
	for i, x := range []struct {
		n    api.Node
		m    api.Msg
		size int // of the result, if it fits
	}{
		{fullLeaf(229), put(1, "z", big), 248}, {fullLeaf(230), put(1, "z", big), 0}, {fullLeaf(230), put(1, "z", big[:15]), 248}, {fullLeaf(245), put(1, "z", ""), 248}, {fullLeaf(246), put(1, "z", ""), 0}, {fullLeaf(246), put(1, "", ""), 248}, {fullLeaf(247), put(1, "", ""), 0}, {fullLeaf(248), put(1, "", ""), 0},
		{fullLeaf(248), del(1, "z"), 248}, {fullLeaf(248), del(1, "\x01"), 229}, {fullLeaf(248), put(1, "\x01", big), 248}, {fullLeaf(248), put(1, "\x01", ""), 232}, {fullLeaf(248), add(1, "\x01", 1), 240},
		{fullLeaf(237), add(1, "z", 1), 248}, {fullLeaf(238), add(1, "z", 1), 0}, {leafOf(), put(1, ones, big), 26},
		{fullInner(177), put(1, "z", big), 205}, {fullInner(178), put(1, "z", big), 0}, {fullInner(194), del(1, "z"), 205}, {fullInner(195), del(1, "z"), 0}, {fullInner(195), del(1, ""), 205}, {fullInner(196), del(1, ""), 0}, {fullInner(186), add(1, "z", 1), 205}, {fullInner(187), add(1, "z", 1), 0},
		{fullInner(205), del(1, "z"), 0}, {fullInner(205), put(1, "z", ""), 0}, {fullInner(205), put(1, "\x01", big), 205}, {fullInner(205), put(1, "\x01", big[:3]), 192}, {fullInner(205), del(1, "\x01"), 188}, {fullInner(205), add(1, "\x01", 1), 197},
	} {
		if got, ok := Insert(x.n, x.m); ok != (x.size > 0) || ok && (size(got) != x.size || !same(got, with(x.n, x.m))) || !ok && !same(got, x.n) {
			t.Error(i, size(x.n), size(got), ok)
		}
	}
	for bytes := 200; bytes <= 248; bytes++ {
		n := fullLeaf(bytes)
		if got, ok := Insert(n, put(1, "z", big[:7])); !node.Fits(n) || size(n) != bytes || ok != (bytes+10 <= 248) || ok != (size(got) == bytes+10) {
			t.Error("leaf", bytes, ok)
		}
	}
	for bytes := 160; bytes <= 205; bytes++ {
		n := fullInner(bytes)
		if got, ok := Insert(n, put(1, "z", big[:7])); !node.Fits(n) || size(n) != bytes || ok != (bytes+19 <= 205) || ok != (size(got) == bytes+19) {
			t.Error("inner", bytes, ok)
		}
	}
}

// P10.2: messages of one child go down to it; those of the others stay.
func TestPush(t *testing.T) {
	p := two("m", put(1, "a", "x"), del(2, "b"), put(3, "n", "y"))
	wide := innerOf([]int{1, 2, 3, 4}, keys("a", "e", "f"), del(1, ""), put(2, "a", "x"), del(3, "d"), put(4, "e", "y"), del(5, "f"), add(6, "z", 1))
	for i, x := range []struct {
		p, c   api.Node
		at     int
		p2, c2 api.Node
	}{
		{p, leafOf("b", "1", "c", "2"), 0, two("m", put(3, "n", "y")), leafOf("a", "x", "c", "2")}, {p, leafOf("b", "1", "c", "2"), 1, two("m", put(1, "a", "x"), del(2, "b")), leafOf("b", "1", "c", "2", "n", "y")}, {p, leafOf(), 0, two("m", put(3, "n", "y")), leafOf("a", "x")},
		{p, two("b", add(1, "n", 4)), 1, two("m", put(1, "a", "x"), del(2, "b")), two("b", put(3, "n", "y"))}, {p, two("b", del(1, "a")), 0, two("m", put(3, "n", "y")), two("b", put(1, "a", "x"), del(2, "b"))}, {p, four(), 0, two("m", put(3, "n", "y")), four(put(1, "a", "x"), del(2, "b"))},
		{two("m", add(7, "a", 2)), two("b", add(1, "a", 3)), 0, two("m"), two("b", add(7, "a", 5))}, {two("m", add(7, "a", 2)), two("b", put(1, "a", "\x03")), 0, two("m"), two("b", sum(7, "a", 5))}, {two("m", add(7, "a", 2)), two("b", del(1, "a")), 0, two("m"), two("b", sum(7, "a", 2))}, {two("m", add(7, "a", 2)), leafOf("a", "\x05"), 0, two("m"), leafOf("a", "\x07\x00\x00\x00\x00\x00\x00\x00")},
		{two("m", del(1, "l"), del(2, "m"), del(3, "z")), leafOf("l", "1", "m", "2", "z", "3"), 1, two("m", del(1, "l")), leafOf("l", "1")}, {two("m", del(1, "l"), del(2, "m"), del(3, "z")), leafOf("l", "1", "m", "2", "z", "3"), 0, two("m", del(2, "m"), del(3, "z")), leafOf("m", "2", "z", "3")},
		{two("m", del(1, "a")), leafOf("b", "1"), 0, two("m"), leafOf("b", "1")}, {two("m", del(1, "a")), leafOf(), 0, two("m"), leafOf()},
		{wide, leafOf(), 0, innerOf(wide.Kids, wide.Pivots, wide.Msgs[1:]...), leafOf()}, {wide, leafOf("d", "1"), 1, innerOf(wide.Kids, wide.Pivots, wide.Msgs[0], wide.Msgs[3], wide.Msgs[4], wide.Msgs[5]), leafOf("a", "x")},
		{wide, two("e"), 2, innerOf(wide.Kids, wide.Pivots, slices.Concat(wide.Msgs[:3], wide.Msgs[4:])...), two("e", put(4, "e", "y"))}, {wide, leafOf("f", "1"), 3, innerOf(wide.Kids, wide.Pivots, wide.Msgs[:4]...), leafOf("z", "\x01\x00\x00\x00\x00\x00\x00\x00")},
	} {
		if p2, c2, ok := Push(x.p, x.c, x.at); !ok || !same(p2, x.p2) || !same(c2, x.c2) {
			t.Error(i, p2, c2, ok)
		}
	}
}

// P10.2: of more messages than one batch just the first ones go down.
func TestPushBatch(t *testing.T) {
	for i, x := range []struct {
		p    api.Node
		at   int
		from int // the messages that go
		to   int
	}{
		{two("m", put(1, "a", big), put(2, "b", big), put(3, "c", big), put(4, "d", big)), 0, 0, 3},
		{two("m", put(1, "a", big), put(2, "b", big), put(3, "c", big), put(4, "d", "")), 0, 0, 4}, {two("m", put(1, "a", big), put(2, "b", big), put(3, "c", big), put(4, "d", "x")), 0, 0, 3},
		{two("m", put(1, "a", big), put(2, "b", big), put(3, "c", big), del(4, "d")), 0, 0, 4}, {two("m", put(1, "a", big), put(2, "b", big), put(3, "c", big), del(4, "dd")), 0, 0, 4}, {two("m", put(1, "a", big), put(2, "b", big), put(3, "c", big), del(4, "ddd")), 0, 0, 3},
		{two("m", put(1, "a", big), put(2, "b", big), put(3, "c", big[:4]), put(4, "d", big[:12])), 0, 0, 4}, {two("m", put(1, "a", big), put(2, "b", big), put(3, "c", big[:4]), put(4, "d", big[:13])), 0, 0, 3},
		{two("m", put(1, "a", big), put(2, "b", big), put(3, "c", big), put(4, "d", ""), put(5, "z", "")), 1, 4, 5}, {two("b", del(1, "a"), put(2, "b", big), put(3, "c", big), put(4, "d", big), put(5, "e", big)), 1, 1, 4},
		// what is behind the first that is too much stays, small or not
		{two("m", put(1, "a", big), put(2, "b", big), put(3, "c", big[:5]), put(4, "d", big), del(5, "e")), 0, 0, 3},
	} {
		rest := innerOf(x.p.Kids, x.p.Pivots, slices.Concat(x.p.Msgs[:x.from], x.p.Msgs[x.to:])...)
		for _, c := range []api.Node{leafOf(), two("x")} {
			if p2, c2, ok := Push(x.p, c, x.at); !ok || !same(p2, rest) || !same(c2, with(c, x.p.Msgs[x.from:x.to]...)) {
				t.Error(i, p2, c2, ok)
			}
		}
	}
	p := two("m", put(1, "a", big), put(2, "b", big), put(3, "c", big), put(4, "d", big), put(5, "e", ""))
	p2, c2, _ := Push(p, leafOf(), 0)
	p3, c3, ok := Push(p2, c2, 0)
	if !ok || len(p3.Msgs) != 0 || !same(c3, leafOf("a", big, "b", big, "c", big, "d", big, "e", "")) {
		t.Error("again", p3, c3, ok)
	}
	if p4, c4, ok := Push(p3, c3, 0); ok || !same(p4, p3) || !same(c4, c3) {
		t.Error("nothing left", ok)
	}
}

// P10.2: what just fits into the child goes down, with a byte more nothing does.
func TestPushFits(t *testing.T) {
	for i, x := range []struct {
		p, c api.Node
		size int // of the child, if it fits
	}{
		{two("z", put(1, "y", big)), fullLeaf(229), 248}, {two("z", put(1, "y", big)), fullLeaf(230), 0}, {two("z", put(1, "x", ""), put(2, "y", "")), fullLeaf(242), 248}, {two("z", put(1, "x", ""), put(2, "y", "")), fullLeaf(243), 0},
		{two("z", del(1, "\x01"), put(2, "y", big)), fullLeaf(248), 248}, {two("z", del(1, "\x01"), put(2, "x", ""), put(3, "y", big)), fullLeaf(248), 0}, {two("z", put(2, "\x00", big), del(3, "\x01")), fullLeaf(248), 248}, {two("z", del(1, "\x01")), fullLeaf(248), 229},
		{two("z", put(1, "y", big)), fullInner(177), 205}, {two("z", put(1, "y", big)), fullInner(178), 0}, {two("z", put(1, "x", ""), del(2, "y")), fullInner(182), 205}, {two("z", put(1, "x", ""), del(2, "y")), fullInner(183), 0},
		{two("z", put(1, "\x01", "")), fullInner(205), 189}, {two("z", del(1, "\x01"), put(2, "y", "")), fullInner(205), 200}, {two("z", put(1, "\x01", big)), fullInner(205), 205}, {two("z", del(1, "y")), fullInner(205), 0},
	} {
		p2, c2, ok := Push(x.p, x.c, 0)
		if ok != (x.size > 0) || ok && (len(p2.Msgs) > 0 || size(c2) != x.size || !same(c2, with(x.c, x.p.Msgs...))) || !ok && (!same(p2, x.p) || !same(c2, x.c)) {
			t.Error(i, size(x.c), size(c2), ok)
		}
	}
}

// P10.2: no messages go down from a leaf, to what is no child, or if there are none for the child.
func TestPushRefused(t *testing.T) {
	p := two("m", put(1, "a", "x"), put(3, "n", "y"))
	for i, x := range []struct {
		p, c api.Node
		at   int
	}{
		{leafOf("a", "x"), leafOf(), 0}, {leafOf(), leafOf(), 0}, {leafOf("a", "x"), two("m"), 0}, {leafOf("a", "x"), leafOf("b", "y"), 1},
		{p, leafOf(), -1}, {p, leafOf(), 2}, {p, leafOf(), 3}, {p, leafOf(), math.MaxInt}, {p, leafOf(), math.MinInt}, {p, two("m"), -1}, {p, two("m"), 2}, {four(del(1, "z")), leafOf(), 4}, {four(del(1, "a")), leafOf(), -1},
		{two("m"), leafOf("a", "x"), 0}, {two("m", del(1, "z")), leafOf("a", "x"), 0}, {two("m", del(1, "a")), leafOf("a", "x"), 1}, {two("m"), two("m"), 1}, {four(del(1, "a"), del(2, "d")), leafOf(), 1}, {four(del(1, "e")), four(), 3},
	} {
		if p2, c2, ok := Push(x.p, x.c, x.at); ok || !same(p2, x.p) || !same(c2, x.c) {
			t.Error(i, p2, c2, ok)
		}
	}
}

// P10.2, P10.6: of many nodes each child in turn.
func TestPushEach(t *testing.T) {
	l := line(1)
	did, large := 0, 0
	for range 6000 {
		p, c := l.inner(), l.either()
		for i := -1; i <= len(p.Kids); i++ {
			gone, rest := batch(p, i)
			wantC, want := with(c, gone...), len(gone) > 0
			if want && !fits(wantC) {
				want, large = false, large+1
			}
			if !want {
				rest, wantC = p, c
			} else {
				did++
			}
			p2, c2, ok := Push(p, c, i)
			if ok != want || !same(p2, rest) || !same(c2, wantC) || !node.Fits(p2) || !node.Fits(c2) {
				t.Fatal(p, c, i, ok)
			}
		}
	}
	if did < 1000 || large < 1000 {
		t.Error("too few", did, large)
	}
}

// P10.3: messages go down to the leaf, and it is divided; the new child is behind it.
func TestSplitLeaf(t *testing.T) {
	p := two("m", put(1, "n", "y"))
	three := innerOf([]int{5, 6, 7}, keys("d", "m"), put(1, "a", "x"), del(2, "d"), del(3, "e"), add(4, "m", 1))
	for i, x := range []struct {
		p, c      api.Node
		at, id    int
		p2, c2, n api.Node
	}{
		// no message moves
		{p, leafOf("a", "1", "b", "2", "c", "3"), 0, 9, innerOf([]int{5, 9, 6}, keys("c", "m"), put(1, "n", "y")), leafOf("a", "1", "b", "2"), leafOf("c", "3")},
		{two("m"), leafOf("a", "1", "b", "2"), 0, 1, innerOf([]int{5, 1, 6}, keys("b", "m")), leafOf("a", "1"), leafOf("b", "2")},
		{two("m"), leafOf("m", "1", "n", "2"), 1, 255, innerOf([]int{5, 6, 255}, keys("m", "n")), leafOf("m", "1"), leafOf("n", "2")},
		// entries come, are changed, and go
		{two("m", del(1, "m"), put(2, "x", "0")), leafOf("m", "1", "p", "2"), 1, 255, innerOf([]int{5, 6, 255}, keys("m", "x")), leafOf("p", "2"), leafOf("x", "0")},
		{p, leafOf("m", "1"), 1, 4, innerOf([]int{5, 6, 4}, keys("m", "n")), leafOf("m", "1"), leafOf("n", "y")}, {two("m", put(1, "a", "x"), put(2, "b", "y")), leafOf(), 0, 4, innerOf([]int{5, 4, 6}, keys("b", "m")), leafOf("a", "x"), leafOf("b", "y")},
		{two("m", put(1, "b", big)), leafOf("a", "1", "b", "2", "c", "3"), 0, 9, innerOf([]int{5, 9, 6}, keys("c", "m")), leafOf("a", "1", "b", big), leafOf("c", "3")}, {two("m", put(1, "a", big)), leafOf("a", "1", "b", "2", "c", "3"), 0, 9, innerOf([]int{5, 9, 6}, keys("b", "m")), leafOf("a", big), leafOf("b", "2", "c", "3")},
		// of three children each, whose messages alone move
		{three, leafOf("b", "1"), 0, 1, innerOf([]int{5, 1, 6, 7}, keys("b", "d", "m"), del(2, "d"), del(3, "e"), add(4, "m", 1)), leafOf("a", "x"), leafOf("b", "1")},
		{three, leafOf("d", "1", "e", "2", "f", "3", "g", "4"), 1, 254, innerOf([]int{5, 6, 254, 7}, keys("d", "g", "m"), put(1, "a", "x"), add(4, "m", 1)), leafOf("f", "3"), leafOf("g", "4")},
		{three, leafOf("m", "\xff", "n", "2"), 2, 4, innerOf([]int{5, 6, 7, 4}, keys("d", "m", "n"), put(1, "a", "x"), del(2, "d"), del(3, "e")), leafOf("m", "\x00\x01\x00\x00\x00\x00\x00\x00"), leafOf("n", "2")},
		// more than one batch
		{two("x", put(1, "a", big), put(2, "b", big), put(3, "c", big), put(4, "d", big)), leafOf(), 0, 9, innerOf([]int{5, 9, 6}, keys("c", "x"), put(4, "d", big)), leafOf("a", big, "b", big), leafOf("c", big)},
	} {
		if p2, c2, n, ok := SplitLeaf(x.p, x.c, x.at, x.id); !ok || !same(p2, x.p2) || !same(c2, x.c2) || !same(n, x.n) {
			t.Error(i, p2, c2, n, ok)
		}
	}
}

// P10.3: a batch that is too much for the leaf goes down all the same.
func TestSplitLeafOver(t *testing.T) {
	for bytes := 200; bytes <= 248; bytes++ {
		c := fullLeaf(bytes)
		for _, ms := range [][]api.Msg{{put(1, "y", "")}, {put(1, "w", big), put(2, "x", big), put(3, "y", big)}, {put(1, "", big), put(2, "\x00", big), put(3, "\x00\x00", big)}, {put(1, "\x01", big), put(2, "\x01\x01", big), put(3, "y", big)}, {put(1, "a", big), put(2, "b", big), put(3, "c", big), put(4, "d", big)}} {
			p := innerOf([]int{5, 6, 7}, keys("z", ones), append(slices.Clone(ms), del(9, "z"))...)
			wantP, wantC, wantN, _ := splitLeaf(p, c, 0, 9)
			p2, c2, n, ok := SplitLeaf(p, c, 0, 9)
			if !ok || !same(p2, wantP) || !same(c2, wantC) || !same(n, wantN) || !node.Fits(p2) || !node.Fits(c2) || !node.Fits(n) {
				t.Fatal(bytes, p2, c2, n, ok)
			}
			whole := size(with(c, ms[:min(3, len(ms))]...))
			if p3, c3, pushed := Push(p, c, 0); size(c2)+size(n) != whole || pushed != (whole <= 248) || !pushed && (!same(p3, p) || !same(c3, c)) {
				t.Fatal(bytes, whole, pushed)
			}
		}
	}
}

// refusedIDs are blocks that can't become a child of an inner node with those kids.
func refusedIDs(kids []int) []int {
	return append([]int{0, -1, 256, 257, math.MaxInt, math.MinInt, -255, 1 << 32}, kids...)
}

// P10.3: nodes of the wrong kinds, a parent without a place, and what is left with fewer than two entries.
func TestSplitLeafRefused(t *testing.T) {
	p, c := two("m", put(1, "n", "y")), leafOf("a", "1", "b", "2")
	type call struct {
		p, c   api.Node
		at, id int
	}
	calls := []call{
		{c, c, 0, 9}, {leafOf(), c, 0, 9}, {four(), c, 0, 9}, {four(del(1, "z")), c, 3, 9}, {four(put(1, "a", "x")), c, 0, 9},
		{p, c, -1, 9}, {p, c, 2, 9}, {p, c, 3, 9}, {p, c, math.MaxInt, 9}, {p, c, math.MinInt, 9}, {innerOf([]int{5, 6, 7}, keys("d", "m")), c, 3, 9},
		{p, p, 0, 9}, {p, four(), 0, 9}, {p, four(del(1, "a"), del(2, "z")), 1, 9}, {p, leafOf("a", "1"), 0, 9}, {p, leafOf(), 0, 9}, {p, leafOf(), 1, 9},
		{two("m", del(1, "a")), c, 0, 9}, {two("m", del(1, "a"), del(2, "b")), c, 0, 9}, {two("m", del(1, "a"), put(2, "b", "x")), c, 0, 9}, {two("m", put(1, "a", "x")), leafOf("a", "1"), 0, 9}, {two("m", put(1, "a", "x")), leafOf(), 0, 9},
	}
	for _, q := range []api.Node{p, innerOf([]int{5, 255, 1}, keys("d", "m"), put(1, "a", "x"))} {
		for _, id := range refusedIDs(q.Kids) {
			calls = append(calls, call{q, c, 0, id}, call{q, c, 1, id})
		}
	}
	for i, x := range calls {
		if p2, c2, n, ok := SplitLeaf(x.p, x.c, x.at, x.id); ok || !same(p2, x.p) || !same(c2, x.c) || !zero(n) {
			t.Error(i, p2, c2, n, ok)
		}
	}
}

// ids are blocks on both sides of each edge.
func ids() []int {
	return []int{math.MinInt, -256, -1, 0, 1, 2, 3, 4, 9, 100, 254, 255, 256, 257, 511, 512, math.MaxInt}
}

// P10.3, P10.4: of many parents and children just those calls divide that are not refused.
func TestSplitEach(t *testing.T) {
	l := line(2)
	leaves, inners, none := 0, 0, 0
	for range 8000 {
		p, c := l.inner(), l.either()
		id := ids()[l.below(len(ids()))]
		for i := -1; i <= len(p.Kids); i++ {
			may := len(p.Kids) < 4 && 0 <= i && i < len(p.Kids) && 1 <= id && id <= 255 && !slices.Contains(p.Kids, id)
			wantP, wantC, wantN, want := p, c, api.Node{}, false
			if may && c.Leaf {
				wantP, wantC, wantN, want = splitLeaf(p, c, i, id)
			}
			p2, c2, n, ok := SplitLeaf(p, c, i, id)
			if ok != want || !same(p2, wantP) || !same(c2, wantC) || !same(n, wantN) {
				t.Fatal("leaf", p, c, i, id, ok)
			}
			leaves += len(n.Entries)
			wantP, wantC, wantN, want = p, c, api.Node{}, false
			if may && !c.Leaf {
				wantP, wantC, wantN, want = splitInner(p, c, i, id)
			}
			p2, c2, n, ok = SplitInner(p, c, i, id)
			if ok != want || !same(p2, wantP) || !same(c2, wantC) || !same(n, wantN) {
				t.Fatal("inner", p, c, i, id, ok)
			}
			inners += len(n.Kids)
			if !may {
				none++
			}
		}
	}
	if leaves < 1000 || inners < 1000 || none < 1000 {
		t.Error("too few", leaves, inners, none)
	}
}

// P10.4: the halves have the messages on their side of the pivot in the middle; those of the parent stay where they are.
func TestSplitInner(t *testing.T) {
	p := two("m", del(9, "a"), put(8, "d", "x"))
	three := innerOf([]int{5, 6, 7}, keys("", "m"), put(1, "", "x"), del(2, "d"), add(4, "z", 1))
	c := four(del(1, "a"), del(2, "c"), del(3, "d"), del(4, "g"))
	left, right := innerOf([]int{1, 2}, keys("b"), del(1, "a"), del(2, "c")), innerOf([]int{3, 4}, keys("f"), del(3, "d"), del(4, "g"))
	for i, x := range []struct {
		p, c      api.Node
		at, id    int
		p2, c2, n api.Node
	}{
		{p, c, 0, 9, innerOf([]int{5, 9, 6}, keys("d", "m"), del(9, "a"), put(8, "d", "x")), left, right}, {p, c, 1, 255, innerOf([]int{5, 6, 255}, keys("m", "d"), del(9, "a"), put(8, "d", "x")), left, right},
		{three, c, 0, 1, innerOf([]int{5, 1, 6, 7}, keys("d", "", "m"), three.Msgs...), left, right}, {three, c, 1, 254, innerOf([]int{5, 6, 254, 7}, keys("", "d", "m"), three.Msgs...), left, right}, {three, c, 2, 4, innerOf([]int{5, 6, 7, 4}, keys("", "m", "d"), three.Msgs...), left, right},
		{two("m"), four(), 0, 8, innerOf([]int{5, 8, 6}, keys("d", "m")), innerOf([]int{1, 2}, keys("b")), innerOf([]int{3, 4}, keys("f"))},
		{two("m"), four(put(1, "d", "x")), 0, 8, innerOf([]int{5, 8, 6}, keys("d", "m")), innerOf([]int{1, 2}, keys("b")), innerOf([]int{3, 4}, keys("f"), put(1, "d", "x"))},
		{two("m"), four(put(1, "", "x"), add(2, "c"+ones[1:], 7)), 0, 8, innerOf([]int{5, 8, 6}, keys("d", "m")), innerOf([]int{1, 2}, keys("b"), put(1, "", "x"), add(2, "c"+ones[1:], 7)), innerOf([]int{3, 4}, keys("f"))},
		{two("m"), four(put(1, "d\x00", "x"), del(2, ones)), 0, 8, innerOf([]int{5, 8, 6}, keys("d", "m")), innerOf([]int{1, 2}, keys("b")), innerOf([]int{3, 4}, keys("f"), put(1, "d\x00", "x"), del(2, ones))},
		// a block that is a child of c only is not refused
		{two("m"), c, 0, 1, innerOf([]int{5, 1, 6}, keys("d", "m")), left, right}, {two("m"), c, 0, 3, innerOf([]int{5, 3, 6}, keys("d", "m")), left, right},
	} {
		if p2, c2, n, ok := SplitInner(x.p, x.c, x.at, x.id); !ok || !same(p2, x.p2) || !same(c2, x.c2) || !same(n, x.n) {
			t.Error(i, p2, c2, n, ok)
		}
	}
}

// P10.4: nodes of the wrong kinds, a parent without a place, and a child with fewer than MaxKids children.
func TestSplitInnerRefused(t *testing.T) {
	p, c := two("m", put(1, "n", "y")), four(del(1, "a"), del(4, "g"))
	type call struct {
		p, c   api.Node
		at, id int
	}
	calls := []call{
		{leafOf(), c, 0, 9}, {leafOf("a", "1", "b", "2"), c, 0, 9}, {four(), c, 0, 9}, {c, c, 3, 9},
		{p, c, -1, 9}, {p, c, 2, 9}, {p, c, 3, 9}, {p, c, math.MaxInt, 9}, {p, c, math.MinInt, 9}, {innerOf([]int{5, 6, 7}, keys("d", "m")), c, 3, 9},
		{p, leafOf("a", "1", "b", "2"), 0, 9}, {p, leafOf(), 0, 9}, {p, fullLeaf(248), 1, 9}, {p, p, 0, 9}, {p, innerOf([]int{1, 2, 3}, keys("b", "d"), del(1, "a")), 0, 9},
	}
	for _, q := range []api.Node{p, innerOf([]int{5, 255, 1}, keys("d", "m"), put(1, "a", "x"))} {
		for _, id := range refusedIDs(q.Kids) {
			calls = append(calls, call{q, c, 0, id}, call{q, c, 1, id})
		}
	}
	for i, x := range calls {
		if p2, c2, n, ok := SplitInner(x.p, x.c, x.at, x.id); ok || !same(p2, x.p) || !same(c2, x.c) || !zero(n) {
			t.Error(i, p2, c2, n, ok)
		}
	}
}

// P10.5: a leaf or an inner node becomes two, beneath a new root.
func TestSplitRoot(t *testing.T) {
	for i, x := range []struct {
		r       api.Node
		a, b    int
		r2      api.Node
		x, y    api.Node
		refused bool
	}{
		{r: leafOf("a", "1", "b", "2"), a: 7, b: 3, r2: innerOf([]int{7, 3}, keys("b")), x: leafOf("a", "1"), y: leafOf("b", "2")}, {r: leafOf("", "", ones, ""), a: 1, b: 255, r2: innerOf([]int{1, 255}, keys(ones)), x: leafOf("", ""), y: leafOf(ones, "")},
		{r: leafOf("a", "1", "b", "2", "c", "3"), a: 255, b: 1, r2: innerOf([]int{255, 1}, keys("c")), x: leafOf("a", "1", "b", "2"), y: leafOf("c", "3")}, {r: leafOf("a", big, "b", "2", "c", "3"), a: 2, b: 1, r2: innerOf([]int{2, 1}, keys("b")), x: leafOf("a", big), y: leafOf("b", "2", "c", "3")},
		{r: four(del(1, "a"), put(3, "d", "x")), a: 7, b: 8, r2: innerOf([]int{7, 8}, keys("d")), x: innerOf([]int{1, 2}, keys("b"), del(1, "a")), y: innerOf([]int{3, 4}, keys("f"), put(3, "d", "x"))}, {r: four(), a: 9, b: 8, r2: innerOf([]int{9, 8}, keys("d")), x: innerOf([]int{1, 2}, keys("b")), y: innerOf([]int{3, 4}, keys("f"))},
		{r: four(del(1, "c"), del(2, "c"+ones[1:]), del(3, "d"), del(4, "d\x00")), a: 254, b: 255, r2: innerOf([]int{254, 255}, keys("d")), x: innerOf([]int{1, 2}, keys("b"), del(1, "c"), del(2, "c"+ones[1:])), y: innerOf([]int{3, 4}, keys("f"), del(3, "d"), del(4, "d\x00"))},
		// blocks that are children of r are not refused
		{r: four(), a: 1, b: 4, r2: innerOf([]int{1, 4}, keys("d")), x: innerOf([]int{1, 2}, keys("b")), y: innerOf([]int{3, 4}, keys("f"))},
		{r: leafOf("a", "1"), a: 7, b: 8, refused: true}, {r: leafOf(), a: 7, b: 8, refused: true}, {r: two("m"), a: 7, b: 8, refused: true}, {r: two("m", del(1, "a"), del(2, "z")), a: 7, b: 8, refused: true}, {r: innerOf([]int{1, 2, 3}, keys("b", "d")), a: 7, b: 8, refused: true}, {r: innerOf([]int{1, 2, 3}, keys("b", "d"), del(1, "a")), a: 7, b: 8, refused: true},
		{r: leafOf("a", "1"), a: 7, b: 7, refused: true}, {r: leafOf(), a: 0, b: 0, refused: true}, {r: two("m"), a: 256, b: -1, refused: true},
	} {
		if x.refused {
			x.r2 = x.r
		}
		if r2, a, b, ok := SplitRoot(x.r, x.a, x.b); ok == x.refused || !same(r2, x.r2) || !same(a, x.x) || !same(b, x.y) {
			t.Error(i, r2, a, b, ok)
		}
	}
}

// P10.5: all pairs of blocks: two that differ, below the root, of those that there may be.
func TestSplitRootBlocks(t *testing.T) {
	for _, r := range []api.Node{leafOf("a", "1", "b", "2"), four(del(1, "a"), del(2, "e"))} {
		x, y, pivot, _ := cut(r)
		for _, a := range ids() {
			for _, b := range ids() {
				want := a != b && 1 <= a && a <= 255 && 1 <= b && b <= 255
				r2, c, d, ok := SplitRoot(r, a, b)
				if ok != want || ok && (!same(r2, innerOf([]int{a, b}, []api.Key{pivot})) || !same(c, x) || !same(d, y)) || !ok && (!same(r2, r) || !zero(c) || !zero(d)) {
					t.Error(r, a, b, ok)
				}
			}
		}
	}
}

// P10.5: many roots; the halves and the new root fit.
func TestSplitRootEach(t *testing.T) {
	l := line(3)
	did := 0
	for range 6000 {
		r := l.either()
		a, b, pivot, want := cut(r)
		r2, x, y, ok := SplitRoot(r, 255, 1)
		if ok != want || !same(x, a) || !same(y, b) || !ok && !same(r2, r) || ok && (!same(r2, innerOf([]int{255, 1}, []api.Key{pivot})) || !node.Fits(r2) || !node.Fits(x) || !node.Fits(y)) {
			t.Fatal(r, ok)
		}
		if ok {
			did++
		}
	}
	if did < 1000 {
		t.Error("too few", did)
	}
}

// into returns n without the entries and messages that do not belong to the child i of p: they could not be reached there.
func into(p api.Node, i int, n api.Node) api.Node {
	n = clone(n)
	n.Entries = slices.DeleteFunc(n.Entries, func(e api.Entry) bool { return child(p, e.Key) != i })
	n.Msgs = slices.DeleteFunc(n.Msgs, func(m api.Msg) bool { return child(p, m.Key) != i })
	return n
}

// pivotsWithin tells whether all pivots of n belong to the child i of p, and none of them is a pivot of p: only so n can be that child of a tree.
func pivotsWithin(p api.Node, i int, n api.Node) bool {
	for _, k := range n.Pivots {
		if child(p, k) != i || slices.Contains(p.Pivots, k) {
			return false
		}
	}
	return true
}

// has returns what k has at n and below, if it has was in the nodes below an inner n.
func has(n api.Node, k api.Key, was cell) cell {
	if n.Leaf {
		was = cell{}
		for _, e := range n.Entries {
			if e.Key == k {
				was = cell{e.Value, true}
			}
		}
	}
	for _, m := range n.Msgs {
		if m.Key == k {
			was = was.after(m)
		}
	}
	return was
}

// asked are keys that the nodes have, and others beside them.
func asked(nodes ...api.Node) []api.Key {
	out := keys(append(texts(), "c", "f", "m", "m\x00", "z")...)
	for _, n := range nodes {
		for _, e := range n.Entries {
			out = append(out, e.Key)
		}
		for _, m := range n.Msgs {
			out = append(out, m.Key)
		}
		out = append(out, n.Pivots...)
	}
	return out
}

// cells are what keys may have below a node.
func cells() []cell {
	return []cell{{}, {vv(""), true}, {vv("\x05"), true}, {value.From(most), true}}
}

// P10.6: the value of every key stays as it is when messages go down and when a child is divided, and what comes of it fits.
func TestValues(t *testing.T) {
	l := line(4)
	did := [3]int{}
	for range 8000 {
		p := l.inner()
		i := l.below(len(p.Kids))
		c := l.leaf()
		if l.below(2) == 0 {
			c = l.filled(l.beneath(p, i), 30)
		}
		c = into(p, i, c)
		type result struct {
			p, c, n api.Node
			ok      bool
		}
		var all [3]result
		all[0].p, all[0].c, all[0].ok = Push(p, c, i)
		all[1].p, all[1].c, all[1].n, all[1].ok = SplitLeaf(p, c, i, 77)
		if pivotsWithin(p, i, c) {
			all[2].p, all[2].c, all[2].n, all[2].ok = SplitInner(p, c, i, 77)
		}
		for what, r := range all {
			if !r.ok {
				continue
			}
			did[what]++
			if !node.Fits(r.p) || !node.Fits(r.c) || what > 0 && !node.Fits(r.n) {
				t.Fatal(what, "does not fit", p, c, i)
			}
			for _, k := range asked(p, c) {
				for _, was := range cells() {
					want, got := has(p, k, was), has(r.p, k, was)
					if child(p, k) == i {
						want = has(p, k, has(c, k, was))
						got = has(r.p, k, has(r.c, k, was))
						if what > 0 && child(r.p, k) > i {
							got = has(r.p, k, has(r.n, k, was))
						}
					}
					if got != want {
						t.Fatal(what, p, c, i, k, got, want)
					}
				}
			}
			checkKids(t, what, p, r.p, i)
		}
	}
	for what, n := range did {
		if n < 500 {
			t.Error("too few", what, n)
		}
	}
}

// checkKids: each key goes to the child that it went to, or to the one that is new behind it.
func checkKids(t *testing.T, what int, p, p2 api.Node, i int) {
	t.Helper()
	for _, k := range asked(p, p2) {
		was, is := p.Kids[child(p, k)], p2.Kids[child(p2, k)]
		if is != was && !(what > 0 && was == p.Kids[i] && is == 77) {
			t.Fatal(what, p, p2, k)
		}
	}
}

// P10.6: of a root that is divided each key has its value in the half to which it belongs.
func TestValuesOfRoot(t *testing.T) {
	l := line(5)
	did := 0
	for range 8000 {
		r := l.either()
		r2, x, y, ok := SplitRoot(r, 1, 2)
		if !ok {
			continue
		}
		did++
		for _, k := range asked(r) {
			half, other := x, y
			if child(r2, k) == 1 {
				half, other = y, x
			}
			for _, was := range cells() {
				if got := has(r2, k, has(half, k, was)); got != has(r, k, was) {
					t.Fatal(r, k, got)
				}
			}
			if !r.Leaf && half.Kids[child(half, k)] != r.Kids[child(r, k)] || other.Leaf && has(other, k, cell{}).there {
				t.Fatal(r, k)
			}
		}
	}
	if did < 1000 {
		t.Error("too few", did)
	}
}

// P10.6: in a tree of three nodes with a few keys the values are those of a map, whatever is inserted and pushed.
func TestValuesOfTree(t *testing.T) {
	l := line(6)
	p, kids := two("m"), []api.Node{leafOf(), leafOf()}
	want := map[api.Key]cell{}
	refused, pushed := 0, 0
	for seq := range uint64(20000) {
		m := l.msg()
		m.Seq = seq
		if p2, ok := Insert(p, m); ok {
			p, want[m.Key] = p2, want[m.Key].after(m)
		} else {
			refused++
			for i := range kids {
				var ok bool
				if p, kids[i], ok = Push(p, kids[i], i); ok {
					pushed++
				}
			}
			// A leaf that is full is emptied by hand, so that it goes on.
			if at := l.below(2); size(kids[at]) > 200 {
				for _, e := range kids[at].Entries {
					k := e.Key
					kids[at], _ = Insert(kids[at], del(0, key.Text(k)))
					want[k] = has(p, k, cell{})
				}
			}
		}
		k := m.Key
		if got := has(p, k, has(kids[child(p, k)], k, cell{})); got != want[k] {
			t.Fatal(seq, m, got, want[k])
		}
	}
	if refused < 1000 || pushed < 1000 {
		t.Error("too few", refused, pushed)
	}
}

// badNodes do not fit: by a part that is not valid, by one that is foreign, or by their size.
func badNodes() []api.Node {
	long := api.Node{Kids: []int{0}}
	for i := range 250 {
		k := string([]byte{'k', byte(i)})
		long.Entries, long.Msgs = append(long.Entries, entry(k, big)), append(long.Msgs, change(i, k))
		long.Kids, long.Pivots = append(long.Kids, i+1), append(long.Pivots, kk(k))
	}
	out := []api.Node{
		{}, long, {Leaf: true, Entries: long.Entries}, {Kids: []int{1, 2}, Pivots: keys("k\x07"), Msgs: long.Msgs}, {Kids: long.Kids, Pivots: long.Pivots}, {Kids: long.Kids, Pivots: long.Pivots[:3], Msgs: long.Msgs}, {Kids: long.Kids[:2], Pivots: long.Pivots, Msgs: long.Msgs}, {Leaf: true, Entries: long.Entries, Kids: long.Kids, Pivots: long.Pivots, Msgs: long.Msgs},
		leafOf("b", "", "a", ""), leafOf("a", "", "a", "x"), {Leaf: true, Kids: []int{1, 2}, Pivots: keys("m"), Msgs: []api.Msg{del(1, "a")}}, {Kids: []int{1, 2}, Pivots: keys("m"), Entries: []api.Entry{entry("a", "x"), entry("b", "x")}},
		{Leaf: true, Entries: []api.Entry{{Key: api.Key{N: 9}}, {Key: api.Key{N: -1}, Value: api.Value{N: 17}}, {Value: api.Value{N: math.MinInt}}}}, {Leaf: true, Entries: []api.Entry{{Key: api.Key{N: math.MaxInt}, Value: api.Value{N: math.MaxInt}}, {Key: api.Key{N: math.MinInt}}}},
		{Kids: []int{1, 2}}, {Kids: []int{1}}, {Kids: []int{1}, Pivots: keys("a")}, {Pivots: keys("a", "b", "c")}, {Kids: []int{1, 2, 3, 4}}, {Kids: []int{1, 2, 3, 4}, Pivots: keys("a"), Msgs: []api.Msg{del(1, "a")}}, {Kids: []int{1, 2, 3, 4}, Pivots: keys("c", "b", "a"), Msgs: []api.Msg{del(1, "a"), del(2, "b"), del(3, "c")}}, {Kids: []int{1, 1, 0, -1}, Pivots: keys("a", "a", "a"), Msgs: []api.Msg{del(1, "a"), del(1, "a")}},
		{Kids: []int{math.MaxInt, math.MinInt}, Pivots: []api.Key{{N: math.MaxInt}}, Msgs: []api.Msg{{Kind: math.MaxInt, Key: api.Key{N: math.MinInt}}, {}}}, two("m", del(1, "b"), del(2, "a")), two("m", api.Msg{}), two("m", api.Msg{Kind: api.Get, Key: kk("a")}), two("m", api.Msg{Kind: api.Put, Value: api.Value{N: -1}}, api.Msg{Kind: api.Add, Key: api.Key{N: 9}, Value: api.Value{N: 99}}),
		{Kids: []int{1, 2, 3, 4, 5}, Pivots: keys("a", "b", "c", "d"), Msgs: []api.Msg{del(1, "a")}},
	}
	return out
}

func goodNodes() []api.Node {
	out := []api.Node{
		leafOf(), leafOf("a", "1"), leafOf("a", "1", "b", "2"), leafOf("m", "1", "p", "2", "z", big), fullLeaf(248), two("m"), two("m", put(1, "a", "x"), del(2, "n")), two("z", put(1, "a", big), put(2, "b", big), put(3, "c", big), put(4, "d", big)), innerOf([]int{7, 8, 10}, keys("d", "m"), put(1, "a", "x"), add(2, "d", 2), del(3, "z")), fullInner(205),
		four(), four(del(1, "a"), put(2, "c", "x"), add(3, "d", 3), del(4, "g")), innerOf([]int{5, 255, 1, 6}, keys("\x02", "\x04", "\x05"), fullInner(205).Msgs...),
	}
	return out
}

// outcome is the answer of one call: its nodes and whether it was done.
type outcome struct {
	nodes []api.Node
	ok    bool
}

// calls are all calls with the nodes p and c.
func calls(p, c api.Node, m api.Msg, i, id int) []outcome {
	n, ok := Insert(c, m)
	out := []outcome{{[]api.Node{n}, ok}}
	p2, c2, ok := Push(p, c, i)
	out = append(out, outcome{[]api.Node{p2, c2}, ok})
	p2, c2, n, ok = SplitLeaf(p, c, i, id)
	out = append(out, outcome{[]api.Node{p2, c2, n}, ok})
	p2, c2, n, ok = SplitInner(p, c, i, id)
	out = append(out, outcome{[]api.Node{p2, c2, n}, ok})
	p2, c2, n, ok = SplitRoot(c, i+1, id)
	return append(out, outcome{[]api.Node{p2, c2, n}, ok})
}

func equal(a, b []outcome) bool {
	return slices.EqualFunc(a, b, func(x, y outcome) bool { return x.ok == y.ok && slices.EqualFunc(x.nodes, y.nodes, same) })
}

func kept(l []outcome) []outcome {
	var out []outcome
	for _, x := range l {
		y := outcome{ok: x.ok}
		for _, n := range x.nodes {
			y.nodes = append(y.nodes, clone(n))
		}
		out = append(out, y)
	}
	return out
}

// R1: of nodes that do not fit, and of messages that are not valid, nothing is said but that the calls end.
func TestBadEnd(t *testing.T) {
	all := append(badNodes(), goodNodes()...)
	wrong := []api.Msg{{}, put(1, "a", "x"), {Kind: api.Get, Key: kk("a")}, {Kind: math.MinInt, Key: api.Key{N: math.MaxInt}}, {Kind: api.Add, Key: api.Key{N: -1}, Value: api.Value{N: 99}, By: most}, {Kind: api.Put, Key: api.Key{N: 9}, Value: api.Value{N: -1}}, {Kind: api.Del, Key: kk("a"), By: 1}}
	for _, p := range all {
		for at, c := range all {
			for i := -1; i < 6; i++ {
				calls(p, c, wrong[(at+i+1)%len(wrong)], i, 9)
			}
		}
		for _, id := range ids() {
			calls(p, p, wrong[0], id, id)
			calls(p, leafOf("a", "1", "b", "2"), wrong[3], id, 9)
		}
		for _, m := range wrong {
			calls(p, p, m, 0, 9)
		}
	}
}

// roomy returns n, and the whole memory it lies in, which goes on behind its lists.
func roomy(n api.Node) (out, all api.Node) {
	all = api.Node{Leaf: n.Leaf, Entries: slices.Concat(n.Entries, leafOf("x", "", "y", big).Entries), Kids: slices.Concat(n.Kids, []int{71, 72}), Pivots: slices.Concat(n.Pivots, keys("x", "y")), Msgs: slices.Concat(n.Msgs, []api.Msg{del(1, "x"), put(2, "y", big)})}
	return api.Node{Leaf: n.Leaf, Entries: all.Entries[:len(n.Entries)], Kids: all.Kids[:len(n.Kids)], Pivots: all.Pivots[:len(n.Pivots)], Msgs: all.Msgs[:len(n.Msgs)]}, all
}

// spoil overwrites all lists of n, after more was appended to each.
func spoil(n api.Node) {
	_ = append(n.Entries, entry("q", "q"), entry("r", "r"))
	_ = append(n.Kids, 98, 99)
	_ = append(n.Pivots, keys("q", "r")...)
	_ = append(n.Msgs, del(98, "q"), del(99, "r"))
	clear(n.Entries)
	clear(n.Kids)
	clear(n.Pivots)
	clear(n.Msgs)
}

// R3, R4: no call changes what was handed in, nor the memory behind it, nor the result of an earlier call; the same call has the same result again.
func TestNothingChanged(t *testing.T) {
	nodes := append(goodNodes(), badNodes()...)
	for _, x := range nodes {
		for _, y := range nodes {
			p, allP := roomy(x)
			c, allC := roomy(y)
			wasP, wasC := clone(allP), clone(allC)
			for i, m := range []api.Msg{put(9, "a", "y"), del(9, "b"), add(9, "n", 1)} {
				first := calls(p, c, m, i, 9)
				want := kept(first)
				if again := calls(p, c, m, i, 9); !equal(again, want) || !equal(calls(clone(x), clone(y), m, i, 9), want) {
					t.Fatal("answers", x, y)
				}
				for _, r := range want {
					for _, n := range r.nodes {
						calls(n, c, m, i, 9)
						calls(p, n, m, i, 9)
					}
				}
				if !same(allP, wasP) || !same(allC, wasC) || !equal(first, want) {
					t.Fatal("changed", x, y)
				}
			}
		}
	}
}

// LANGUAGE.md's rule 7: what the caller does to one list of an answer is to be seen in no other list, and not in what was handed in.
func TestNothingShared(t *testing.T) {
	nodes := append(goodNodes(), badNodes()...)
	for _, x := range nodes {
		for _, y := range nodes {
			p, allP := roomy(x)
			c, allC := roomy(y)
			wasP, wasC := clone(allP), clone(allC)
			for i, r := range calls(p, c, put(9, "a", "y"), 1, 9) {
				for at, n := range r.nodes {
					others := kept([]outcome{{r.nodes[at+1:], r.ok}})
					spoil(n)
					if !equal(others, []outcome{{r.nodes[at+1:], r.ok}}) {
						t.Fatal("of one answer", i, x, y)
					}
				}
				if !same(allP, wasP) || !same(allC, wasC) {
					t.Fatal("of an argument", i, x, y)
				}
			}
		}
	}
}

// The examples of the chapter.
func TestExamples(t *testing.T) {
	if n, ok := Insert(two("m"), del(1, "a")); !ok || !slices.Equal(n.Msgs, []api.Msg{del(1, "a")}) {
		t.Error("Insert", n, ok)
	}
	if r, _, _, ok := SplitRoot(leafOf("a", "", "b", ""), 1, 2); !ok || !slices.Equal(r.Pivots, keys("b")) {
		t.Error("SplitRoot", r, ok)
	}
}
