package codec

import (
	"bytes"
	"math"
	"slices"
	"testing"

	"orangery/api"
	"orangery/key"
	"orangery/node"
	"orangery/value"
)

const (
	ones = "\xff\xff\xff\xff\xff\xff\xff\xff" // the greatest key
	big  = "0123456789abcdef"                 // the longest value
	most = math.MaxUint64
)

func kk(s string) api.Key {
	k, _ := key.Of(s)
	return k
}

func keys(l ...string) []api.Key {
	var out []api.Key
	for _, s := range l {
		out = append(out, kk(s))
	}
	return out
}

func vv(s string) api.Value {
	v, _ := value.Of(s)
	return v
}

func entry(k, v string) api.Entry {
	return api.Entry{Key: kk(k), Value: vv(v)}
}

func put(seq uint64, k, v string) api.Msg {
	return api.Msg{Kind: api.Put, Seq: seq, Key: kk(k), Value: vv(v)}
}

func del(seq uint64, k string) api.Msg {
	return api.Msg{Kind: api.Del, Seq: seq, Key: kk(k)}
}

func add(seq uint64, k string, by uint64) api.Msg {
	return api.Msg{Kind: api.Add, Seq: seq, Key: kk(k), By: by}
}

func leafOf(entries ...api.Entry) api.Node {
	return api.Node{Leaf: true, Entries: entries}
}

func innerOf(kids []int, pivots []api.Key, msgs ...api.Msg) api.Node {
	return api.Node{Kids: kids, Pivots: pivots, Msgs: msgs}
}

// two is an inner node with two children.
func two(msgs ...api.Msg) api.Node {
	return innerOf([]int{7, 3}, keys("m"), msgs...)
}

// same compares the parts by itself, and not by package node.
func same(a, b api.Node) bool {
	return a.Leaf == b.Leaf && slices.Equal(a.Entries, b.Entries) && slices.Equal(a.Kids, b.Kids) && slices.Equal(a.Pivots, b.Pivots) && slices.Equal(a.Msgs, b.Msgs)
}

func clone(n api.Node) api.Node {
	return api.Node{Leaf: n.Leaf, Entries: slices.Clone(n.Entries), Kids: slices.Clone(n.Kids), Pivots: slices.Clone(n.Pivots), Msgs: slices.Clone(n.Msgs)}
}

// checksum of bytes, bit by bit.
func checksum(b []byte) uint32 {
	register := uint32(math.MaxUint32)
	for _, x := range b {
		register ^= uint32(x)
		for range 8 {
			low := register & 1
			register >>= 1
			if low == 1 {
				register ^= 0xedb88320
			}
		}
	}
	return ^register
}

// number n in that many bytes, the lowest first.
func number(n uint64, width int) []byte {
	var out []byte
	for range width {
		out = append(out, byte(n%256))
		n /= 256
	}
	return out
}

// sealed is b with the checksum that is right for its bytes.
func sealed(b []byte) []byte {
	out := slices.Concat(b[:4], make([]byte, 4), b[8:])
	return slices.Concat(out[:4], number(uint64(checksum(out)), 4), out[8:])
}

// block of a head and of what stands behind the checksum, up to the length of a block.
func block(kind, many, msgs, spare byte, parts ...[]byte) []byte {
	rest := slices.Concat(parts...)
	return sealed(slices.Concat([]byte{kind, many, msgs, spare, 0, 0, 0, 0}, rest, make([]byte, 248-len(rest))))
}

// text is a length in one byte, and the bytes.
func text(s string) []byte {
	return append([]byte{byte(len(s))}, s...)
}

// pair is an entry as bytes.
func pair(k, v string) []byte {
	return slices.Concat(text(k), text(v))
}

// kids are children as bytes.
func kids(ids ...uint64) []byte {
	var out []byte
	for _, id := range ids {
		out = append(out, number(id, 4)...)
	}
	return out
}

// change is a message as bytes, with what stands behind its key.
func change(kind byte, seq uint64, k string, rest ...byte) []byte {
	return slices.Concat([]byte{kind}, number(seq, 8), text(k), rest)
}

// blockOf is the block of a node that fits, by the words of the chapter.
func blockOf(n api.Node) []byte {
	var rest []byte
	if n.Leaf {
		for _, e := range n.Entries {
			rest = append(rest, pair(key.Text(e.Key), value.Text(e.Value))...)
		}
		return block(1, byte(len(n.Entries)), 0, 0, rest)
	}
	for _, id := range n.Kids {
		rest = append(rest, kids(uint64(id))...)
	}
	for _, p := range n.Pivots {
		rest = append(rest, text(key.Text(p))...)
	}
	for _, m := range n.Msgs {
		var more []byte
		switch m.Kind {
		case api.Put:
			more = text(value.Text(m.Value))
		case api.Add:
			more = number(m.By, 8)
		}
		rest = append(rest, change(byte(m.Kind), m.Seq, key.Text(m.Key), more...)...)
	}
	return block(2, byte(len(n.Kids)), byte(len(n.Msgs)), 0, rest)
}

// scan goes through a block byte by byte, and notes what Encode would not have written.
type scan struct {
	b   []byte
	bad bool
}

func (s *scan) number(width int) uint64 {
	if len(s.b) < width {
		s.b, s.bad = nil, true
		return 0
	}
	n := uint64(0)
	for i := range width {
		n += uint64(s.b[i]) << (8 * i)
	}
	s.b = s.b[width:]
	return n
}

func (s *scan) text(longest int) string {
	n := int(s.number(1))
	if n > longest || n > len(s.b) {
		s.b, s.bad = nil, true
		return ""
	}
	out := string(s.b[:n])
	s.b = s.b[n:]
	return out
}

func (s *scan) msg() api.Msg {
	kind, seq, k := int(s.number(1)), s.number(8), s.text(8)
	switch kind {
	case api.Put:
		return put(seq, k, s.text(16))
	case api.Del:
		return del(seq, k)
	case api.Add:
		return add(seq, k, s.number(8))
	}
	s.bad = true
	return api.Msg{}
}

// nodeOf returns the node of a block whose checksum is right; false if there is none.
func nodeOf(b []byte) (api.Node, bool) {
	s := &scan{b: b[8:]}
	kind, many, msgs := b[0], int(b[1]), int(b[2])
	n := api.Node{Leaf: kind == 1}
	s.bad = kind != 1 && kind != 2 || kind == 1 && msgs != 0 || b[3] != 0
	if n.Leaf {
		for i := 0; i < many && !s.bad; i++ {
			n.Entries = append(n.Entries, api.Entry{Key: kk(s.text(8)), Value: vv(s.text(16))})
		}
	} else {
		for i := 0; i < many && !s.bad; i++ {
			n.Kids = append(n.Kids, int(s.number(4)))
		}
		for i := 1; i < many && !s.bad; i++ {
			n.Pivots = append(n.Pivots, kk(s.text(8)))
		}
		for i := 0; i < msgs && !s.bad; i++ {
			n.Msgs = append(n.Msgs, s.msg())
		}
	}
	behind := slices.ContainsFunc(s.b, func(x byte) bool { return x != 0 })
	if s.bad || behind || !node.Fits(n) {
		return api.Node{}, false
	}
	return n, true
}

// fullLeaf is a valid leaf of just that many bytes, from 190 to 300.
func fullLeaf(size int) api.Node {
	n := leafOf()
	for i := 0; size > 0; i++ {
		take := min(size, 19)
		if size-take > 0 && size-take < 3 {
			take = 10
		}
		n.Entries = append(n.Entries, entry(string([]byte{byte(i)}), big[:take-3]))
		size -= take
	}
	return n
}

// fullInner is a valid inner node with messages of just that many bytes, at least 12, and with children and pivots of the greatest size.
func fullInner(size int) api.Node {
	n := innerOf([]int{1, 255, 2, 254}, keys("aaaaaaaa", "bbbbbbbb", ones))
	for i := 0; size > 0; i++ {
		take := min(size, 28)
		if size-take > 0 && size-take < 12 {
			take = 16
		}
		n.Msgs = append(n.Msgs, put(most-uint64(i), string([]byte{byte(i)}), big[:take-12]))
		size -= take
	}
	return n
}

// crowdedLeaf has as many entries as fit, and all its bytes.
func crowdedLeaf() api.Node {
	n := leafOf(entry("", ""))
	for i := range 82 {
		n.Entries = append(n.Entries, entry(string([]byte{byte(i)}), ""))
	}
	return n
}

// crowdedInner has as many messages as fit.
func crowdedInner() api.Node {
	n := two(del(0, ""))
	for i := range 17 {
		n.Msgs = append(n.Msgs, del(uint64(i), string([]byte{byte(i)})))
	}
	return n
}

// sample is a node that fits, by a name.
type sample struct {
	name string
	n    api.Node
}

func samples() []sample {
	return []sample{
		{"no entries", leafOf()},
		{"one entry", leafOf(entry("a", "x"))},
		{"an empty entry", leafOf(entry("", ""))},
		{"entries", leafOf(entry("", big), entry("\x00", "\x00"), entry("a", "xyz"), entry("abcdefgh", big), entry(ones, ""))},
		{"a full leaf", fullLeaf(api.Room)},
		{"a full leaf but for a byte", fullLeaf(api.Room - 1)},
		{"no messages", two()},
		{"three children", innerOf([]int{255, 1, 128}, keys("", "\x00"))},
		{"four children", innerOf([]int{4, 5, 6, 7}, keys("d", "m", "p"))},
		{"a put", two(put(1, "a", "x"))},
		{"a del", two(del(most, "abcdefgh"))},
		{"an add", two(add(0, "", most))},
		{"messages", two(put(258, "a", "x"), del(1, "b"), add(2, "c", 5))},
		{"messages of the edges", innerOf([]int{1, 255}, keys(ones), put(0, "", ""), add(most, "\x00", 0), put(most, "abcdefgh", big), del(0, "b"), add(0, ones, most))},
		{"a full inner node", fullInner(api.BufRoom)},
		{"a full inner node but for a byte", fullInner(api.BufRoom - 1)},
		{"many entries", crowdedLeaf()},
		{"many messages", crowdedInner()},
	}
}

// texts of keys, ascending.
func texts() []string {
	return []string{"", "\x00", "a", "a\x00", "ab", "b", "b\x00\x00", ones}
}

// mixed are nodes that fit, some hundreds of each kind: each choice of the texts, with values and messages of many sizes.
func mixed() []api.Node {
	var out []api.Node
	for set := range 1 << len(texts()) {
		bottom, inner := leafOf(), innerOf([]int{9, 255, 1, 4}[:2+set%3], keys("a", "b", "c")[:1+set%3])
		for i, s := range texts() {
			if set>>i&1 == 0 {
				continue
			}
			x := uint64(set)<<(i*7) + uint64(i)
			bottom.Entries = append(bottom.Entries, entry(s, big[:(set+i*5)%17]))
			inner.Msgs = append(inner.Msgs, []api.Msg{put(x, s, big[:set%13]), del(x, s), add(x, s, x*x)}[(set+i)%3])
		}
		out = append(out, bottom, inner)
	}
	return out
}

// fitting are all the nodes above.
func fitting() []api.Node {
	out := mixed()
	for _, x := range samples() {
		out = append(out, x.n)
	}
	return out
}

// P11.1: the chapter's example, to the last byte; its checksum is that of a 1 and 255 bytes 0.
func TestEncodeEmptyLeaf(t *testing.T) {
	b, code := Encode(api.Node{Leaf: true})
	if code != api.OK || len(b) != 256 || !bytes.Equal(b[:4], []byte{1, 0, 0, 0}) || !bytes.Equal(b[8:], make([]byte, 248)) {
		t.Fatal(code, b)
	}
	want := checksum(append([]byte{1}, make([]byte, 255)...))
	if !bytes.Equal(b[4:8], []byte{byte(want), byte(want >> 8), byte(want >> 16), byte(want >> 24)}) {
		t.Error(b[4:8], want)
	}
	if checksum([]byte("123456789")) != 0xcbf43926 {
		t.Error("the checksum of the tests")
	}
}

// P11.1: blocks that are written out byte by byte.
func TestEncodeBytes(t *testing.T) {
	for i, x := range []struct {
		n    api.Node
		head []byte
		rest []byte
	}{
		{leafOf(), []byte{1, 0, 0, 0}, nil},
		{leafOf(entry("", "")), []byte{1, 1, 0, 0}, []byte{0, 0}},
		{leafOf(entry("a", "xyz"), entry("ab", "")), []byte{1, 2, 0, 0}, []byte{1, 'a', 3, 'x', 'y', 'z', 2, 'a', 'b', 0}},
		{leafOf(entry("abcdefgh", big)), []byte{1, 1, 0, 0}, []byte("\x08abcdefgh\x100123456789abcdef")},
		{innerOf([]int{1, 255}, keys("")), []byte{2, 2, 0, 0}, []byte{1, 0, 0, 0, 255, 0, 0, 0, 0}},
		{innerOf([]int{9, 1, 4}, keys("d", "mn")), []byte{2, 3, 0, 0}, []byte{9, 0, 0, 0, 1, 0, 0, 0, 4, 0, 0, 0, 1, 'd', 2, 'm', 'n'}},
		{innerOf([]int{1, 2, 3, 4}, keys("a", "b", "abcdefgh"[1:])), []byte{2, 4, 0, 0}, []byte("\x01\x00\x00\x00\x02\x00\x00\x00\x03\x00\x00\x00\x04\x00\x00\x00\x01a\x01b\x07bcdefgh")},
		{two(put(258, "a", "xy")), []byte{2, 2, 1, 0}, []byte{7, 0, 0, 0, 3, 0, 0, 0, 1, 'm', 1, 2, 1, 0, 0, 0, 0, 0, 0, 1, 'a', 2, 'x', 'y'}},
		{two(put(0, "", ""), del(most, "a"), add(1<<56, "b", 0x0807060504030201)), []byte{2, 2, 3, 0}, []byte{7, 0, 0, 0, 3, 0, 0, 0, 1, 'm',
			1, 0, 0, 0, 0, 0, 0, 0, 0, 0, 0, 2, 255, 255, 255, 255, 255, 255, 255, 255, 1, 'a', 3, 0, 0, 0, 0, 0, 0, 0, 1, 1, 'b', 1, 2, 3, 4, 5, 6, 7, 8}},
		{two(add(0, "abcdefgh", 0), add(0, "b", most)), []byte{2, 2, 2, 0}, []byte{7, 0, 0, 0, 3, 0, 0, 0, 1, 'm',
			3, 0, 0, 0, 0, 0, 0, 0, 0, 8, 'a', 'b', 'c', 'd', 'e', 'f', 'g', 'h', 0, 0, 0, 0, 0, 0, 0, 0, 3, 0, 0, 0, 0, 0, 0, 0, 0, 1, 'b', 255, 255, 255, 255, 255, 255, 255, 255}},
	} {
		want := make([]byte, 256)
		copy(want, x.head)
		copy(want[8:], x.rest)
		sum := checksum(want)
		copy(want[4:], []byte{byte(sum), byte(sum >> 8), byte(sum >> 16), byte(sum >> 24)})
		if b, code := Encode(x.n); code != api.OK || !bytes.Equal(b, want) {
			t.Error(i, code, b, want)
		}
		if n, code := Decode(want); code != api.OK || !same(n, x.n) {
			t.Error(i, code, n)
		}
	}
}

// P11.1, P11.2, P11.3: each node has the block of the chapter's words; the block has that node, and the node that block again.
func TestThereAndBack(t *testing.T) {
	for i, n := range fitting() {
		b, code := Encode(n)
		if code != api.OK || !bytes.Equal(b, blockOf(n)) {
			t.Fatal("encode", i, code, n, b)
		}
		back, code := Decode(b)
		if code != api.OK || !same(back, n) {
			t.Fatal("decode", i, code, n, back)
		}
		again, code := Encode(back)
		if code != api.OK || !bytes.Equal(again, b) {
			t.Fatal("again", i, code, n)
		}
	}
}

// P11.3: nodes that differ have blocks that differ.
func TestBlocksDiffer(t *testing.T) {
	seen := map[string]api.Node{}
	for _, n := range fitting() {
		b, _ := Encode(n)
		if other, there := seen[string(b)]; there && !same(other, n) {
			t.Error(other, n)
		}
		seen[string(b)] = n
	}
	if len(seen) < 400 {
		t.Error(len(seen))
	}
}

// P11.1: a node just fits, or has a byte too many; the full inner node, with all it may have, reaches to the last byte of its block.
func TestEncodeRoom(t *testing.T) {
	for size := 190; size < 300; size++ {
		for _, x := range []struct {
			n    api.Node
			room int
		}{{fullLeaf(size), 248}, {fullInner(size), 205}} {
			b, code := Encode(x.n)
			if size <= x.room && (code != api.OK || !bytes.Equal(b, blockOf(x.n))) {
				t.Error("fits", x.room, size, code)
			}
			if size > x.room && (code != api.ErrForm || len(b) != 0) {
				t.Error("does not fit", x.room, size, code)
			}
		}
	}
	for i, n := range []api.Node{fullLeaf(248), fullInner(205)} {
		if b, _ := Encode(n); len(b) != 256 || b[255] == 0 {
			t.Error(i, b)
		}
	}
}

// badNodes are not valid, or do not fit.
func badNodes() []api.Node {
	a, many := kk("a"), leafOf()
	for i := range 256 {
		many.Entries = append(many.Entries, entry(string([]byte{byte(i)}), ""))
	}
	return []api.Node{
		{}, {Kids: []int{1}}, {Kids: []int{1, 2}}, {Pivots: keys("a")}, {Msgs: []api.Msg{del(1, "a")}}, {Entries: []api.Entry{entry("a", "x")}}, many,
		fullLeaf(249), fullInner(206), two(fullInner(206).Msgs...),
		{Leaf: true, Kids: []int{1, 2}, Pivots: keys("m")}, {Leaf: true, Kids: []int{1}}, {Leaf: true, Pivots: keys("m")}, {Leaf: true, Msgs: []api.Msg{del(1, "a")}}, {Kids: []int{1, 2}, Pivots: keys("m"), Entries: []api.Entry{entry("a", "x")}},
		leafOf(entry("b", ""), entry("a", "")), leafOf(entry("a", ""), entry("a", "")), leafOf(api.Entry{Key: api.Key{N: 9}}), leafOf(api.Entry{Key: api.Key{N: -1}}), leafOf(api.Entry{Key: api.Key{N: math.MaxInt}}), leafOf(api.Entry{Key: api.Key{N: 1, B: [8]byte{'a', 'b'}}}),
		leafOf(api.Entry{Key: a, Value: api.Value{N: 17}}), leafOf(api.Entry{Key: a, Value: api.Value{N: -1}}), leafOf(api.Entry{Key: a, Value: api.Value{N: math.MinInt}}), leafOf(api.Entry{Key: a, Value: api.Value{B: [16]byte{15: 1}}}),
		innerOf([]int{1, 2, 3, 4, 5}, keys("a", "b", "c", "d")), innerOf([]int{1}, nil), innerOf([]int{1, 2, 3}, keys("a")), innerOf([]int{1, 2}, keys("a", "b")),
		innerOf([]int{0, 1}, keys("m")), innerOf([]int{1, 256}, keys("m")), innerOf([]int{1, -1}, keys("m")), innerOf([]int{1, 1}, keys("m")), innerOf([]int{1, math.MaxInt}, keys("m")), innerOf([]int{1, 1<<32 + 2}, keys("m")),
		innerOf([]int{1, 2, 3}, keys("b", "a")), innerOf([]int{1, 2, 3}, keys("a", "a")), innerOf([]int{1, 2}, []api.Key{{N: 9}}), innerOf([]int{1, 2}, []api.Key{{N: -1}}), innerOf([]int{1, 2}, []api.Key{{B: [8]byte{1}}}),
		two(api.Msg{}), two(api.Msg{Kind: api.Get, Key: a}), two(api.Msg{Kind: -1, Key: a}), two(api.Msg{Kind: api.Put + 256, Key: a}), two(api.Msg{Kind: api.Del, Key: api.Key{N: 9}}), two(api.Msg{Kind: api.Del, Key: api.Key{N: math.MinInt}}),
		two(api.Msg{Kind: api.Put, Key: a, Value: api.Value{N: 17}}), two(api.Msg{Kind: api.Put, Key: a, By: 1}), two(api.Msg{Kind: api.Del, Key: a, By: 1}), two(api.Msg{Kind: api.Del, Key: a, Value: vv("x")}), two(api.Msg{Kind: api.Add, Key: a, Value: vv("x")}),
		two(del(1, "b"), del(2, "a")), two(del(1, "a"), put(2, "a", "")),
	}
}

// P11.1, R2: of a node that does not fit there is no block.
func TestEncodeBad(t *testing.T) {
	for i, n := range badNodes() {
		if b, code := Encode(n); code != api.ErrForm || len(b) != 0 {
			t.Error(i, code, b)
		}
	}
}

// decodes tells whether Decode returns that error, and the zero Node with it.
func decodes(b []byte, code api.Errno) bool {
	n, got := Decode(b)
	return got == code && same(n, api.Node{})
}

// P11.2: bytes of another length are no block, whatever they are: the length is asked ahead of the checksum.
func TestDecodeLength(t *testing.T) {
	whole := blockOf(two(put(1, "a", "x")))
	long := make([]byte, 600)
	copy(long, whole)
	for n := range len(long) {
		if n == 256 {
			continue
		}
		if !decodes(long[:n], api.ErrForm) || !decodes(make([]byte, n), api.ErrForm) {
			t.Error(n)
		}
		if n >= 8 && !decodes(sealed(long[:n]), api.ErrForm) {
			t.Error("sealed", n)
		}
	}
	if !decodes(nil, api.ErrForm) || !decodes([]byte{}, api.ErrForm) || !decodes(whole[:255], api.ErrForm) || !decodes(append(slices.Clone(whole), 0), api.ErrForm) || !decodes(append(slices.Clone(whole), whole...), api.ErrForm) {
		t.Error("edges")
	}
}

// P11.2, P11.3: a block with one byte changed, at each place, to each value, has a wrong checksum.
func TestDecodeChanged(t *testing.T) {
	for _, x := range samples() {
		whole := blockOf(x.n)
		b := slices.Clone(whole)
		for at := range b {
			for value := range 256 {
				b[at] = byte(value)
				if b[at] != whole[at] && !decodes(b, api.ErrSum) {
					t.Fatal(x.name, at, value)
				}
			}
			b[at] = whole[at]
		}
	}
}

// P11.2: the checksum is asked ahead of what the bytes say; its bytes are the lowest first, and count as 0 in it.
func TestDecodeSum(t *testing.T) {
	good := blockOf(leafOf(entry("a", "x")))
	turned, alone := slices.Clone(good), slices.Clone(good)
	slices.Reverse(turned[4:8])
	copy(alone[4:], number(uint64(checksum(slices.Concat(good[:4], good[8:]))), 4))
	// A checksum of all bytes, with the earlier one among them.
	twice := slices.Concat(good[:4], number(uint64(checksum(good)), 4), good[8:])
	for i, b := range [][]byte{make([]byte, 256), bytes.Repeat([]byte{255}, 256), turned, alone, twice, slices.Concat(good[:4], make([]byte, 4), good[8:])} {
		if !decodes(b, api.ErrSum) {
			t.Error(i)
		}
	}
	for i, b := range badBlocks() {
		if !decodes(b, api.ErrForm) {
			t.Error("form", i)
		}
		for at := 4; at < 8; at++ {
			b[at] ^= 1
			if !decodes(b, api.ErrSum) {
				t.Error("sum", i, at)
			}
			b[at] ^= 1
		}
	}
}

// badBlocks have the checksum of their bytes, but there is no node of theirs.
func badBlocks() [][]byte {
	return slices.Concat(badHeads(), badLeaves(), badInners(), badChanges(), cutOff())
}

// badHeads: kinds, counts and the fourth byte.
func badHeads() [][]byte {
	leaf, inner := pair("a", "x"), slices.Concat(kids(7, 3), text("m"))
	both := slices.Concat(inner, change(2, 1, "a"), change(2, 1, "b"))
	out := [][]byte{sealed(make([]byte, 256)), sealed(bytes.Repeat([]byte{255}, 256)), sealed(bytes.Repeat([]byte{1}, 256)), sealed(bytes.Repeat([]byte{2}, 256))}
	for kind := range 256 {
		if kind != 1 {
			out = append(out, block(byte(kind), 0, 0, 0), block(byte(kind), 1, 0, 0, leaf))
		}
		if kind != 2 {
			out = append(out, block(byte(kind), 2, 0, 0, inner), block(byte(kind), 2, 2, 0, both))
		}
	}
	for x := 1; x < 256; x++ {
		out = append(out, block(1, 0, 0, byte(x)), block(1, 1, 0, byte(x), leaf), block(2, 2, 0, byte(x), inner), block(2, 2, 2, byte(x), both))
		out = append(out, block(1, 0, byte(x), 0), block(1, 1, byte(x), 0, leaf)) // a leaf has no messages
	}
	for many := range 256 {
		if many != 0 && many != 1 {
			out = append(out, block(1, byte(many), 0, 0))
		}
		if many != 1 {
			out = append(out, block(1, byte(many), 0, 0, leaf))
		}
		if many != 2 {
			out = append(out, block(2, byte(many), 0, 0, inner), block(2, byte(many), 2, 0, both), block(2, 2, byte(many), 0, both))
		}
		if many != 0 {
			out = append(out, block(2, 2, byte(many), 0, inner))
		}
	}
	return out
}

// badLeaves: keys, values, their order, and what stands behind the end.
func badLeaves() [][]byte {
	leaf := func(many byte, parts ...[]byte) []byte { return block(1, many, 0, 0, parts...) }
	return [][]byte{
		leaf(1, text("123456789"), text("")), leaf(1, text("a"), text(big+"0")), leaf(1, []byte{9}), leaf(1, []byte{255}), leaf(1, []byte{0, 17}), leaf(1, []byte{0, 255}), leaf(1, []byte{1, 'a', 128}), leaf(2, pair("a", ""), text("123456789"), text("")), leaf(2, pair("a", ""), text("b"), text(big+"0")),
		leaf(2, pair("b", ""), pair("a", "")), leaf(2, pair("a", "x"), pair("a", "x")), leaf(2, pair("", ""), pair("", "")), leaf(3, pair("a", ""), pair("c", ""), pair("b", "")), leaf(2, pair("a\x00", ""), pair("a", "")), leaf(2, pair(ones, ""), pair("", "")),
		leaf(0, pair("a", "")), leaf(0, pair("", "x")), leaf(1, pair("a", ""), pair("b", "")), leaf(1, pair("a", ""), []byte{0, 1}), leaf(1, pair("a", "x"), make([]byte, 243), []byte{1}), leaf(0, make([]byte, 247), []byte{128}),
	}
}

// badInners: children, pivots, their order, and what stands behind the end.
func badInners() [][]byte {
	inner := func(many byte, parts ...[]byte) []byte { return block(2, many, 0, 0, parts...) }
	out := [][]byte{
		inner(0), inner(1), inner(1, kids(1)), inner(2, kids(1, 2)[:4], text("m")), inner(5, kids(1, 2, 3, 4, 5), text("a"), text("b"), text("c"), text("d")),
		inner(2, kids(5, 5), text("m")), inner(3, kids(5, 6, 5), text("a"), text("b")), inner(2, kids(0, 0), text("m")),
		inner(3, kids(1, 2, 3), text("b"), text("a")), inner(3, kids(1, 2, 3), text("a"), text("a")), inner(3, kids(1, 2, 3)), inner(4, kids(1, 2, 3, 4), text("a"), text("c"), text("b")), inner(3, kids(1, 2, 3), text("a\x00"), text("a")),
		inner(2, kids(1, 2), text("123456789")), inner(2, kids(1, 2), []byte{9}), inner(2, kids(1, 2), []byte{255}), inner(3, kids(1, 2, 3), text("a"), []byte{9}), inner(2, kids(1, 2), make([]byte, 239), []byte{1}),
		inner(2, kids(1, 2), text("m"), []byte{1}), inner(2, kids(1, 2), text("m"), change(2, 1, "a")), inner(2, kids(1, 2, 3), text("m")), inner(2, kids(1, 2), text("m"), text("n")), inner(2, kids(1, 2), text("m"), make([]byte, 237), []byte{1}),
	}
	for _, id := range []uint64{0, 256, 257, 1 << 16, 1<<16 + 1, 1<<24 + 1, 1<<31 - 1, 1 << 31, 1<<32 - 1} {
		out = append(out, inner(2, kids(id, 2), text("m")), inner(2, kids(2, id), text("m")), inner(4, kids(1, 2, id, 3), text("a"), text("b"), text("c")))
	}
	return out
}

// badChanges: messages that are not valid, not in order, or too many.
func badChanges() [][]byte {
	ahead := slices.Concat(kids(1, 2), text("m"))
	buffer := func(msgs byte, parts ...[]byte) []byte { return block(2, 2, msgs, 0, ahead, slices.Concat(parts...)) }
	one := number(1, 8)
	out := [][]byte{
		buffer(2, change(2, 1, "b"), change(2, 2, "a")), buffer(2, change(2, 1, "a"), change(2, 2, "a")), buffer(2, change(1, 1, "", 0), change(3, 2, "", one...)), buffer(3, change(2, 1, "a"), change(2, 2, "c"), change(2, 2, "b")),
		buffer(1, change(2, 1, "123456789")), buffer(1, change(1, 1, "123456789", 0)), buffer(1, change(3, 1, "123456789", one...)), buffer(1, change(1, 1, "a", text(big+"0")...)), buffer(1, change(1, 1, "a", 255)),
		buffer(1, change(2, 1, "a"), []byte{1}), buffer(1, change(2, 1, "a", 1, 'x')), buffer(1, change(1, 1, "a", 1, 'x', 'y')), buffer(1, change(3, 1, "a", one...), []byte{1}), buffer(1, change(2, 1, "a"), change(2, 1, "b")), buffer(0, change(2, 1, "a")),
	}
	for kind := range 256 {
		if kind < 1 || kind > 3 {
			out = append(out, buffer(1, change(byte(kind), 1, "a")), buffer(1, change(byte(kind), 1, "a", 0)), buffer(1, change(byte(kind), 1, "a", one...)), buffer(2, change(2, 1, "a"), change(byte(kind), 1, "b")))
		}
	}
	// The block has bytes for all of these, but the messages have more than fit.
	for size := 206; size <= 238; size++ {
		out = append(out, blockOf(two(fullInner(size).Msgs...)))
	}
	return out
}

// cutOff are blocks to whose end an entry or a message reaches, and beyond it.
func cutOff() [][]byte {
	var out [][]byte
	last := pair(ones, big)
	for cut := 1; cut < len(last); cut++ {
		n := fullLeaf(248 - cut)
		out = append(out, block(1, byte(len(n.Entries)+1), 0, 0, blockOf(n)[8:256-cut], last[:cut]))
	}
	for _, last := range [][]byte{change(1, most, ones, text(big)...), change(2, most, ones), change(3, most, ones, number(most, 8)...)} {
		for cut := 1; cut < len(last); cut++ {
			n := fullInner(205 - cut)
			out = append(out, block(2, 4, byte(len(n.Msgs)+1), 0, blockOf(n)[8:256-cut], last[:cut]))
		}
	}
	return out
}

// P11.2: blocks with the checksum of their bytes that no node has.
func TestDecodeBad(t *testing.T) {
	for i, b := range badBlocks() {
		if len(b) != 256 || !decodes(b, api.ErrForm) {
			t.Error(i, b)
		}
		if n, ok := nodeOf(b); ok {
			t.Error("the tests take it for a block", i, n)
		}
	}
}

// answers tells whether n and code are what Decode is to return for a block with the right checksum: want if there is a node, ErrForm if there is none.
func answers(n api.Node, code api.Errno, want api.Node, there bool) bool {
	if !there {
		return code == api.ErrForm && same(n, api.Node{})
	}
	return code == api.OK && same(n, want)
}

// P11.2: of the blocks that differ from that of a node in one byte and in the checksum, Decode takes just those that a node has, and then it returns that node.
func TestDecodeEach(t *testing.T) {
	// Counts and lengths are small: of the greater numbers some will do.
	values := []byte{97, 98, 109, 127, 128, 254, 255}
	for i := range 32 {
		values = append(values, byte(i))
	}
	good, bad := 0, 0
	for _, x := range samples() {
		whole := blockOf(x.n)
		for at := range whole {
			for _, value := range values {
				b := slices.Clone(whole)
				b[at] = value
				b = sealed(b)
				want, ok := nodeOf(b)
				n, code := Decode(b)
				if !answers(n, code, want, ok) {
					t.Fatal(x.name, at, value, ok, code, n)
				}
				if !ok {
					bad++
					continue
				}
				good++
				if again, code := Encode(n); code != api.OK || !bytes.Equal(again, b) {
					t.Fatal("again", x.name, at, value, code)
				}
			}
		}
	}
	if good < 1000 || bad < 1000 {
		t.Error(good, bad)
	}
}

// P11.2: heads of all sorts ahead of what a node has.
func TestDecodeHeads(t *testing.T) {
	for _, x := range samples() {
		rest := blockOf(x.n)[8:]
		for kind := range 4 {
			for many := range 12 {
				for msgs := range 24 {
					b := block(byte(kind), byte(many), byte(msgs), 0, rest)
					want, ok := nodeOf(b)
					if n, code := Decode(b); !answers(n, code, want, ok) {
						t.Fatal(x.name, kind, many, msgs, ok, code)
					}
				}
			}
		}
	}
}

// R1: blocks of bytes without any order, small and great, under heads that ask for much.
func TestDecodeNoise(t *testing.T) {
	state := uint64(1)
	next := func(below int) byte {
		state = state*6364136223846793005 + 1442695040888963407
		return byte((state >> 33) % uint64(below))
	}
	for i := range 20000 {
		rest := make([]byte, 248)
		for at := range rest {
			rest[at] = next([]int{2, 4, 10, 256}[i%4])
		}
		b := block(1+next(2), next([]int{5, 256}[i/4%2]), next([]int{3, 256}[i/8%2]), 0, rest)
		want, ok := nodeOf(b)
		if n, code := Decode(b); !answers(n, code, want, ok) {
			t.Fatal(i, ok, code, b)
		}
	}
}

// roomy returns n, and the whole memory it lies in, which goes on behind its lists.
func roomy(n api.Node) (out, all api.Node) {
	all = api.Node{Leaf: n.Leaf, Entries: slices.Concat(n.Entries, []api.Entry{entry("x", ""), entry("y", big)}), Kids: slices.Concat(n.Kids, []int{71, 72}), Pivots: slices.Concat(n.Pivots, keys("x", "y")), Msgs: slices.Concat(n.Msgs, []api.Msg{del(1, "x"), put(2, "y", big)})}
	return api.Node{Leaf: n.Leaf, Entries: all.Entries[:len(n.Entries)], Kids: all.Kids[:len(n.Kids)], Pivots: all.Pivots[:len(n.Pivots)], Msgs: all.Msgs[:len(n.Msgs)]}, all
}

// spoil overwrites the lists of n, and the memory behind them.
func spoil(n api.Node) {
	clear(n.Entries[:cap(n.Entries)])
	clear(n.Kids[:cap(n.Kids)])
	clear(n.Pivots[:cap(n.Pivots)])
	clear(n.Msgs[:cap(n.Msgs)])
}

// R3, R4: Encode changes neither the node nor the memory behind its lists, has the same result again, and shares no memory with anything.
func TestEncodeChangesNothing(t *testing.T) {
	for i, x := range append(fitting(), badNodes()...) {
		n, all := roomy(x)
		was := clone(all)
		b, code := Encode(n)
		kept := slices.Clone(b)
		again, code2 := Encode(clone(x))
		if !same(all, was) || code != code2 || !bytes.Equal(b, again) {
			t.Fatal("changed", i, x)
		}
		clear(again[:cap(again)])
		Encode(leafOf(entry("other", big)))
		Encode(fullInner(205))
		spoil(all)
		if !bytes.Equal(b, kept) {
			t.Fatal("later", i, x)
		}
		clear(b[:cap(b)])
		if third, code3 := Encode(x); code3 != code || !bytes.Equal(third, kept) {
			t.Fatal("third", i, x)
		}
	}
}

// R3, R4: Decode changes neither the block nor the memory behind it, has the same result again, and shares no memory with anything.
func TestDecodeChangesNothing(t *testing.T) {
	blocks := append(badLeaves(), badChanges()...)
	for _, n := range fitting() {
		blocks = append(blocks, blockOf(n))
	}
	wrong := slices.Clone(blocks[0])
	wrong[4]++
	for i, x := range append(blocks, wrong, bytes.Repeat([]byte{7}, 256), nil) {
		all := append(slices.Clone(x), 9, 8, 7)
		b, was := all[:len(x)], slices.Clone(all)
		n, code := Decode(b)
		kept := clone(n)
		again, code2 := Decode(slices.Clone(x))
		if !bytes.Equal(all, was) || code != code2 || !same(n, again) {
			t.Fatal("changed", i)
		}
		spoil(again)
		Decode(blockOf(fullLeaf(248)))
		Decode(blockOf(fullInner(205)))
		clear(all)
		if !same(n, kept) {
			t.Fatal("later", i)
		}
		spoil(n)
		if third, code3 := Decode(x); code3 != code || !same(third, kept) {
			t.Fatal("third", i)
		}
	}
}

// R3: lists that are empty are written as those that are nil.
func TestEncodeEmptyLists(t *testing.T) {
	for _, n := range []api.Node{leafOf(), leafOf(entry("a", "x")), two(), two(del(1, "a"))} {
		full := api.Node{Leaf: n.Leaf, Entries: append([]api.Entry{}, n.Entries...), Kids: append([]int{}, n.Kids...), Pivots: append([]api.Key{}, n.Pivots...), Msgs: append([]api.Msg{}, n.Msgs...)}
		if b, code := Encode(full); code != api.OK || !bytes.Equal(b, blockOf(n)) {
			t.Error(n, code)
		}
	}
}
