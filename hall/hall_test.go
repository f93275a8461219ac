package hall

import (
	"math"
	"slices"
	"testing"

	"orangery/api"
	"orangery/codec"
	"orangery/node"
)

// empty is what a block contains that nobody has set.
var empty = api.Node{Leaf: true}

// leaf returns a leaf that is told from the others by a byte.
func leaf(b byte) api.Node {
	return api.Node{Leaf: true, Entries: []api.Entry{{Key: api.Key{N: 1, B: [8]byte{b}}, Value: api.Value{N: 1, B: [16]byte{b}}}}}
}

// inner returns a node with children, a pivot and a message.
func inner(b byte) api.Node {
	k := api.Key{N: 1, B: [8]byte{b}}
	return api.Node{Kids: []int{1, 2}, Pivots: []api.Key{k}, Msgs: []api.Msg{{Kind: api.Add, Seq: 3, Key: k, By: 9}}}
}

// leafOf returns a leaf of 236 to 260 bytes.
func leafOf(bytes int) api.Node {
	n := api.Node{Leaf: true}
	for i := range 9 {
		n.Entries = append(n.Entries, api.Entry{Key: api.Key{N: 8, B: [8]byte{byte(i)}}, Value: api.Value{N: 16}})
	}
	rest := bytes - 9*26 - 2
	k := min(rest, 8)
	n.Entries = append(n.Entries, api.Entry{Key: api.Key{N: k, B: [8]byte{255}}, Value: api.Value{N: rest - k}})
	return n
}

// innerOf returns an inner node whose messages have 194 to 210 bytes.
func innerOf(bytes int) api.Node {
	n := api.Node{Kids: []int{4, 5, 6, 7}, Pivots: []api.Key{{N: 1, B: [8]byte{1}}, {N: 1, B: [8]byte{2}}, {N: 1, B: [8]byte{3}}}}
	for i := range 5 {
		n.Msgs = append(n.Msgs, api.Msg{Kind: api.Put, Seq: uint64(i + 1), Key: api.Key{N: 8, B: [8]byte{byte(i)}}, Value: api.Value{N: 16}})
	}
	rest := bytes - 5*35 - 11
	n.Msgs = append(n.Msgs, api.Msg{Kind: api.Put, Seq: math.MaxUint64, Key: api.Key{N: 8, B: [8]byte{255}}, Value: api.Value{N: rest - 8}})
	return n
}

// fitting are nodes of all kinds that fit, two of them with no byte to spare.
func fitting() []api.Node {
	return []api.Node{empty, leaf('a'), inner('b'), leafOf(api.Room), innerOf(api.BufRoom), {Kids: []int{255, 1}, Pivots: make([]api.Key, 1)}}
}

// unfit are nodes that do not fit: with a byte too many, or not valid.
func unfit() []api.Node {
	both := inner('w')
	both.Leaf, both.Entries = true, leaf('v').Entries
	twice := leaf('t')
	twice.Entries = append(twice.Entries, twice.Entries[0])
	long := leaf('l')
	long.Entries[0].Key.N = 9
	alone := inner('n')
	alone.Kids = alone.Kids[:1]
	strange := inner('s')
	strange.Msgs[0].Kind = api.Get
	return []api.Node{{}, leafOf(api.Room + 1), innerOf(api.BufRoom + 1), both, twice, long, alone, strange, {Kids: []int{255}}, {Kids: []int{255, 256}, Pivots: make([]api.Key, 1)}, {Kids: []int{255, api.Root}, Pivots: make([]api.Key, 1)}}
}

// made returns a hall with so many blocks and frames.
func made(t *testing.T, blocks, frames int) *Hall {
	t.Helper()
	h, e := New(blocks, frames)
	if h == nil || e != api.OK {
		t.Fatal(blocks, frames, e)
	}
	return h
}

// grown returns a hall in which so many blocks are allocated, the root among them, all without a frame; each but the root contains a leaf of its number.
func grown(t *testing.T, blocks, frames, used int) *Hall {
	t.Helper()
	h := made(t, blocks, frames)
	for b := 1; b < used; b++ {
		claim(t, h, 0, true)
		alloc(t, h, 0, 1, b)
		born(t, h, 0, b, leaf(byte(b)), true)
		evict(t, h, b)
	}
	if used > 1 {
		rewind(t, h, frames)
	}
	return h
}

// rewind brings the hand of the clock from behind the first of so many frames back to it; all of them are Free.
func rewind(t *testing.T, h *Hall, frames int) {
	t.Helper()
	for range frames - 1 {
		claim(t, h, 0, true)
		pin(t, h, 1, 0, api.Read)
		load(t, h, 1, 0)
		take(t, h, 1, 0, false, true)
		leave(t, h, 1, 0)
		evict(t, h, 0)
	}
	alloc(t, h, 0, 0)
}

// ready returns a grown hall whose blocks are all in frames, from the first frame on, without pins.
func ready(t *testing.T, blocks, frames, used int) *Hall {
	t.Helper()
	h := grown(t, blocks, frames, used)
	for b := range used {
		pin(t, h, 0, b, api.Read)
		load(t, h, 0, b)
		take(t, h, 0, b, false, true)
		leave(t, h, 0, b)
	}
	return h
}

// pin checks what Pin answers.
func pin(t *testing.T, h *Hall, task, block, want int) {
	t.Helper()
	if got := h.Pin(task, block); got != want {
		t.Error("pin", task, block, got, "not", want)
	}
}

// load checks who has waited for a load that there was.
func load(t *testing.T, h *Hall, task, block int, want ...int) {
	t.Helper()
	if got, ok := h.Load(task, block); !ok || !slices.Equal(got, want) {
		t.Error("load", task, block, got, ok, "not", want)
	}
}

// noLoad checks that a task has nothing to load, and that nothing is changed.
func noLoad(t *testing.T, h *Hall, task, block int) {
	t.Helper()
	was := ask(h)
	if got, ok := h.Load(task, block); ok || len(got) != 0 || !same(ask(h), was) {
		t.Error("load", task, block, got, ok)
	}
}

// take checks what Take answers.
func take(t *testing.T, h *Hall, task, block int, write, want bool) {
	t.Helper()
	if got := h.Take(task, block, write); got != want {
		t.Error("take", task, block, write, got)
	}
}

// noTake checks that a task can't take a latch either way, and that nothing is changed.
func noTake(t *testing.T, h *Hall, task, block int) {
	t.Helper()
	was := ask(h)
	if h.Take(task, block, false) || h.Take(task, block, true) || !same(ask(h), was) {
		t.Error("take", task, block, h.Frames())
	}
}

// leave checks who is let in.
func leave(t *testing.T, h *Hall, task, block int, want ...int) {
	t.Helper()
	if got := h.Leave(task, block); !slices.Equal(got, want) {
		t.Error("leave", task, block, got, "not", want)
	}
}

// noLeave checks that a task has nothing to leave, and that nothing is changed.
func noLeave(t *testing.T, h *Hall, task, block int) {
	t.Helper()
	was := ask(h)
	if got := h.Leave(task, block); len(got) != 0 || !same(ask(h), was) {
		t.Error("leave", task, block, got)
	}
}

// claim checks what Claim answers.
func claim(t *testing.T, h *Hall, task int, want bool) {
	t.Helper()
	if got := h.Claim(task); got != want {
		t.Error("claim", task, got)
	}
}

// alloc checks which blocks are allocated; of no blocks, that Alloc answers false.
func alloc(t *testing.T, h *Hall, task, n int, want ...int) {
	t.Helper()
	if got, ok := h.Alloc(task, n); ok != (len(want) > 0) || !slices.Equal(got, want) {
		t.Error("alloc", task, n, got, ok, "not", want)
	}
}

// born checks what Born answers.
func born(t *testing.T, h *Hall, task, block int, n api.Node, want bool) {
	t.Helper()
	if got := h.Born(task, block, n); got != want {
		t.Error("born", task, block, got)
	}
}

// noBorn checks that a node is not born, and that nothing is changed.
func noBorn(t *testing.T, h *Hall, task, block int, n api.Node) {
	t.Helper()
	was := ask(h)
	if h.Born(task, block, n) || !same(ask(h), was) {
		t.Error("born", task, block, n)
	}
}

// set checks what Set answers.
func set(t *testing.T, h *Hall, task, block int, n api.Node, want bool) {
	t.Helper()
	if got := h.Set(task, block, n); got != want {
		t.Error("set", task, block, got)
	}
}

// noSet checks that a node is not set, and that nothing is changed.
func noSet(t *testing.T, h *Hall, task, block int, n api.Node) {
	t.Helper()
	was := ask(h)
	if h.Set(task, block, n) || !same(ask(h), was) {
		t.Error("set", task, block, n)
	}
}

// looks checks which node a block has.
func looks(t *testing.T, h *Hall, block int, want api.Node) {
	t.Helper()
	if got, ok := h.Look(block); !ok || !node.Same(got, want) {
		t.Error("look", block, got, ok, "not", want)
	}
}

// noLook checks that a block is not allocated.
func noLook(t *testing.T, h *Hall, block int) {
	t.Helper()
	if got, ok := h.Look(block); ok || !node.Same(got, api.Node{}) {
		t.Error("look", block, got, ok)
	}
}

// contains checks which node a block in the store contains, whatever its frame has.
func contains(t *testing.T, h *Hall, block int, want api.Node) {
	t.Helper()
	b, _ := h.Read(block)
	if got, e := codec.Decode(b); e != api.OK || !node.Same(got, want) {
		t.Error("store", block, got, e, "not", want)
	}
}

// evict checks which block goes.
func evict(t *testing.T, h *Hall, block int) {
	t.Helper()
	if got, ok := h.Evict(); got != block || !ok {
		t.Error("evict", got, ok, "not", block)
	}
}

// stays checks that no frame can be evicted, and that nothing is changed by that.
func stays(t *testing.T, h *Hall) {
	t.Helper()
	was := ask(h)
	if got, ok := h.Evict(); got != 0 || ok || !same(ask(h), was) {
		t.Error("evict", got, ok)
	}
}

// may checks that all tasks may go on but these.
func may(t *testing.T, h *Hall, not ...int) {
	t.Helper()
	for task := range api.MaxTasks {
		if h.May(task) == slices.Contains(not, task) {
			t.Error("may", task, h.May(task))
		}
	}
}

// frames checks what is told of all frames.
func frames(t *testing.T, h *Hall, want ...api.Frame) {
	t.Helper()
	if got := h.Frames(); !slices.EqualFunc(got, want, sameFrame) {
		t.Error("frames", got, "not", want)
	}
}

// Frames as they are told, if nobody holds their latches or waits for them.
func isFree() api.Frame    { return api.Frame{State: api.Free, Block: -1, Writer: -1} }
func isClaimed() api.Frame { return api.Frame{State: api.Claimed, Block: -1, Pins: 1, Writer: -1} }
func isLoading(b, pins int) api.Frame {
	return api.Frame{State: api.Loading, Block: b, Pins: pins, Ref: true, Writer: -1}
}
func isReady(b, pins int, ref, dirty bool, n api.Node) api.Frame {
	return api.Frame{State: api.Ready, Block: b, Pins: pins, Ref: ref, Dirty: dirty, Node: n, Writer: -1}
}

// readBy returns the frame with these readers, and those who wait.
func readBy(f api.Frame, readers []int, queue ...api.Want) api.Frame {
	f.Readers, f.Queue = readers, queue
	return f
}

// writtenBy returns the frame with this writer, and those who wait.
func writtenBy(f api.Frame, writer int, queue ...api.Want) api.Frame {
	f.Writer, f.Queue = writer, queue
	return f
}

// toRead and toWrite are tasks that wait for a latch.
func toRead(task int) api.Want  { return api.Want{Task: task} }
func toWrite(task int) api.Want { return api.Want{Task: task, Write: true} }

// sameFrame tells whether two frames are told alike.
func sameFrame(a, b api.Frame) bool {
	return a.State == b.State && a.Block == b.Block && a.Pins == b.Pins && a.Ref == b.Ref && a.Dirty == b.Dirty && node.Same(a.Node, b.Node) &&
		a.Writer == b.Writer && slices.Equal(a.Readers, b.Readers) && slices.Equal(a.Queue, b.Queue)
}

// answers are all that can be asked of a hall.
type answers struct {
	frames     []api.Frame
	line, used []int
	nodes      []api.Node // by Look, and then by Node, of all blocks that are allocated
	free, left int
	idle       bool
	may        [api.MaxTasks]bool
}

func ask(h *Hall) answers {
	a := answers{frames: h.Frames(), line: h.Line(), used: h.Used(), free: h.Free(), left: h.Left(), idle: h.Idle()}
	for _, b := range h.Used() {
		look, _ := h.Look(b)
		n, _ := h.Node(b)
		a.nodes = append(a.nodes, look, n)
	}
	for task := range a.may {
		a.may[task] = h.May(task)
	}
	return a
}

func same(a, b answers) bool {
	return slices.EqualFunc(a.frames, b.frames, sameFrame) && slices.Equal(a.line, b.line) && slices.Equal(a.used, b.used) &&
		slices.EqualFunc(a.nodes, b.nodes, node.Same) && a.free == b.free && a.left == b.left && a.idle == b.idle && a.may == b.may
}

// noTasks and noBlocks are numbers of none.
var (
	noTasks  = []int{-1, -2, -8, -9, math.MinInt, math.MinInt + 1, -1 << 32, 8, 9, 16, 64, 255, 256, 1 << 31, 1 << 32, 1<<32 + 1, math.MaxInt}
	noBlocks = []int{-1, -2, -255, -256, -257, math.MinInt, math.MinInt + 1, -1 << 32, 256, 257, 512, 1 << 31, 1 << 32, 1<<32 + 1, math.MaxInt}
)

// halls are of all kinds: with frames in all states, with tasks that hold latches, and with tasks that wait for a latch, a load, a block, a claim.
func halls(t *testing.T) map[string]*Hall {
	t.Helper()
	out := map[string]*Hall{"new": made(t, 3, 2), "small": made(t, 1, 1), "ready": ready(t, 4, 3, 3)}
	loading := grown(t, 4, 2, 3)
	pin(t, loading, 0, 0, api.Read)
	pin(t, loading, 1, 0, api.Wait)
	pin(t, loading, 0, 1, api.Read)
	pin(t, loading, 2, 2, api.Queue)
	claim(t, loading, 3, false)
	pin(t, loading, 4, 0, api.Wait)
	out["loading"] = loading
	latched := ready(t, 3, 3, 3)
	for task := range 4 {
		pin(t, latched, task, 0, api.Got)
		take(t, latched, task, 0, task == 2, task < 2)
	}
	pin(t, latched, 7, 1, api.Got)
	take(t, latched, 7, 1, true, true)
	set(t, latched, 7, 1, inner('s'), true)
	out["latched"] = latched
	claimed := grown(t, 5, 4, 2)
	claim(t, claimed, 5, true)
	claim(t, claimed, 0, true)
	claim(t, claimed, 5, true)
	alloc(t, claimed, 5, 2, 2, 3)
	pin(t, claimed, 6, 1, api.Read)
	pin(t, claimed, 6, 0, api.Queue)
	out["claimed"] = claimed
	mixed := grown(t, 8, 5, 4)
	pin(t, mixed, 0, 0, api.Read)
	load(t, mixed, 0, 0)
	take(t, mixed, 0, 0, true, true)
	set(t, mixed, 0, 0, inner('m'), true)
	pin(t, mixed, 1, 0, api.Got)
	take(t, mixed, 1, 0, false, false)
	claim(t, mixed, 2, true)
	claim(t, mixed, 2, true)
	alloc(t, mixed, 2, 1, 4)
	born(t, mixed, 2, 4, leaf('4'), true)
	pin(t, mixed, 3, 2, api.Read)
	pin(t, mixed, 4, 2, api.Wait)
	pin(t, mixed, 5, 1, api.Read)
	load(t, mixed, 5, 1)
	take(t, mixed, 5, 1, false, true)
	pin(t, mixed, 6, 3, api.Queue)
	claim(t, mixed, 7, false)
	out["mixed"] = mixed
	return out
}

// reveal tells what a hall keeps that no question shows: who is to load, whose claims there are, what the store has. It uses the hall up.
func reveal(h *Hall) []int {
	var out []int
	for b := range api.MaxBlocks {
		bytes, _ := h.Read(b)
		for _, x := range bytes {
			out = append(out, int(x))
		}
		for task := range api.MaxTasks {
			if waited, ok := h.Load(task, b); ok {
				out = append(append(out, task, b), waited...)
			}
		}
	}
	for task := range api.MaxTasks {
		for _, n := range []int{2, 1, 0} {
			blocks, _ := h.Alloc(task, n)
			out = append(append(out, blocks...), h.Free())
		}
		for _, b := range h.Used() {
			if slices.Contains(h.Line(), task) {
				out = append(out, task, h.Pin(task, b))
			}
		}
	}
	for range api.MaxFrames {
		if b, ok := h.Evict(); ok {
			out = append(out, b)
		}
	}
	return out
}

// unchanged checks that what is done to a hall of each kind changes nothing.
func unchanged(t *testing.T, do func(kind string, h *Hall)) {
	t.Helper()
	for kind, h := range halls(t) {
		twin := halls(t)[kind]
		do(kind, h)
		if !same(ask(h), ask(twin)) || !slices.Equal(reveal(h), reveal(twin)) {
			t.Error("changed", kind)
		}
	}
}

// P17.1: a new hall has one block, with an empty leaf that is in the store alone, and frames that are all Free.
func TestNew(t *testing.T) {
	for _, size := range [][2]int{{1, 1}, {1, api.MaxFrames}, {2, 1}, {3, 5}, {17, 33}, {api.MaxBlocks - 1, api.MaxFrames - 1}, {api.MaxBlocks, 1}, {api.MaxBlocks, api.MaxFrames}} {
		h := made(t, size[0], size[1])
		frames(t, h, slices.Repeat([]api.Frame{isFree()}, size[1])...)
		if !slices.Equal(h.Used(), []int{api.Root}) || h.Left() != size[0]-1 || h.Free() != size[1] || len(h.Line()) != 0 || !h.Idle() {
			t.Error(size, ask(h))
		}
		may(t, h)
		stays(t, h)
		looks(t, h, api.Root, empty)
		contains(t, h, api.Root, empty)
		for b := 1; b <= api.MaxBlocks; b++ {
			noLook(t, h, b)
		}
		if n, ok := h.Node(api.Root); ok || !node.Same(n, api.Node{}) {
			t.Error(size, n, ok)
		}
	}
	for blocks := 1; blocks <= api.MaxBlocks; blocks++ {
		made(t, blocks, 1+blocks%api.MaxFrames)
	}
}

// P17.1: no blocks or too many, no frames or too many, or both.
func TestNewWrong(t *testing.T) {
	wrong := func(blocks, frames int) {
		t.Helper()
		if h, e := New(blocks, frames); h != nil || e != api.ErrArg {
			t.Error(blocks, frames, e)
		}
	}
	blocks := []int{0, -1, -256, math.MinInt, api.MaxBlocks + 1, 512, 1 << 32, 1<<32 + 1, math.MaxInt}
	frames := []int{0, -1, -64, math.MinInt, api.MaxFrames + 1, 128, 256, 1 << 32, 1<<32 + 1, math.MaxInt}
	for _, b := range blocks {
		for _, f := range append(frames, 1, 2, api.MaxFrames) {
			wrong(b, f)
		}
	}
	for _, f := range frames {
		for _, b := range []int{1, 2, api.MaxFrames + 1, api.MaxBlocks} {
			wrong(b, f)
		}
	}
}

// P17.1: each frame has a latch of its own, as many as there are.
func TestLatches(t *testing.T) {
	for _, n := range []int{1, 2, 3, api.MaxFrames} {
		h := ready(t, api.MaxBlocks, n, n)
		var want []api.Frame
		for b := range n {
			task := b % api.MaxTasks
			pin(t, h, task, b, api.Got)
			take(t, h, task, b, true, true)
			n, _ := h.Look(b)
			want = append(want, writtenBy(isReady(b, 1, true, false, n), task))
		}
		frames(t, h, want...)
	}
}

// P17.2: a block that is not allocated is not pinned, even if it could be one of the store, and nothing is changed.
func TestPinNotAllocated(t *testing.T) {
	unchanged(t, func(kind string, h *Hall) {
		used := h.Used()
		for b := range api.MaxBlocks {
			if slices.Contains(used, b) {
				continue
			}
			for task := range api.MaxTasks {
				pin(t, h, task, b, 0)
			}
		}
	})
	h := made(t, 3, 1)
	pin(t, h, 0, 1, 0)
	claim(t, h, 0, true)
	alloc(t, h, 0, 1, 1)
	pin(t, h, 1, 1, api.Queue)
	pin(t, h, 1, 2, 0)
}

// P17.2: Pin answers as the cache does, for a block that is not in a frame, is loaded, and is there.
func TestPin(t *testing.T) {
	h := grown(t, 4, 2, 3)
	pin(t, h, 0, 2, api.Read)
	pin(t, h, 1, 2, api.Wait)
	pin(t, h, 1, 0, 0)
	pin(t, h, 3, 0, api.Read)
	pin(t, h, 4, 1, api.Queue)
	pin(t, h, 4, 2, 0)
	pin(t, h, 5, 1, api.Queue)
	frames(t, h, isLoading(2, 2), isLoading(0, 1))
	if !slices.Equal(h.Line(), []int{4, 5}) {
		t.Error(h.Line())
	}
	load(t, h, 0, 2, 1)
	pin(t, h, 1, 2, api.Got)
	pin(t, h, 7, 2, api.Got)
	frames(t, h, isReady(2, 4, true, false, leaf(2)), isLoading(0, 1))
	load(t, h, 3, 0)
	take(t, h, 3, 0, false, true)
	leave(t, h, 3, 0)
	evict(t, h, 0)
	pin(t, h, 5, 1, api.Queue)
	pin(t, h, 4, 1, api.Read)
	pin(t, h, 5, 1, api.Wait)
	frames(t, h, isReady(2, 4, true, false, leaf(2)), isLoading(1, 2))
}

// P17.2: what is loaded is what the block contains, of each kind of node.
func TestLoad(t *testing.T) {
	for _, n := range fitting() {
		h := made(t, 1, 1)
		pin(t, h, 3, 0, api.Read)
		load(t, h, 3, 0)
		frames(t, h, isReady(0, 1, true, false, empty))
		take(t, h, 3, 0, true, true)
		set(t, h, 3, 0, n, true)
		leave(t, h, 3, 0)
		evict(t, h, 0)
		pin(t, h, 6, 0, api.Read)
		noLoad(t, h, 3, 0)
		load(t, h, 6, 0)
		frames(t, h, isReady(0, 1, true, false, n))
		take(t, h, 6, 0, true, true)
		set(t, h, 6, 0, leaf('z'), true)
		leave(t, h, 6, 0)
		evict(t, h, 0)
		pin(t, h, 3, 0, api.Read)
		load(t, h, 3, 0)
		frames(t, h, isReady(0, 1, true, false, leaf('z')))
	}
}

// P17.2: those who waited are told in the order in which they came, each load those that waited for it; the one that reads may have waited for itself.
func TestLoadWaited(t *testing.T) {
	h := grown(t, 4, 3, 4)
	pin(t, h, 0, 2, api.Read)
	pin(t, h, 1, 3, api.Read)
	pin(t, h, 6, 3, api.Wait)
	pin(t, h, 7, 2, api.Wait)
	pin(t, h, 2, 3, api.Wait)
	pin(t, h, 5, 2, api.Wait)
	pin(t, h, 3, 3, api.Wait)
	pin(t, h, 0, 2, api.Wait)
	pin(t, h, 4, 2, api.Wait)
	may(t, h, 0, 2, 3, 4, 5, 6, 7)
	load(t, h, 0, 2, 7, 5, 0, 4)
	may(t, h, 2, 3, 6)
	frames(t, h, isReady(2, 5, true, false, leaf(2)), isLoading(3, 4), isFree())
	load(t, h, 1, 3, 6, 2, 3)
	may(t, h)
	frames(t, h, isReady(2, 5, true, false, leaf(2)), isReady(3, 4, true, false, leaf(3)), isFree())
}

// P17.2: nothing is loaded by a task to which Pin did not tell Read, or told it of another block; nor twice; nor what has no frame, or is there.
func TestLoadNothing(t *testing.T) {
	h := grown(t, 5, 3, 4)
	for task := range api.MaxTasks {
		for b := range 5 {
			noLoad(t, h, task, b)
		}
	}
	pin(t, h, 0, 0, api.Read)
	pin(t, h, 1, 0, api.Wait)
	pin(t, h, 2, 2, api.Read)
	claim(t, h, 4, true)
	pin(t, h, 3, 3, api.Queue)
	claim(t, h, 5, false)
	others := func(b int, not ...int) {
		t.Helper()
		for task := range api.MaxTasks {
			if !slices.Contains(not, task) {
				noLoad(t, h, task, b)
			}
		}
	}
	others(0, 0)
	others(1)
	others(2, 2)
	others(3)
	others(4)
	load(t, h, 0, 0, 1)
	others(0)
	others(2, 2)
	pin(t, h, 1, 0, api.Got)
	others(0)
	load(t, h, 2, 2)
	others(2)
	// What was named needs no load.
	alloc(t, h, 4, 1, 4)
	born(t, h, 4, 4, leaf('4'), true)
	others(4)
	// Who was told Read once is not, of the same block, told it for ever.
	take(t, h, 0, 0, false, true)
	take(t, h, 1, 0, false, true)
	leave(t, h, 0, 0)
	leave(t, h, 1, 0)
	pin(t, h, 6, 2, api.Got)
	pin(t, h, 6, 4, api.Got)
	stays(t, h)
}

// P17.2: who has read a block that went has nothing to load when another is to read it.
func TestLoadAgain(t *testing.T) {
	h := ready(t, 2, 2, 2)
	for round := range 12 {
		task := round % api.MaxTasks
		b, ok := h.Evict()
		if !ok || b != round%2 {
			t.Error(round, b, ok)
		}
		pin(t, h, task, b, api.Read)
		for other := range api.MaxTasks {
			if other != task {
				noLoad(t, h, other, b)
			}
		}
		noLoad(t, h, task, 1-b)
		load(t, h, task, b)
		noLoad(t, h, task, b)
		take(t, h, task, b, round%3 == 0, true)
		leave(t, h, task, b)
	}
}

// P17.3: the chapter's example.
func TestExample(t *testing.T) {
	h := made(t, 2, 1)
	pin(t, h, 0, 0, api.Read)
	load(t, h, 0, 0)
	take(t, h, 0, 0, true, true)
	take(t, h, 1, 0, false, false)
	frames(t, h, writtenBy(isReady(0, 1, true, false, empty), 0, toRead(1)))
	leave(t, h, 0, 0, 1)
	frames(t, h, readBy(isReady(0, 0, true, false, empty), []int{1}))
}

// P17.3: there is no latch of a block that has no frame, whose frame is Loading, that went, or that is not allocated.
func TestTakeNothing(t *testing.T) {
	h := grown(t, 4, 2, 2)
	nobody := func(blocks ...int) {
		t.Helper()
		for _, b := range blocks {
			for task := range api.MaxTasks {
				noTake(t, h, task, b)
				noLeave(t, h, task, b)
			}
		}
	}
	nobody(0, 1, 2, 3)
	pin(t, h, 0, 0, api.Read)
	pin(t, h, 1, 0, api.Wait)
	claim(t, h, 2, true)
	pin(t, h, 3, 1, api.Queue)
	nobody(0, 1, 2, 3)
	load(t, h, 0, 0, 1)
	take(t, h, 0, 0, true, true)
	take(t, h, 1, 0, true, false)
	nobody(1, 2, 3)
	leave(t, h, 0, 0, 1)
	leave(t, h, 1, 0)
	evict(t, h, 0)
	nobody(0, 1, 2, 3)
	pin(t, h, 3, 1, api.Read)
	nobody(0, 1, 2, 3)
	load(t, h, 3, 1)
	nobody(0, 2, 3)
	take(t, h, 3, 1, false, true)
}

// P17.3: who holds a latch or waits for it gets no more of it, whichever way it asks.
func TestTakeTwice(t *testing.T) {
	for _, write := range []bool{false, true} {
		h := ready(t, 1, 1, 1)
		for task := range 3 {
			pin(t, h, task, 0, api.Got)
		}
		take(t, h, 0, 0, write, true)
		noTake(t, h, 0, 0)
		take(t, h, 1, 0, true, false)
		noTake(t, h, 1, 0)
		take(t, h, 2, 0, false, false)
		noTake(t, h, 2, 0)
		noTake(t, h, 0, 0)
		leave(t, h, 0, 0, 1)
		noTake(t, h, 1, 0)
		noTake(t, h, 2, 0)
		leave(t, h, 1, 0, 2)
		noTake(t, h, 2, 0)
		leave(t, h, 2, 0)
		take(t, h, 2, 0, true, true)
	}
}

// P17.3: readers hold a latch together, a writer holds it alone, and nobody overtakes one that waits.
func TestTake(t *testing.T) {
	h := ready(t, 2, 2, 2)
	for task := range api.MaxTasks {
		pin(t, h, task, 0, api.Got)
	}
	take(t, h, 5, 0, false, true)
	take(t, h, 2, 0, false, true)
	take(t, h, 7, 0, true, false)
	take(t, h, 1, 0, false, false)
	take(t, h, 0, 0, false, false)
	take(t, h, 6, 0, true, false)
	take(t, h, 3, 0, true, false)
	take(t, h, 4, 0, false, false)
	pins := func(n int) api.Frame { return isReady(0, n, true, false, empty) }
	other := isReady(1, 0, true, false, leaf(1))
	frames(t, h, readBy(pins(8), []int{2, 5}, toWrite(7), toRead(1), toRead(0), toWrite(6), toWrite(3), toRead(4)), other)
	may(t, h, 0, 1, 3, 4, 6, 7)
	leave(t, h, 5, 0)
	frames(t, h, readBy(pins(7), []int{2}, toWrite(7), toRead(1), toRead(0), toWrite(6), toWrite(3), toRead(4)), other)
	leave(t, h, 2, 0, 7)
	frames(t, h, writtenBy(pins(6), 7, toRead(1), toRead(0), toWrite(6), toWrite(3), toRead(4)), other)
	may(t, h, 0, 1, 3, 4, 6)
	leave(t, h, 7, 0, 1, 0)
	frames(t, h, readBy(pins(5), []int{0, 1}, toWrite(6), toWrite(3), toRead(4)), other)
	leave(t, h, 0, 0)
	leave(t, h, 1, 0, 6)
	frames(t, h, writtenBy(pins(3), 6, toWrite(3), toRead(4)), other)
	leave(t, h, 6, 0, 3)
	leave(t, h, 3, 0, 4)
	frames(t, h, readBy(pins(1), []int{4}), other)
	may(t, h)
	leave(t, h, 4, 0)
	frames(t, h, pins(0), other)
}

// P17.3: the latches of two blocks have nothing to do with each other; one task may hold both, and wait for one while it holds the other.
func TestTakeBoth(t *testing.T) {
	h := ready(t, 2, 2, 2)
	pin(t, h, 0, 1, api.Got)
	take(t, h, 0, 1, true, true)
	pin(t, h, 1, 0, api.Got)
	take(t, h, 1, 0, false, true)
	pin(t, h, 0, 0, api.Got)
	take(t, h, 0, 0, true, false)
	noLeave(t, h, 0, 0)
	noLeave(t, h, 1, 1)
	frames(t, h, readBy(isReady(0, 2, true, false, empty), []int{1}, toWrite(0)), writtenBy(isReady(1, 1, true, false, leaf(1)), 0))
	leave(t, h, 1, 0, 0)
	frames(t, h, writtenBy(isReady(0, 1, true, false, empty), 0), writtenBy(isReady(1, 1, true, false, leaf(1)), 0))
	leave(t, h, 0, 1)
	frames(t, h, writtenBy(isReady(0, 1, true, false, empty), 0), isReady(1, 0, true, false, leaf(1)))
	leave(t, h, 0, 0)
}

// P17.3: who holds nothing leaves nothing: neither a pin that it has nor a place in the queue.
func TestLeaveNothing(t *testing.T) {
	h := ready(t, 2, 2, 2)
	for task := range api.MaxTasks {
		noLeave(t, h, task, 0)
	}
	pin(t, h, 0, 0, api.Got)
	noLeave(t, h, 0, 0)
	take(t, h, 0, 0, true, true)
	pin(t, h, 1, 0, api.Got)
	take(t, h, 1, 0, true, false)
	pin(t, h, 2, 0, api.Got)
	take(t, h, 2, 0, false, false)
	for task := 1; task < api.MaxTasks; task++ {
		noLeave(t, h, task, 0)
		noLeave(t, h, task, 1)
	}
	noLeave(t, h, 0, 1)
	leave(t, h, 0, 0, 1)
	noLeave(t, h, 0, 0)
	noLeave(t, h, 2, 0)
	leave(t, h, 1, 0, 2)
	noLeave(t, h, 1, 0)
	leave(t, h, 2, 0)
	noLeave(t, h, 2, 0)
	frames(t, h, isReady(0, 0, true, false, empty), isReady(1, 0, true, false, leaf(1)))
}

// P17.3: a pin goes with each hold, and just one; where there is none left, the hold ends all the same.
func TestLeavePins(t *testing.T) {
	h := ready(t, 1, 1, 1)
	for range 3 {
		pin(t, h, 0, 0, api.Got)
	}
	for pins := 2; pins >= 0; pins-- {
		take(t, h, 0, 0, pins == 1, true)
		leave(t, h, 0, 0)
		noLeave(t, h, 0, 0)
		frames(t, h, isReady(0, pins, true, false, empty))
	}
	take(t, h, 4, 0, true, true)
	take(t, h, 5, 0, false, false)
	leave(t, h, 4, 0, 5)
	frames(t, h, readBy(isReady(0, 0, true, false, empty), []int{5}))
	leave(t, h, 5, 0)
	frames(t, h, isReady(0, 0, true, false, empty))
}

// P17.4: Claim answers as the cache does.
func TestClaim(t *testing.T) {
	h := made(t, 2, 2)
	claim(t, h, 7, true)
	frames(t, h, isClaimed(), isFree())
	pin(t, h, 0, 0, api.Read)
	pin(t, h, 1, 0, api.Wait)
	claim(t, h, 1, false)
	claim(t, h, 2, false)
	claim(t, h, 3, false)
	claim(t, h, 2, false)
	if !slices.Equal(h.Line(), []int{2, 3}) {
		t.Error(h.Line())
	}
	alloc(t, h, 7, 0)
	claim(t, h, 3, false)
	claim(t, h, 0, false)
	claim(t, h, 2, true)
	frames(t, h, isClaimed(), isLoading(0, 2))
	may(t, h, 0, 1, 3)
	alloc(t, h, 2, 0)
	claim(t, h, 3, true)
	pin(t, h, 4, 0, api.Wait)
	load(t, h, 0, 0, 1, 4)
	alloc(t, h, 3, 1, 1)
}

// P17.4: with all numbers of blocks that are wanted, of frames that are claimed and of blocks that are free: what is allocated is what is asked for, or what was claimed is given up.
func TestAlloc(t *testing.T) {
	for used := 1; used <= 3; used++ {
		for free := range 4 {
			for claims := range 4 {
				for _, n := range []int{1, 2, 0, 3, 4, -1, -2, math.MinInt, math.MaxInt, 1<<32 + 1} {
					h := grown(t, used+free, 5, used)
					claim(t, h, 1, true)
					for range claims {
						claim(t, h, 6, true)
					}
					claim(t, h, 1, true)
					if (n == 1 || n == 2) && claims >= n && free >= n {
						want := []int{used, used + 1}[:n]
						alloc(t, h, 6, n, want...)
						if h.Left() != free-n || h.Free() != 5-2-claims || len(h.Used()) != used+n {
							t.Error(used, free, claims, n, ask(h))
						}
						for _, b := range want {
							looks(t, h, b, empty)
							contains(t, h, b, empty)
						}
						continue
					}
					alloc(t, h, 6, n)
					if h.Left() != free || h.Free() != 3 || len(h.Used()) != used {
						t.Error(used, free, claims, n, ask(h))
					}
				}
			}
		}
	}
}

// P17.4: the numbers are the smallest that are free, up to the last block of all.
func TestAllocNumbers(t *testing.T) {
	h := made(t, api.MaxBlocks, 3)
	next := 1
	for round := range 200 {
		task := round % api.MaxTasks
		n := 1 + round%2
		for range n {
			claim(t, h, task, true)
		}
		want := []int{next, next + 1}[:n]
		if next+n > api.MaxBlocks {
			want = nil
		}
		alloc(t, h, task, n, want...)
		next += len(want)
		if h.Left() != api.MaxBlocks-next || len(h.Used()) != next {
			t.Error(round, h.Left(), h.Used())
		}
		alloc(t, h, task, 0)
	}
	if next != api.MaxBlocks || h.Free() != 3 {
		t.Error(next, h.Free())
	}
	looks(t, h, api.MaxBlocks-1, empty)
	pin(t, h, 0, api.MaxBlocks-1, api.Read)
	load(t, h, 0, api.MaxBlocks-1)
	frames(t, h, isReady(api.MaxBlocks-1, 1, true, false, empty), isFree(), isFree())
}

// P17.4: what counts are the frames that are claimed by this task now: not those of others, not those that were named or given up.
func TestAllocClaims(t *testing.T) {
	h := made(t, 9, 6)
	claim(t, h, 0, true)
	claim(t, h, 1, true)
	claim(t, h, 1, true)
	alloc(t, h, 0, 2)
	frames(t, h, isFree(), isClaimed(), isClaimed(), isFree(), isFree(), isFree())
	alloc(t, h, 0, 1)
	alloc(t, h, 2, 1)
	frames(t, h, isFree(), isClaimed(), isClaimed(), isFree(), isFree(), isFree())
	claim(t, h, 0, true)
	alloc(t, h, 0, 1, 1)
	// The claim is still there, and is enough for more blocks, till it is named.
	alloc(t, h, 0, 1, 2)
	born(t, h, 0, 1, leaf('1'), true)
	alloc(t, h, 0, 1)
	alloc(t, h, 1, 2, 3, 4)
	born(t, h, 1, 3, leaf('3'), true)
	frames(t, h, isReady(1, 0, true, true, leaf('1')), isReady(3, 0, true, true, leaf('3')), isClaimed(), isFree(), isFree(), isFree())
	alloc(t, h, 1, 1, 5)
	alloc(t, h, 1, 2)
	frames(t, h, isReady(1, 0, true, true, leaf('1')), isReady(3, 0, true, true, leaf('3')), isFree(), isFree(), isFree(), isFree())
	noBorn(t, h, 1, 4, leaf('4'))
	alloc(t, h, 1, 1)
	claim(t, h, 1, true)
	born(t, h, 1, 4, leaf('4'), true)
	claim(t, h, 1, true)
	alloc(t, h, 1, 1, 6)
	noBorn(t, h, 1, 4, leaf('x'))
	alloc(t, h, 1, 1, 7)
	born(t, h, 1, 6, leaf('6'), true)
	alloc(t, h, 1, 1)
	if !slices.Equal(h.Used(), []int{0, 1, 2, 3, 4, 5, 6, 7}) || h.Left() != 1 || h.Free() != 2 {
		t.Error(ask(h))
	}
}

// P17.4: who stands in the line for a claim has claimed nothing yet.
func TestAllocStanding(t *testing.T) {
	h := made(t, 3, 2)
	claim(t, h, 0, true)
	claim(t, h, 1, true)
	claim(t, h, 1, false)
	claim(t, h, 2, false)
	alloc(t, h, 2, 1)
	frames(t, h, isClaimed(), isClaimed())
	alloc(t, h, 1, 2)
	frames(t, h, isClaimed(), isFree())
	alloc(t, h, 1, 1)
	claim(t, h, 1, true)
	alloc(t, h, 1, 1, 1)
	if !slices.Equal(h.Line(), []int{2}) || h.Left() != 1 {
		t.Error(h.Line(), h.Left())
	}
}

// P17.4: frames that are given up are Free for those who stand in the line; who gives them up stays there itself.
func TestAllocLine(t *testing.T) {
	h := grown(t, 3, 2, 2)
	claim(t, h, 0, true)
	claim(t, h, 0, true)
	pin(t, h, 1, 1, api.Queue)
	claim(t, h, 0, false)
	claim(t, h, 2, false)
	may(t, h, 0, 1, 2)
	alloc(t, h, 0, 2)
	may(t, h, 0, 2)
	if h.Free() != 2 || !slices.Equal(h.Line(), []int{1, 0, 2}) {
		t.Error(h.Free(), h.Line())
	}
	pin(t, h, 1, 1, api.Read)
	may(t, h, 2)
	claim(t, h, 0, true)
	alloc(t, h, 0, 1, 2)
	may(t, h, 2)
}

// P17.4: a node that is born is in the frame that was claimed first, and not in the store yet.
func TestBorn(t *testing.T) {
	for _, n := range fitting() {
		h := made(t, 4, 4)
		for _, task := range []int{3, 2, 3} {
			claim(t, h, task, true)
		}
		alloc(t, h, 3, 2, 1, 2)
		born(t, h, 3, 2, n, true)
		frames(t, h, isReady(2, 0, true, true, n), isClaimed(), isClaimed(), isFree())
		looks(t, h, 2, n)
		contains(t, h, 2, empty)
		born(t, h, 3, 1, leaf('1'), true)
		frames(t, h, isReady(2, 0, true, true, n), isClaimed(), isReady(1, 0, true, true, leaf('1')), isFree())
		pin(t, h, 5, 2, api.Got)
		take(t, h, 5, 2, true, true)
		evict(t, h, 1)
		leave(t, h, 5, 2)
		evict(t, h, 2)
		looks(t, h, 2, n)
		contains(t, h, 2, n)
		contains(t, h, 1, leaf('1'))
	}
}

// P17.4: nothing is born in a block that is not allocated or that has a frame, Ready or Loading; nor without a claim; nor if it does not fit. The claim stays.
func TestBornWrong(t *testing.T) {
	h := grown(t, 6, 4, 4)
	pin(t, h, 0, 0, api.Read)
	load(t, h, 0, 0)
	pin(t, h, 0, 1, api.Read)
	claim(t, h, 5, true)
	pin(t, h, 1, 2, api.Read)
	claim(t, h, 2, false)
	for _, b := range []int{0, 1, 2, 4, 5, 6, 255} {
		noBorn(t, h, 5, b, leaf('x'))
	}
	for task := range api.MaxTasks {
		if task != 5 {
			noBorn(t, h, task, 3, leaf('x'))
		}
	}
	for _, n := range unfit() {
		noBorn(t, h, 5, 3, n)
	}
	alloc(t, h, 5, 1, 4)
	born(t, h, 5, 3, leaf('x'), true)
	looks(t, h, 3, leaf('x'))
	noBorn(t, h, 5, 4, leaf('y'))
	load(t, h, 0, 1)
	load(t, h, 1, 2)
}

// P17.4: what is born is in a block that tasks stand in the line for: they find it. And the root can be born too.
func TestBornWanted(t *testing.T) {
	h := made(t, 1, 1)
	claim(t, h, 5, true)
	pin(t, h, 1, 0, api.Queue)
	may(t, h, 1)
	born(t, h, 5, 0, inner('r'), true)
	may(t, h)
	noLoad(t, h, 1, 0)
	pin(t, h, 1, 0, api.Got)
	frames(t, h, isReady(0, 1, true, true, inner('r')))
	take(t, h, 1, 0, true, true)
	leave(t, h, 1, 0)
	evict(t, h, 0)
	contains(t, h, 0, inner('r'))
}

// P17.5: Node tells what is in Ready frames alone, and Look what is in these or in the store.
func TestNodeAndLook(t *testing.T) {
	h := grown(t, 4, 3, 3)
	has := func(b int, want api.Node) {
		t.Helper()
		looks(t, h, b, want)
		if n, ok := h.Node(b); !ok || !node.Same(n, want) {
			t.Error(b, n, ok)
		}
	}
	hasNot := func(b int) {
		t.Helper()
		if n, ok := h.Node(b); ok || !node.Same(n, api.Node{}) {
			t.Error(b, n, ok)
		}
	}
	hasNot(2)
	looks(t, h, 2, leaf(2))
	pin(t, h, 0, 2, api.Read)
	hasNot(2)
	looks(t, h, 2, leaf(2))
	load(t, h, 0, 2)
	has(2, leaf(2))
	take(t, h, 0, 2, true, true)
	for _, n := range fitting() {
		set(t, h, 0, 2, n, true)
		has(2, n)
		contains(t, h, 2, leaf(2))
	}
	claim(t, h, 0, true)
	hasNot(3)
	noLook(t, h, 3)
	alloc(t, h, 0, 1, 3)
	hasNot(3)
	looks(t, h, 3, empty)
	born(t, h, 0, 3, inner('3'), true)
	has(3, inner('3'))
	leave(t, h, 0, 2)
	evict(t, h, 2)
	hasNot(2)
	looks(t, h, 2, fitting()[5])
	has(3, inner('3'))
	hasNot(1)
	looks(t, h, 1, leaf(1))
	hasNot(0)
	looks(t, h, 0, empty)
	for _, b := range append(noBlocks, 4, 5, 255) {
		hasNot(b)
		noLook(t, h, b)
	}
}

// P17.5: a node is set by the one that writes alone, if it fits; the frame is Dirty then.
func TestSet(t *testing.T) {
	h := ready(t, 3, 2, 2)
	nobody := func(blocks []int, but int) {
		t.Helper()
		for _, b := range blocks {
			for task := range api.MaxTasks {
				if task != but {
					noSet(t, h, task, b, leaf('x'))
				}
			}
		}
	}
	nobody([]int{0, 1, 2, 255}, -1)
	for task := range 4 {
		pin(t, h, task, 0, api.Got)
	}
	take(t, h, 1, 0, false, true)
	take(t, h, 2, 0, true, false)
	nobody([]int{0, 1, 2}, -1)
	leave(t, h, 1, 0, 2)
	take(t, h, 3, 0, true, false)
	nobody([]int{0}, 2)
	nobody([]int{1, 2}, -1)
	for _, n := range unfit() {
		noSet(t, h, 2, 0, n)
	}
	frames(t, h, writtenBy(isReady(0, 3, true, false, empty), 2, toWrite(3)), isReady(1, 0, true, false, leaf(1)))
	for _, n := range fitting() {
		set(t, h, 2, 0, n, true)
		frames(t, h, writtenBy(isReady(0, 3, true, true, n), 2, toWrite(3)), isReady(1, 0, true, false, leaf(1)))
	}
	for _, n := range unfit() {
		noSet(t, h, 2, 0, n)
	}
	leave(t, h, 2, 0, 3)
	nobody([]int{0}, 3)
	set(t, h, 3, 0, inner('3'), true)
	leave(t, h, 3, 0)
	nobody([]int{0}, -1)
}

// P17.5: nothing is set in a frame that is Loading, or in one that went, even by the one that wrote.
func TestSetNothing(t *testing.T) {
	h := made(t, 1, 1)
	noSet(t, h, 0, 0, leaf('x'))
	pin(t, h, 0, 0, api.Read)
	noSet(t, h, 0, 0, leaf('x'))
	load(t, h, 0, 0)
	noSet(t, h, 0, 0, leaf('x'))
	take(t, h, 0, 0, true, true)
	set(t, h, 0, 0, leaf('a'), true)
	leave(t, h, 0, 0)
	noSet(t, h, 0, 0, leaf('x'))
	evict(t, h, 0)
	noSet(t, h, 0, 0, leaf('x'))
	pin(t, h, 0, 0, api.Read)
	noSet(t, h, 0, 0, leaf('x'))
	looks(t, h, 0, leaf('a'))
}

// P17.5: what is evicted is in the store afterwards, if it was Dirty; what was not is not written again.
func TestEvict(t *testing.T) {
	for _, n := range fitting() {
		h := ready(t, 4, 3, 3)
		pin(t, h, 0, 1, api.Got)
		take(t, h, 0, 1, true, true)
		set(t, h, 0, 1, leaf('y'), true)
		set(t, h, 0, 1, n, true)
		leave(t, h, 0, 1)
		contains(t, h, 1, leaf(1))
		// The store is changed behind the hall: nothing that was not Dirty is written over it.
		b, _ := codec.Encode(inner('w'))
		for _, block := range h.Used() {
			h.Write(block, b)
		}
		for block := range 3 {
			evict(t, h, block)
		}
		contains(t, h, 0, inner('w'))
		contains(t, h, 1, n)
		contains(t, h, 2, inner('w'))
		frames(t, h, isFree(), isFree(), isFree())
		stays(t, h)
	}
}

// P17.5: a frame is Dirty no more once its block was read again.
func TestEvictTwice(t *testing.T) {
	h := ready(t, 1, 1, 1)
	pin(t, h, 0, 0, api.Got)
	take(t, h, 0, 0, true, true)
	set(t, h, 0, 0, leaf('a'), true)
	leave(t, h, 0, 0)
	evict(t, h, 0)
	pin(t, h, 1, 0, api.Read)
	load(t, h, 1, 0)
	frames(t, h, isReady(0, 1, true, false, leaf('a')))
	take(t, h, 1, 0, true, true)
	leave(t, h, 1, 0)
	b, _ := codec.Encode(inner('w'))
	h.Write(0, b)
	evict(t, h, 0)
	contains(t, h, 0, inner('w'))
}

// P17.5: none goes while all are pinned, Loading, Claimed or Free; the one that has no pin goes.
func TestEvictPinned(t *testing.T) {
	h := ready(t, 6, 6, 6)
	for one := range 6 {
		for b := range 6 {
			pin(t, h, b, b, api.Got)
			take(t, h, b, b, b%2 == 0, true)
		}
		stays(t, h)
		leave(t, h, one, one)
		evict(t, h, one)
		stays(t, h)
		pin(t, h, 7, one, api.Read)
		stays(t, h)
		load(t, h, 7, one)
		stays(t, h)
		take(t, h, 7, one, false, true)
		leave(t, h, 7, one)
		for b := range 6 {
			if b != one {
				leave(t, h, b, b)
			}
		}
	}
	d := made(t, 1, 1)
	stays(t, d)
	claim(t, d, 0, true)
	stays(t, d)
}

// P17.6: who waits for a load, for a frame or for a latch may not go on, and nobody else.
func TestMay(t *testing.T) {
	h := grown(t, 5, 3, 5)
	may(t, h)
	pin(t, h, 0, 0, api.Read)
	pin(t, h, 1, 0, api.Wait)
	may(t, h, 1)
	pin(t, h, 2, 1, api.Read)
	load(t, h, 2, 1)
	take(t, h, 2, 1, true, true)
	may(t, h, 1)
	pin(t, h, 3, 1, api.Got)
	take(t, h, 3, 1, false, false)
	may(t, h, 1, 3)
	claim(t, h, 3, true)
	may(t, h, 1, 3)
	pin(t, h, 4, 4, api.Queue)
	claim(t, h, 5, false)
	may(t, h, 1, 3, 4, 5)
	// The first in the line may go on when a frame is Free, but not if it waits for a latch.
	take(t, h, 4, 1, true, false)
	alloc(t, h, 3, 3)
	may(t, h, 1, 3, 4, 5)
	leave(t, h, 2, 1, 3)
	may(t, h, 1, 4, 5)
	leave(t, h, 3, 1, 4)
	may(t, h, 1, 5)
	load(t, h, 0, 0, 1)
	may(t, h, 5)
	pin(t, h, 4, 4, api.Read)
	may(t, h, 5)
	evict(t, h, 1)
	may(t, h)
	for _, task := range noTasks {
		if h.May(task) {
			t.Error(task)
		}
	}
}

// P17.6: who waits for the latch of any frame may not go on, the first and the last among them.
func TestMayOfEach(t *testing.T) {
	h := ready(t, 5, 5, 5)
	for b := range 5 {
		pin(t, h, 0, b, api.Got)
		take(t, h, 0, b, true, true)
		may(t, h)
		pin(t, h, 7, b, api.Got)
		take(t, h, 7, b, false, false)
		may(t, h, 7)
		leave(t, h, 0, b, 7)
		may(t, h)
		leave(t, h, 7, b)
	}
}

// P17.6: a pin, a load, a claim, a latch that is held, and a task in the line, each alone where that can be: nothing of it is Idle.
func TestIdle(t *testing.T) {
	idle := func(h *Hall, want bool) {
		t.Helper()
		if h.Idle() != want {
			t.Error(want, ask(h))
		}
	}
	h := grown(t, 3, 2, 2)
	idle(h, true)
	pin(t, h, 0, 1, api.Read)
	idle(h, false)
	load(t, h, 0, 1)
	idle(h, false)
	take(t, h, 0, 1, false, true)
	idle(h, false)
	leave(t, h, 0, 1)
	idle(h, true)
	pin(t, h, 0, 1, api.Got)
	idle(h, false)
	take(t, h, 0, 1, true, true)
	leave(t, h, 0, 1)
	idle(h, true)
	claim(t, h, 0, true)
	idle(h, false)
	alloc(t, h, 0, 1, 2)
	idle(h, false)
	born(t, h, 0, 2, leaf('2'), true)
	idle(h, true)
	// Latches without pins: of the first frame and of the last, for reading and for writing.
	for _, b := range []int{1, 2} {
		for _, write := range []bool{false, true} {
			take(t, h, 5, b, write, true)
			idle(h, false)
			leave(t, h, 5, b)
			idle(h, true)
		}
	}
	// A task in the line while nothing is pinned.
	pin(t, h, 0, 0, api.Queue)
	idle(h, false)
	evict(t, h, 1)
	idle(h, false)
	evict(t, h, 2)
	idle(h, false)
	pin(t, h, 0, 0, api.Read)
	load(t, h, 0, 0)
	take(t, h, 0, 0, true, true)
	leave(t, h, 0, 0)
	idle(h, true)
}

// P17.6: what is told of frames in each state, and of their latches.
func TestFrames(t *testing.T) {
	h := grown(t, 8, 6, 4)
	pin(t, h, 0, 3, api.Read)
	pin(t, h, 0, 2, api.Read)
	pin(t, h, 1, 2, api.Wait)
	load(t, h, 0, 2, 1)
	take(t, h, 1, 2, true, true)
	take(t, h, 0, 2, true, false)
	set(t, h, 1, 2, inner('k'), true)
	claim(t, h, 4, true)
	claim(t, h, 5, true)
	alloc(t, h, 4, 1, 4)
	born(t, h, 4, 4, leaf('n'), true)
	for task := 7; task >= 5; task-- {
		pin(t, h, task, 4, api.Got)
		take(t, h, task, 4, false, true)
	}
	pin(t, h, 2, 1, api.Read)
	load(t, h, 2, 1)
	frames(t, h, isLoading(3, 1), writtenBy(isReady(2, 2, true, true, inner('k')), 1, toWrite(0)), readBy(isReady(4, 3, true, true, leaf('n')), []int{5, 6, 7}), isClaimed(), isReady(1, 1, true, false, leaf(1)), isFree())
	if h.Free() != 1 || h.Left() != 3 || !slices.Equal(h.Used(), []int{0, 1, 2, 3, 4}) {
		t.Error(ask(h))
	}
}

// P17.6: a frame that went and came again, for the same block or another one, has a latch that nobody holds, if all have left it.
func TestFramesAnew(t *testing.T) {
	h := grown(t, 3, 1, 3)
	for round := range 9 {
		b, task, other := round%3, round%api.MaxTasks, (round+3)%api.MaxTasks
		pin(t, h, task, b, api.Read)
		n, _ := h.Look(b)
		frames(t, h, isLoading(b, 1))
		load(t, h, task, b)
		frames(t, h, isReady(b, 1, true, false, n))
		take(t, h, task, b, true, true)
		pin(t, h, other, b, api.Got)
		take(t, h, other, b, false, false)
		frames(t, h, writtenBy(isReady(b, 2, true, false, n), task, toRead(other)))
		leave(t, h, task, b, other)
		frames(t, h, readBy(isReady(b, 1, true, false, n), []int{other}))
		leave(t, h, other, b)
		frames(t, h, isReady(b, 0, true, false, n))
		evict(t, h, b)
		frames(t, h, isFree())
	}
}

// P17.1, P17.6: a latch is that of a frame, not of a block: what nobody has left stays with the frame when its block goes, and holds for the next one.
func TestFramesKeepLatches(t *testing.T) {
	h := ready(t, 3, 2, 2)
	// Task 4 writes without a pin, and 5 waits without one.
	take(t, h, 4, 0, true, true)
	take(t, h, 5, 0, false, false)
	evict(t, h, 0)
	kept := writtenBy(isFree(), 4, toRead(5))
	other := isReady(1, 0, false, false, leaf(1))
	frames(t, h, kept, other)
	may(t, h, 5)
	noLeave(t, h, 4, 0)
	noSet(t, h, 4, 0, leaf('x'))
	evict(t, h, 1)
	if h.Idle() {
		t.Error("idle")
	}
	// Block 1 has the first frame now, and block 0 the second.
	pin(t, h, 1, 1, api.Read)
	frames(t, h, writtenBy(isLoading(1, 1), 4, toRead(5)), isFree())
	load(t, h, 1, 1)
	pin(t, h, 2, 0, api.Read)
	load(t, h, 2, 0)
	noLeave(t, h, 4, 0)
	noTake(t, h, 4, 1)
	noTake(t, h, 5, 1)
	take(t, h, 1, 1, true, false)
	set(t, h, 4, 1, leaf('4'), true)
	take(t, h, 2, 0, true, true)
	frames(t, h, writtenBy(isReady(1, 1, true, true, leaf('4')), 4, toRead(5), toWrite(1)), writtenBy(isReady(0, 1, true, false, empty), 2))
	leave(t, h, 4, 1, 5)
	leave(t, h, 5, 1, 1)
	// A frame that is claimed and named has its latch all along as well.
	evict(t, h, 1)
	claim(t, h, 3, true)
	frames(t, h, writtenBy(isClaimed(), 1), writtenBy(isReady(0, 1, true, false, empty), 2))
	alloc(t, h, 3, 1, 2)
	born(t, h, 3, 2, leaf('2'), true)
	frames(t, h, writtenBy(isReady(2, 0, true, true, leaf('2')), 1), writtenBy(isReady(0, 1, true, false, empty), 2))
	leave(t, h, 1, 2)
}

// P17.6: Line, Free, Used and Left tell what the cache and the store tell.
func TestCounts(t *testing.T) {
	h := made(t, 4, 3)
	check := func(free, left int, line []int, used ...int) {
		t.Helper()
		if h.Free() != free || h.Left() != left || !slices.Equal(h.Line(), line) || !slices.Equal(h.Used(), used) {
			t.Error(ask(h))
		}
	}
	check(3, 3, nil, 0)
	claim(t, h, 0, true)
	claim(t, h, 0, true)
	check(1, 3, nil, 0)
	alloc(t, h, 0, 2, 1, 2)
	check(1, 1, nil, 0, 1, 2)
	pin(t, h, 1, 2, api.Read)
	check(0, 1, nil, 0, 1, 2)
	pin(t, h, 5, 0, api.Queue)
	claim(t, h, 3, false)
	pin(t, h, 4, 1, api.Queue)
	check(0, 1, []int{5, 3, 4}, 0, 1, 2)
	born(t, h, 0, 1, leaf('1'), true)
	pin(t, h, 4, 1, api.Got)
	check(0, 1, []int{5, 3}, 0, 1, 2)
	alloc(t, h, 0, 2)
	check(1, 1, []int{5, 3}, 0, 1, 2)
	pin(t, h, 5, 0, api.Read)
	check(0, 1, []int{3}, 0, 1, 2)
}

// P17.2 to P17.6: a number that is no task changes nothing, in whatever hall.
func TestNoTask(t *testing.T) {
	unchanged(t, func(kind string, h *Hall) {
		for _, task := range noTasks {
			for _, b := range []int{0, 1, 2, 3, 4, 7, 255, -1, 256} {
				if l, ok := h.Load(task, b); ok || len(l) != 0 || h.Pin(task, b) != 0 {
					t.Error("load", kind, task, b, l)
				}
				if l := h.Leave(task, b); len(l) != 0 || h.Take(task, b, false) || h.Take(task, b, true) {
					t.Error("latch", kind, task, b, l)
				}
				if h.Born(task, b, leaf('x')) || h.Set(task, b, leaf('x')) {
					t.Error("node", kind, task, b)
				}
			}
			for n := -1; n < 4; n++ {
				if l, ok := h.Alloc(task, n); ok || len(l) != 0 {
					t.Error("alloc", kind, task, n, l)
				}
			}
			if h.Claim(task) || h.May(task) {
				t.Error("claim", kind, task)
			}
		}
	})
}

// P17.2 to P17.5: a number that is no block changes nothing, in whatever hall and by whatever task; nor does one that is not allocated.
func TestNoBlock(t *testing.T) {
	unchanged(t, func(kind string, h *Hall) {
		for _, b := range append(noBlocks, 8, 100, 255) {
			for task := range api.MaxTasks {
				if l, ok := h.Load(task, b); ok || len(l) != 0 || h.Pin(task, b) != 0 {
					t.Error("load", kind, task, b, l)
				}
				if l := h.Leave(task, b); len(l) != 0 || h.Take(task, b, false) || h.Take(task, b, true) {
					t.Error("latch", kind, task, b, l)
				}
				if h.Born(task, b, leaf('x')) || h.Set(task, b, leaf('x')) {
					t.Error("node", kind, task, b)
				}
			}
			if n, ok := h.Node(b); ok || !node.Same(n, api.Node{}) {
				t.Error("node", kind, b, n)
			}
			noLook(t, h, b)
		}
	})
}

// P17.2 to P17.6: the first and the last tasks and blocks are as any others.
func TestEnds(t *testing.T) {
	h := grown(t, api.MaxBlocks, 3, api.MaxBlocks)
	for _, task := range []int{0, api.MaxTasks - 1} {
		for _, b := range []int{0, api.MaxBlocks - 1} {
			pin(t, h, task, b, api.Read)
			pin(t, h, task, b, api.Wait)
			may(t, h, task)
			load(t, h, task, b, task)
			take(t, h, task, b, true, true)
			set(t, h, task, b, leaf('e'), true)
			looks(t, h, b, leaf('e'))
			leave(t, h, task, b)
			take(t, h, task, b, false, true)
			leave(t, h, task, b)
			evict(t, h, b)
			contains(t, h, b, leaf('e'))
			claim(t, h, task, true)
			born(t, h, task, b, leaf('f'), true)
			evict(t, h, b)
			contains(t, h, b, leaf('f'))
			claim(t, h, task, true)
			alloc(t, h, task, 1)
		}
	}
	d := made(t, 3, 3)
	for _, task := range []int{0, api.MaxTasks - 1} {
		claim(t, d, task, true)
		alloc(t, d, task, 1, len(d.Used()))
	}
}

// spoil overwrites the lists of a node, and the memory beyond their length.
func spoil(n api.Node) {
	overwrite(n.Entries, api.Entry{Key: api.Key{N: 8}})
	overwrite(n.Kids, 77)
	overwrite(n.Pivots, api.Key{N: 7})
	overwrite(n.Msgs, api.Msg{Kind: api.Del})
}

func overwrite[T any](l []T, with T) {
	l = l[:cap(l)]
	for i := range l {
		l[i] = with
	}
}

// R3: the nodes that are handed in are not changed, nor the memory beyond their lists.
func TestArguments(t *testing.T) {
	whole := []int{1, 2, 3, 4, 5}
	n := inner('h')
	n.Kids = whole[:2]
	h := ready(t, 2, 2, 1)
	pin(t, h, 0, 0, api.Got)
	take(t, h, 0, 0, true, true)
	set(t, h, 0, 0, n, true)
	claim(t, h, 0, true)
	alloc(t, h, 0, 1, 1)
	born(t, h, 0, 1, n, true)
	set(t, h, 0, 0, leaf('l'), true)
	leave(t, h, 0, 0)
	h.Evict()
	h.Evict()
	want := inner('h')
	if !node.Same(n, want) || !slices.Equal(whole, []int{1, 2, 3, 4, 5}) {
		t.Error(n, whole)
	}
}

// R4: the nodes that are handed in may be changed afterwards: what the hall has is not.
func TestKeepsItsOwn(t *testing.T) {
	for _, of := range []func(b byte) api.Node{leaf, inner} {
		h := ready(t, 2, 2, 1)
		pin(t, h, 0, 0, api.Got)
		take(t, h, 0, 0, true, true)
		claim(t, h, 0, true)
		alloc(t, h, 0, 1, 1)
		a, b := of('a'), of('b')
		set(t, h, 0, 0, a, true)
		born(t, h, 0, 1, b, true)
		spoil(a)
		spoil(b)
		looks(t, h, 0, of('a'))
		looks(t, h, 1, of('b'))
		leave(t, h, 0, 0)
		h.Evict()
		h.Evict()
		contains(t, h, 0, of('a'))
		contains(t, h, 1, of('b'))
	}
}

// R3: what was returned may be changed, beyond its length too, without changing the hall.
func TestSharesNothing(t *testing.T) {
	for kind, h := range halls(t) {
		twin := halls(t)[kind]
		for _, f := range h.Frames() {
			spoil(f.Node)
			overwrite(f.Readers, 66)
			overwrite(f.Queue, api.Want{Task: 66})
		}
		overwrite(h.Frames(), api.Frame{State: 9, Writer: 66})
		overwrite(h.Line(), 66)
		overwrite(h.Used(), 66)
		for _, b := range h.Used() {
			n, _ := h.Node(b)
			spoil(n)
			n, _ = h.Look(b)
			spoil(n)
		}
		for task := range api.MaxTasks {
			for b := range api.MaxBlocks {
				waited, _ := h.Load(task, b)
				overwrite(waited, 66)
				twin.Load(task, b)
				in := h.Leave(task, b)
				overwrite(in, 66)
				twin.Leave(task, b)
			}
			blocks, _ := h.Alloc(task, 1)
			overwrite(blocks, 66)
			twin.Alloc(task, 1)
			if !same(ask(h), ask(twin)) {
				t.Fatal(kind, task)
			}
		}
		if !slices.Equal(reveal(h), reveal(twin)) {
			t.Error(kind)
		}
	}
}

// R3: what was returned is not changed by a later call.
func TestStays(t *testing.T) {
	h := grown(t, 5, 3, 2)
	claim(t, h, 0, true)
	pin(t, h, 0, 0, api.Read)
	pin(t, h, 6, 0, api.Wait)
	pin(t, h, 3, 0, api.Wait)
	pin(t, h, 5, 1, api.Read)
	claim(t, h, 1, false)
	pin(t, h, 2, 1, api.Wait)
	claim(t, h, 4, false)
	blocks, _ := h.Alloc(0, 1)
	waited, _ := h.Load(0, 0)
	take(t, h, 0, 0, true, true)
	take(t, h, 6, 0, false, false)
	take(t, h, 3, 0, false, false)
	set(t, h, 0, 0, inner('a'), true)
	before, line, used := h.Frames(), h.Line(), h.Used()
	n, _ := h.Node(0)
	look, _ := h.Look(0)
	set(t, h, 0, 0, leaf('b'), true)
	in := h.Leave(0, 0)
	take(t, h, 2, 0, true, false)
	leave(t, h, 6, 0)
	leave(t, h, 3, 0, 2)
	load(t, h, 5, 1, 2)
	alloc(t, h, 0, 0)
	claim(t, h, 1, true)
	alloc(t, h, 1, 1, 3)
	if !slices.Equal(blocks, []int{2}) || !slices.Equal(waited, []int{6, 3}) || !slices.Equal(in, []int{6, 3}) || !slices.Equal(line, []int{1, 4}) || !slices.Equal(used, []int{0, 1, 2}) {
		t.Error(blocks, waited, in, line, used)
	}
	if !node.Same(n, inner('a')) || !node.Same(look, inner('a')) {
		t.Error(n, look)
	}
	want := []api.Frame{isClaimed(), writtenBy(isReady(0, 3, true, true, inner('a')), 0, toRead(6), toRead(3)), isLoading(1, 2)}
	if !slices.EqualFunc(before, want, sameFrame) {
		t.Error(before)
	}
}

// R4: what is asked changes nothing.
func TestAsked(t *testing.T) {
	unchanged(t, func(kind string, h *Hall) {
		was := ask(h)
		for b := range api.MaxBlocks {
			h.Node(b)
			h.Look(b)
		}
		if !same(ask(h), was) {
			t.Error(kind)
		}
	})
}

// R4: two halls have nothing to do with each other.
func TestApart(t *testing.T) {
	a, b := grown(t, 4, 2, 2), grown(t, 4, 2, 2)
	pin(t, b, 0, 0, api.Read)
	pin(t, b, 1, 0, api.Wait)
	claim(t, b, 2, true)
	pin(t, b, 3, 1, api.Queue)
	was := ask(b)
	claim(t, a, 2, true)
	alloc(t, a, 2, 1, 2)
	born(t, a, 2, 2, leaf('2'), true)
	noLoad(t, a, 0, 0)
	pin(t, a, 4, 0, api.Read)
	load(t, a, 4, 0)
	take(t, a, 4, 0, true, true)
	take(t, a, 5, 0, true, false)
	set(t, a, 4, 0, inner('a'), true)
	leave(t, a, 4, 0, 5)
	evict(t, a, 2)
	if !same(ask(b), was) {
		t.Error(ask(b))
	}
	noLoad(t, b, 4, 0)
	load(t, b, 0, 0, 1)
	alloc(t, b, 2, 1, 2)
	frames(t, a, isFree(), writtenBy(isReady(0, 0, false, true, inner('a')), 5))
	frames(t, b, isReady(0, 2, true, false, empty), isClaimed())
	looks(t, a, 2, leaf('2'))
	looks(t, b, 2, empty)
}
