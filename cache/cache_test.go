package cache

import (
	"math"
	"slices"
	"testing"

	"orangery/api"
	"orangery/node"
)

// visit is what a task wants that waits: the frame of a block or, of block -1, one to claim; or, if load is true, that the node of the block is there.
type visit struct {
	task, block int
	load        bool
}

// life is what a cache is to be: its frames as they are told, who has claimed them, all that wait in the order in which they came, and the hand.
type life struct {
	frames []api.Frame
	owners []int
	came   []visit
	hand   int
}

func begin(n int) *life {
	l := &life{}
	for range n {
		l.frames = append(l.frames, api.Frame{Block: -1, Writer: -1})
		l.owners = append(l.owners, -1)
	}
	return l
}

// bad tells whether a number is not one of the n from 0 on.
func bad(x, n int) bool { return x < 0 || x >= n }

// put lays a frame in place i, which nobody has claimed but the owner.
func (l *life) put(i int, f api.Frame, owner int) {
	f.Writer = -1
	l.frames[i], l.owners[i] = f, owner
}

// count returns how many frames are in a state.
func (l *life) count(state int) int {
	n := 0
	for _, f := range l.frames {
		if f.State == state {
			n++
		}
	}
	return n
}

// of returns the place of the frame of a block, or -1.
func (l *life) of(block int) int {
	if bad(block, api.MaxBlocks) {
		return -1
	}
	return slices.IndexFunc(l.frames, func(f api.Frame) bool { return f.Block == block })
}

// ready returns the frame of a block if its node is there, or nil.
func (l *life) ready(block int) *api.Frame {
	if at := l.of(block); at >= 0 && l.frames[at].State == api.Ready {
		return &l.frames[at]
	}
	return nil
}

// waits returns what a task waits for; a task of -1 if it does not wait.
func (l *life) waits(task int) visit {
	for _, v := range l.came {
		if v.task == task {
			return v
		}
	}
	return visit{-1, -1, false}
}

// leave ends the wait of a task.
func (l *life) leave(task int) {
	l.came = slices.DeleteFunc(l.came, func(v visit) bool { return v.task == task })
}

// line returns the tasks that wait for a frame.
func (l *life) line() []int {
	var out []int
	for _, v := range l.came {
		if !v.load {
			out = append(out, v.task)
		}
	}
	return out
}

// turn tells whether a task is the first in the line, or nobody is in it.
func (l *life) turn(task int) bool {
	line := l.line()
	return len(line) == 0 || line[0] == task
}

// serve gives the first Free frame to a task that may have it, and tells its place; -1 if it is in the line now.
func (l *life) serve(task, block int) int {
	for i, f := range l.frames {
		if f.State == api.Free && l.turn(task) {
			l.leave(task)
			return i
		}
	}
	if l.waits(task).task < 0 {
		l.came = append(l.came, visit{task, block, false})
	}
	return -1
}

func (l *life) pin(task, block int) int {
	if bad(task, api.MaxTasks) || bad(block, api.MaxBlocks) {
		return 0
	}
	if v := l.waits(task); v.task >= 0 && (v.load || v.block != block) {
		return 0
	}
	at := l.of(block)
	if at < 0 {
		if at = l.serve(task, block); at < 0 {
			return api.Queue
		}
		l.put(at, api.Frame{State: api.Loading, Block: block, Pins: 1, Ref: true}, -1)
		return api.Read
	}
	l.leave(task)
	l.frames[at].Pins++
	l.frames[at].Ref = true
	if l.frames[at].State == api.Loading {
		l.came = append(l.came, visit{task, block, true})
		return api.Wait
	}
	return api.Got
}

func (l *life) fill(block int, n api.Node) ([]int, bool) {
	at := l.of(block)
	if at < 0 || l.frames[at].State != api.Loading {
		return nil, false
	}
	l.frames[at].State, l.frames[at].Node = api.Ready, n
	var out []int
	for _, v := range slices.Clone(l.came) {
		if v.load && v.block == block {
			out = append(out, v.task)
			l.leave(v.task)
		}
	}
	return out, true
}

func (l *life) claim(task int) bool {
	if bad(task, api.MaxTasks) {
		return false
	}
	if v := l.waits(task); v.task >= 0 && (v.load || v.block != -1) {
		return false
	}
	at := l.serve(task, -1)
	if at >= 0 {
		l.put(at, api.Frame{State: api.Claimed, Block: -1, Pins: 1}, task)
	}
	return at >= 0
}

func (l *life) give(task int) int {
	n := 0
	for i, owner := range l.owners {
		if owner == task && !bad(task, api.MaxTasks) {
			l.put(i, api.Frame{Block: -1}, -1)
			n++
		}
	}
	return n
}

func (l *life) name(task, block int, n api.Node) bool {
	at := slices.Index(l.owners, task)
	if bad(task, api.MaxTasks) || bad(block, api.MaxBlocks) || at < 0 || l.of(block) >= 0 {
		return false
	}
	l.put(at, api.Frame{State: api.Ready, Block: block, Ref: true, Dirty: true, Node: n}, -1)
	return true
}

func (l *life) unpin(block int) bool {
	f := l.ready(block)
	if f == nil || f.Pins == 0 {
		return false
	}
	f.Pins--
	return true
}

func (l *life) set(block int, n api.Node) bool {
	f := l.ready(block)
	if f == nil {
		return false
	}
	f.Node, f.Dirty = n, true
	return true
}

// evict turns the hand till a frame goes, if one can go.
func (l *life) evict() (block int, n api.Node, dirty, ok bool) {
	can := func(f api.Frame) bool { return f.State == api.Ready && f.Pins == 0 }
	if !slices.ContainsFunc(l.frames, can) {
		return 0, api.Node{}, false, false
	}
	for {
		at := l.hand
		f := l.frames[at]
		l.hand = (at + 1) % len(l.frames)
		if can(f) && !f.Ref {
			l.put(at, api.Frame{Block: -1}, -1)
			return f.Block, f.Node, f.Dirty, true
		}
		if can(f) {
			l.frames[at].Ref = false
		}
	}
}

func (l *life) may(task int) bool {
	if bad(task, api.MaxTasks) {
		return false
	}
	v := l.waits(task)
	return v.task < 0 || !v.load && (l.turn(task) && l.count(api.Free) > 0 || l.of(v.block) >= 0)
}

// sameFrame tells whether two frames are told alike.
func sameFrame(a, b api.Frame) bool {
	return a.State == b.State && a.Block == b.Block && a.Pins == b.Pins && a.Ref == b.Ref && a.Dirty == b.Dirty && node.Same(a.Node, b.Node) &&
		a.Writer == b.Writer && slices.Equal(a.Readers, b.Readers) && slices.Equal(a.Queue, b.Queue)
}

// answers are all that can be asked of a cache.
type answers struct {
	frames []api.Frame
	line   []int
	free   int
	may    [api.MaxTasks]bool
}

func ask(c *Cache) answers {
	a := answers{frames: c.Frames(), line: c.Line(), free: c.Free()}
	for task := range a.may {
		a.may[task] = c.May(task)
	}
	return a
}

func same(a, b answers) bool {
	return slices.EqualFunc(a.frames, b.frames, sameFrame) && slices.Equal(a.line, b.line) && a.free == b.free && a.may == b.may
}

// agrees tells whether all that can be asked of c is as l has it.
func agrees(c *Cache, l *life) bool {
	want := answers{frames: l.frames, line: l.line(), free: l.count(api.Free)}
	for task := range want.may {
		want.may[task] = l.may(task)
	}
	return same(ask(c), want)
}

// proper tells whether what c says of its frames is what may be: a block has one at most, and a Free frame has nothing.
func proper(c *Cache) bool {
	seen := map[int]int{}
	free := 0
	for _, f := range c.Frames() {
		belongs := f.State == api.Loading || f.State == api.Ready
		seen[f.Block]++
		if belongs == (f.Block == -1) || f.Block >= 0 && seen[f.Block] > 1 || f.Pins < 0 {
			return false
		}
		if f.State != api.Ready && (f.Dirty || !node.Same(f.Node, api.Node{})) || (f.State == api.Loading || f.State == api.Claimed) && f.Pins == 0 {
			return false
		}
		if f.State == api.Free {
			free++
			if f.Pins != 0 || f.Ref {
				return false
			}
		}
	}
	line := c.Line()
	slices.Sort(line)
	return free == c.Free() && len(line) == len(slices.Compact(slices.Clone(line)))
}

// leaf returns a leaf that is told from the others by a byte.
func leaf(b byte) api.Node {
	return api.Node{Leaf: true, Entries: []api.Entry{{Key: api.Key{N: 1, B: [8]byte{b}}, Value: api.Value{N: 1, B: [16]byte{b}}}}}
}

// inner returns a node with children, a pivot and a message.
func inner(b byte) api.Node {
	k := api.Key{N: 1, B: [8]byte{b}}
	return api.Node{Kids: []int{int(b), int(b) + 1}, Pivots: []api.Key{k}, Msgs: []api.Msg{{Kind: api.Add, Seq: 3, Key: k, By: 9}}}
}

// nodes are some of all kinds, valid or not.
func nodes() []api.Node {
	wrong := inner('w')
	wrong.Leaf, wrong.Entries = true, leaf('v').Entries
	return []api.Node{{}, {Leaf: true}, leaf('a'), inner('b'), wrong, {Kids: []int{-1, 1 << 40}, Msgs: []api.Msg{{Kind: 77}}}}
}

// made returns a cache of n frames.
func made(t *testing.T, n int) *Cache {
	t.Helper()
	c, e := New(n)
	if c == nil || e != api.OK {
		t.Fatal(n, e)
	}
	return c
}

// full returns a cache whose frames are Ready for the blocks from 0 on, unpinned, with their Refs.
func full(t *testing.T, n int) *Cache {
	t.Helper()
	c := made(t, n)
	for block := range n {
		c.Pin(0, block)
		c.Fill(block, leaf(byte(block)))
		c.Unpin(block)
	}
	return c
}

// pin checks what Pin answers.
func pin(t *testing.T, c *Cache, task, block, want int) {
	t.Helper()
	if got := c.Pin(task, block); got != want {
		t.Error("pin", task, block, got, "not", want)
	}
}

// claim checks what Claim answers.
func claim(t *testing.T, c *Cache, task int, want bool) {
	t.Helper()
	if got := c.Claim(task); got != want {
		t.Error("claim", task, got)
	}
}

// fill checks who has waited for a load that there was.
func fill(t *testing.T, c *Cache, block int, n api.Node, want ...int) {
	t.Helper()
	if got, ok := c.Fill(block, n); !ok || !slices.Equal(got, want) {
		t.Error("fill", block, got, ok, "not", want)
	}
}

// give checks how many frames were given back.
func give(t *testing.T, c *Cache, task, want int) {
	t.Helper()
	if got := c.Give(task); got != want {
		t.Error("give", task, got, "not", want)
	}
}

// name checks whether a frame was named.
func name(t *testing.T, c *Cache, task, block int, n api.Node, want bool) {
	t.Helper()
	if got := c.Name(task, block, n); got != want {
		t.Error("name", task, block, got)
	}
}

// unpin checks whether there was a pin to take.
func unpin(t *testing.T, c *Cache, block int, want bool) {
	t.Helper()
	if got := c.Unpin(block); got != want {
		t.Error("unpin", block, got)
	}
}

// set checks whether there was a node to replace.
func set(t *testing.T, c *Cache, block int, n api.Node, want bool) {
	t.Helper()
	if got := c.Set(block, n); got != want {
		t.Error("set", block, got)
	}
}

// evict checks which block goes, with which node.
func evict(t *testing.T, c *Cache, block int, n api.Node, dirty bool) {
	t.Helper()
	if b, n2, d, ok := c.Evict(); b != block || !node.Same(n2, n) || d != dirty || !ok {
		t.Error("evict", b, n2, d, ok, "not", block, n, dirty)
	}
}

// stays checks that no frame can be evicted, and that nothing is changed by that.
func stays(t *testing.T, c *Cache) {
	t.Helper()
	was := ask(c)
	if b, n, d, ok := c.Evict(); b != 0 || !node.Same(n, api.Node{}) || d || ok || !same(ask(c), was) {
		t.Error("evict", b, n, d, ok, ask(c))
	}
}

// line checks who stands in the line.
func line(t *testing.T, c *Cache, want ...int) {
	t.Helper()
	if got := c.Line(); !slices.Equal(got, want) {
		t.Error("line", got, "not", want)
	}
}

// may checks that just these tasks may go on.
func may(t *testing.T, c *Cache, want ...int) {
	t.Helper()
	for task := range api.MaxTasks {
		if c.May(task) != slices.Contains(want, task) {
			t.Error("may", task, c.May(task))
		}
	}
}

// frames checks what is told of all frames.
func frames(t *testing.T, c *Cache, want ...api.Frame) {
	t.Helper()
	for i := range want {
		want[i].Writer = -1
	}
	got := c.Frames()
	if !slices.EqualFunc(got, want, sameFrame) {
		t.Error("frames", got, "not", want)
	}
	free := 0
	for _, f := range got {
		if f.State == api.Free {
			free++
		}
	}
	if c.Free() != free || !proper(c) {
		t.Error("free", c.Free(), got)
	}
}

// Frames as they are told, but for the Writer.
func isFree() api.Frame    { return api.Frame{State: api.Free, Block: -1} }
func isClaimed() api.Frame { return api.Frame{State: api.Claimed, Block: -1, Pins: 1} }
func isLoading(b, pins int) api.Frame {
	return api.Frame{State: api.Loading, Block: b, Pins: pins, Ref: true}
}
func isReady(b, pins int, ref, dirty bool, n api.Node) api.Frame {
	return api.Frame{State: api.Ready, Block: b, Pins: pins, Ref: ref, Dirty: dirty, Node: n}
}

// noTasks and noBlocks are numbers of none.
var (
	noTasks  = []int{-1, -2, -8, -9, math.MinInt, math.MinInt + 1, -1 << 32, 8, 9, 16, 64, 255, 256, 1 << 31, 1 << 32, 1<<32 + 1, math.MaxInt}
	noBlocks = []int{-1, -2, -255, -256, -257, math.MinInt, math.MinInt + 1, -1 << 32, 256, 257, 512, 1 << 31, 1 << 32, 1<<32 + 5, math.MaxInt}
)

// caches are of all kinds: with frames in all states, and with tasks that wait for a load, for a block, for a claim.
func caches(t *testing.T) map[string]*Cache {
	out := map[string]*Cache{"new": made(t, 3), "full": full(t, 4), "small": made(t, 1)}
	pin(t, out["small"], 0, 5, api.Read)
	pin(t, out["small"], 1, 5, api.Wait)
	pin(t, out["small"], 2, 6, api.Queue)
	claimed := made(t, 2)
	claim(t, claimed, 7, true)
	claim(t, claimed, 7, true)
	claim(t, claimed, 3, false)
	pin(t, claimed, 4, 0, api.Queue)
	pin(t, claimed, 5, 0, api.Queue)
	out["claimed"] = claimed
	mixed := full(t, 5)
	set(t, mixed, 1, inner('x'), true)
	evict(t, mixed, 0, leaf(0), false)
	evict(t, mixed, 1, inner('x'), true)
	pin(t, mixed, 0, 4, api.Got)
	claim(t, mixed, 1, true)
	pin(t, mixed, 2, 255, api.Read)
	pin(t, mixed, 3, 255, api.Wait)
	pin(t, mixed, 4, 200, api.Queue)
	claim(t, mixed, 5, false)
	pin(t, mixed, 6, 200, api.Queue)
	pin(t, mixed, 7, 255, api.Wait)
	out["mixed"] = mixed
	freed := made(t, 2)
	pin(t, freed, 0, 1, api.Read)
	claim(t, freed, 1, true)
	pin(t, freed, 2, 9, api.Queue)
	claim(t, freed, 3, false)
	pin(t, freed, 4, 9, api.Queue)
	give(t, freed, 1, 1)
	out["freed"] = freed
	return out
}

// reveal tells all that a cache keeps, that which no question shows too: it uses the cache up.
func reveal(c *Cache) []int {
	var out []int
	for task := range api.MaxTasks {
		out = append(out, c.Give(task))
		for b := range api.MaxBlocks {
			if slices.Contains(c.Line(), task) && c.Pin(task, b) != 0 {
				out = append(out, task, b)
			}
		}
	}
	for b := range api.MaxBlocks {
		waited, ok := c.Fill(b, leaf('r'))
		if ok {
			out = append(append(out, b), waited...)
		}
		for range 20 {
			if c.Unpin(b) {
				out = append(out, b)
			}
		}
	}
	for range api.MaxFrames {
		if b, n, _, ok := c.Evict(); ok {
			out = append(out, b, node.Bytes(n))
		}
	}
	return out
}

// unchanged checks that what is done to a cache of each kind changes nothing.
func unchanged(t *testing.T, do func(kind string, c *Cache)) {
	t.Helper()
	for kind, c := range caches(t) {
		twin := caches(t)[kind]
		do(kind, c)
		if !same(ask(c), ask(twin)) || !slices.Equal(reveal(c), reveal(twin)) {
			t.Error("changed", kind)
		}
	}
}

// P16.1: a new cache has as many Free frames as it is to have, and an empty line.
func TestNew(t *testing.T) {
	for n := 1; n <= api.MaxFrames; n++ {
		c := made(t, n)
		frames(t, c, slices.Repeat([]api.Frame{isFree()}, n)...)
		line(t, c)
		may(t, c, 0, 1, 2, 3, 4, 5, 6, 7)
		stays(t, c)
		if c.Free() != n {
			t.Error(n, c.Free())
		}
	}
}

// P16.1: the hand of a new cache is at its first frame.
func TestHand(t *testing.T) {
	for _, n := range []int{1, 2, 3, api.MaxFrames} {
		c := full(t, n)
		for b := range n {
			evict(t, c, b, leaf(byte(b)), false)
		}
		stays(t, c)
	}
}

// P16.1: no frames, or too many.
func TestNewWrong(t *testing.T) {
	for _, n := range []int{0, -1, -2, -64, math.MinInt, api.MaxFrames + 1, 128, 1 << 32, 1<<32 + 1, math.MaxInt} {
		if c, e := New(n); c != nil || e != api.ErrArg {
			t.Error(n, e)
		}
	}
}

// P16.2, P16.3: the chapter's examples.
func TestExample(t *testing.T) {
	c := made(t, 1)
	pin(t, c, 0, 5, api.Read)
	pin(t, c, 1, 5, api.Wait)
	pin(t, c, 2, 6, api.Queue)
	frames(t, c, isLoading(5, 2))
	line(t, c, 2)
	may(t, c, 0, 3, 4, 5, 6, 7)
	fill(t, c, 5, leaf('a'), 1)
	frames(t, c, isReady(5, 2, true, false, leaf('a')))
	line(t, c, 2)
	may(t, c, 0, 1, 3, 4, 5, 6, 7)
}

// P16.2: of a Ready frame the pins increase, by each task and as often as it asks, and it is referenced again.
func TestPinReady(t *testing.T) {
	c := full(t, 2)
	evict(t, c, 0, leaf(0), false)
	frames(t, c, isFree(), isReady(1, 0, false, false, leaf(1)))
	pin(t, c, 3, 1, api.Got)
	frames(t, c, isFree(), isReady(1, 1, true, false, leaf(1)))
	pin(t, c, 3, 1, api.Got)
	pin(t, c, 7, 1, api.Got)
	set(t, c, 1, leaf('s'), true)
	pin(t, c, 0, 1, api.Got)
	frames(t, c, isFree(), isReady(1, 4, true, true, leaf('s')))
	line(t, c)
	may(t, c, 0, 1, 2, 3, 4, 5, 6, 7)
}

// P16.2: of a Loading frame the pins increase, and who asks waits; but not who is to read it.
func TestPinLoading(t *testing.T) {
	c := made(t, 2)
	pin(t, c, 2, 9, api.Read)
	may(t, c, 0, 1, 2, 3, 4, 5, 6, 7)
	pin(t, c, 7, 9, api.Wait)
	pin(t, c, 0, 9, api.Wait)
	frames(t, c, isLoading(9, 3), isFree())
	may(t, c, 1, 2, 3, 4, 5, 6)
	line(t, c)
	// Whoever reads it may read others too, and wait for what it is to read itself.
	pin(t, c, 2, 8, api.Read)
	pin(t, c, 2, 9, api.Wait)
	pin(t, c, 2, 8, 0)
	frames(t, c, isLoading(9, 4), isLoading(8, 1))
	may(t, c, 1, 3, 4, 5, 6)
	fill(t, c, 9, leaf('9'), 7, 0, 2)
	fill(t, c, 8, leaf('8'))
	pin(t, c, 2, 8, api.Got)
	frames(t, c, isReady(9, 4, true, false, leaf('9')), isReady(8, 2, true, false, leaf('8')))
}

// P16.2: the first Free frame is that of the block, wherever it is.
func TestPinFree(t *testing.T) {
	c := full(t, 4)
	evict(t, c, 0, leaf(0), false)
	evict(t, c, 1, leaf(1), false)
	evict(t, c, 2, leaf(2), false)
	pin(t, c, 1, 0, api.Read)
	claim(t, c, 1, true)
	frames(t, c, isLoading(0, 1), isClaimed(), isFree(), isReady(3, 0, false, false, leaf(3)))
	pin(t, c, 1, 255, api.Read)
	frames(t, c, isLoading(0, 1), isClaimed(), isLoading(255, 1), isReady(3, 0, false, false, leaf(3)))
	give(t, c, 1, 1)
	pin(t, c, 2, 254, api.Read)
	frames(t, c, isLoading(0, 1), isLoading(254, 1), isLoading(255, 1), isReady(3, 0, false, false, leaf(3)))
	line(t, c)
}

// P16.2: a frame that another block has had keeps nothing of it.
func TestPinAnew(t *testing.T) {
	c := made(t, 1)
	for i, n := range nodes() {
		pin(t, c, 0, i, api.Read)
		frames(t, c, isLoading(i, 1))
		fill(t, c, i, leaf('z'))
		set(t, c, i, n, true)
		pin(t, c, 1, i, api.Got)
		unpin(t, c, i, true)
		unpin(t, c, i, true)
		evict(t, c, i, n, true)
		frames(t, c, isFree())
		pin(t, c, 0, 100+i, api.Read)
		frames(t, c, isLoading(100+i, 1))
		fill(t, c, 100+i, n)
		frames(t, c, isReady(100+i, 1, true, false, n))
		unpin(t, c, 100+i, true)
		evict(t, c, 100+i, n, false)
	}
}

// P16.2: whoever waits for a load pins nothing: not that block, nor one that has a frame, nor one that can have one.
func TestPinWaiting(t *testing.T) {
	c := made(t, 4)
	pin(t, c, 0, 5, api.Read)
	pin(t, c, 1, 5, api.Wait)
	pin(t, c, 0, 6, api.Read)
	pin(t, c, 0, 7, api.Read)
	fill(t, c, 7, leaf('7'))
	was := ask(c)
	for _, b := range []int{5, 6, 7, 8, 0, 255} {
		pin(t, c, 1, b, 0)
	}
	if !same(ask(c), was) {
		t.Error(ask(c))
	}
	fill(t, c, 5, leaf('5'), 1)
	pin(t, c, 1, 5, api.Got)
	pin(t, c, 1, 6, api.Wait)
	pin(t, c, 1, 8, 0)
	fill(t, c, 6, leaf('6'), 1)
	pin(t, c, 1, 8, api.Read)
}

// P16.2: whoever stands in the line for a block pins no other, and whoever stands there for a claim pins none; not even if a frame is Free.
func TestPinStanding(t *testing.T) {
	c := made(t, 3)
	pin(t, c, 0, 5, api.Read)
	fill(t, c, 5, leaf('5'))
	pin(t, c, 0, 6, api.Read)
	claim(t, c, 0, true)
	pin(t, c, 1, 7, api.Queue)
	claim(t, c, 2, false)
	check := func() {
		t.Helper()
		was := ask(c)
		for _, b := range []int{0, 5, 6, 8, 255} {
			pin(t, c, 1, b, 0)
			pin(t, c, 2, b, 0)
		}
		pin(t, c, 2, 7, 0)
		claim(t, c, 1, false)
		if !same(ask(c), was) {
			t.Error(ask(c))
		}
	}
	check()
	give(t, c, 0, 1)
	check()
	line(t, c, 1, 2)
	pin(t, c, 1, 7, api.Read)
	give(t, c, 0, 0)
	unpin(t, c, 5, true)
	evict(t, c, 5, leaf('5'), false)
	line(t, c, 2)
	for _, b := range []int{0, 6, 7, 8} {
		pin(t, c, 2, b, 0)
	}
	claim(t, c, 2, true)
	line(t, c)
}

// P16.2: the same block again while it stands in the line: it has its place once, and keeps it.
func TestPinTwice(t *testing.T) {
	c := made(t, 1)
	claim(t, c, 0, true)
	for range 3 {
		pin(t, c, 4, 9, api.Queue)
		pin(t, c, 2, 9, api.Queue)
		pin(t, c, 6, 8, api.Queue)
		claim(t, c, 1, false)
		pin(t, c, 0, 9, api.Queue)
		line(t, c, 4, 2, 6, 1, 0)
	}
	give(t, c, 0, 1)
	for range 3 {
		pin(t, c, 2, 9, api.Queue)
		pin(t, c, 6, 8, api.Queue)
		claim(t, c, 1, false)
		line(t, c, 4, 2, 6, 1, 0)
	}
	may(t, c, 3, 4, 5, 7)
	pin(t, c, 4, 9, api.Read)
	line(t, c, 2, 6, 1, 0)
}

// P16.2: whoever stands in the line, wherever, for a block that has a frame by now leaves it: to wait while it is Loading, and else with the frame.
func TestPinFromLine(t *testing.T) {
	c := made(t, 2)
	claim(t, c, 7, true)
	claim(t, c, 7, true)
	for task := range 5 {
		pin(t, c, task, 30, api.Queue)
	}
	pin(t, c, 5, 31, api.Queue)
	may(t, c, 6, 7)
	give(t, c, 7, 2)
	may(t, c, 0, 6, 7)
	pin(t, c, 0, 30, api.Read)
	may(t, c, 0, 1, 2, 3, 4, 6, 7)
	pin(t, c, 3, 30, api.Wait)
	line(t, c, 1, 2, 4, 5)
	may(t, c, 0, 1, 2, 4, 6, 7)
	pin(t, c, 1, 30, api.Wait)
	line(t, c, 2, 4, 5)
	frames(t, c, isLoading(30, 3), isFree())
	fill(t, c, 30, leaf('f'), 3, 1)
	may(t, c, 0, 1, 2, 3, 4, 6, 7)
	pin(t, c, 4, 30, api.Got)
	line(t, c, 2, 5)
	pin(t, c, 5, 31, api.Queue)
	pin(t, c, 2, 30, api.Got)
	line(t, c, 5)
	frames(t, c, isReady(30, 5, true, false, leaf('f')), isFree())
	pin(t, c, 5, 31, api.Read)
	line(t, c)
	frames(t, c, isReady(30, 5, true, false, leaf('f')), isLoading(31, 1))
}

// P16.2: a Free frame is not for who comes while somebody stands in the line; nor for who stands behind.
func TestPinBehind(t *testing.T) {
	c := made(t, 2)
	pin(t, c, 0, 1, api.Read)
	claim(t, c, 1, true)
	pin(t, c, 2, 9, api.Queue)
	give(t, c, 1, 1)
	pin(t, c, 3, 8, api.Queue)
	pin(t, c, 4, 9, api.Queue)
	claim(t, c, 5, false)
	frames(t, c, isLoading(1, 1), isFree())
	line(t, c, 2, 3, 4, 5)
	// A block that has a frame is pinned past the line.
	pin(t, c, 6, 1, api.Wait)
	fill(t, c, 1, leaf('1'), 6)
	pin(t, c, 7, 1, api.Got)
	line(t, c, 2, 3, 4, 5)
	pin(t, c, 2, 9, api.Read)
	line(t, c, 3, 4, 5)
	frames(t, c, isReady(1, 3, true, false, leaf('1')), isLoading(9, 1))
}

// P16.3: those who waited for this load, in the order in which they came; the others go on waiting.
func TestFill(t *testing.T) {
	c := made(t, 3)
	pin(t, c, 0, 10, api.Read)
	pin(t, c, 0, 20, api.Read)
	pin(t, c, 6, 20, api.Wait)
	pin(t, c, 7, 10, api.Wait)
	pin(t, c, 2, 10, api.Wait)
	pin(t, c, 1, 20, api.Wait)
	pin(t, c, 5, 10, api.Wait)
	may(t, c, 0, 3, 4)
	fill(t, c, 10, leaf('a'), 7, 2, 5)
	may(t, c, 0, 2, 3, 4, 5, 7)
	frames(t, c, isReady(10, 4, true, false, leaf('a')), isLoading(20, 3), isFree())
	pin(t, c, 1, 10, 0)
	pin(t, c, 7, 20, api.Wait)
	fill(t, c, 20, inner('b'), 6, 1, 7)
	may(t, c, 0, 1, 2, 3, 4, 5, 6, 7)
	frames(t, c, isReady(10, 4, true, false, leaf('a')), isReady(20, 4, true, false, inner('b')), isFree())
	pin(t, c, 3, 30, api.Read)
	fill(t, c, 30, api.Node{})
	frames(t, c, isReady(10, 4, true, false, leaf('a')), isReady(20, 4, true, false, inner('b')), isReady(30, 1, true, false, api.Node{}))
}

// P16.3: to fill a block that is Ready, one that has no frame, one for which somebody stands in the line, or one that is none.
func TestFillNothing(t *testing.T) {
	unchanged(t, func(kind string, c *Cache) {
		loads := map[string][]int{"small": {5}, "mixed": {255}, "freed": {1}}
		for b := -2; b < api.MaxBlocks+2; b++ {
			if slices.Contains(loads[kind], b) {
				continue
			}
			if l, ok := c.Fill(b, leaf('z')); len(l) != 0 || ok {
				t.Error(kind, b, l, ok)
			}
		}
		for _, b := range noBlocks {
			if l, ok := c.Fill(b, leaf('z')); len(l) != 0 || ok {
				t.Error(kind, b, l, ok)
			}
		}
	})
	c := made(t, 1)
	pin(t, c, 0, 3, api.Read)
	fill(t, c, 3, leaf('a'))
	if l, ok := c.Fill(3, leaf('b')); len(l) != 0 || ok {
		t.Error(l, ok)
	}
	frames(t, c, isReady(3, 1, true, false, leaf('a')))
}

// P16.3: the first Free frame is claimed, as often as one is Free; then the task stands in the line.
func TestClaim(t *testing.T) {
	c := full(t, 3)
	evict(t, c, 0, leaf(0), false)
	evict(t, c, 1, leaf(1), false)
	claim(t, c, 4, true)
	frames(t, c, isClaimed(), isFree(), isReady(2, 0, false, false, leaf(2)))
	claim(t, c, 4, true)
	frames(t, c, isClaimed(), isClaimed(), isReady(2, 0, false, false, leaf(2)))
	line(t, c)
	for range 3 {
		claim(t, c, 4, false)
		line(t, c, 4)
	}
	may(t, c, 0, 1, 2, 3, 5, 6, 7)
	evict(t, c, 2, leaf(2), false)
	may(t, c, 0, 1, 2, 3, 4, 5, 6, 7)
	claim(t, c, 4, true)
	frames(t, c, isClaimed(), isClaimed(), isClaimed())
	line(t, c)
	give(t, c, 4, 3)
	frames(t, c, isFree(), isFree(), isFree())
}

// P16.3: whoever waits for a load, or stands in the line for a block, claims nothing, even if a frame is Free.
func TestClaimWaiting(t *testing.T) {
	c := made(t, 2)
	pin(t, c, 0, 1, api.Read)
	pin(t, c, 1, 1, api.Wait)
	was := ask(c)
	claim(t, c, 1, false)
	if !same(ask(c), was) {
		t.Error(ask(c))
	}
	claim(t, c, 0, true)
	pin(t, c, 2, 2, api.Queue)
	pin(t, c, 3, 1, api.Wait)
	for range 2 {
		was = ask(c)
		claim(t, c, 1, false)
		claim(t, c, 2, false)
		claim(t, c, 3, false)
		if !same(ask(c), was) {
			t.Error(ask(c))
		}
		give(t, c, 0, c.Frames()[1].Pins)
	}
	frames(t, c, isLoading(1, 3), isFree())
	pin(t, c, 2, 2, api.Read)
	fill(t, c, 1, leaf('1'), 1, 3)
	claim(t, c, 1, false)
	claim(t, c, 2, false)
	line(t, c, 1, 2)
}

// P16.3: in the line for a claim: first and behind, beside those who stand there for a block.
func TestClaimFromLine(t *testing.T) {
	c := made(t, 1)
	claim(t, c, 0, true)
	claim(t, c, 3, false)
	pin(t, c, 2, 9, api.Queue)
	claim(t, c, 1, false)
	claim(t, c, 0, false)
	line(t, c, 3, 2, 1, 0)
	may(t, c, 4, 5, 6, 7)
	give(t, c, 0, 1)
	may(t, c, 3, 4, 5, 6, 7)
	claim(t, c, 1, false)
	claim(t, c, 0, false)
	claim(t, c, 4, false)
	pin(t, c, 2, 9, api.Queue)
	frames(t, c, isFree())
	claim(t, c, 3, true)
	line(t, c, 2, 1, 0, 4)
	give(t, c, 3, 1)
	claim(t, c, 1, false)
	pin(t, c, 2, 9, api.Read)
	line(t, c, 1, 0, 4)
	fill(t, c, 9, leaf('9'))
	unpin(t, c, 9, true)
	evict(t, c, 9, leaf('9'), false)
	claim(t, c, 0, false)
	claim(t, c, 1, true)
	line(t, c, 0, 4)
}

// P16.3: all that a task has claimed is given back, and what others have is not.
func TestGive(t *testing.T) {
	c := made(t, 5)
	for _, task := range []int{3, 0, 3, 7, 3} {
		claim(t, c, task, true)
	}
	give(t, c, 1, 0)
	name(t, c, 3, 40, leaf('n'), true)
	give(t, c, 3, 2)
	frames(t, c, isReady(40, 0, true, true, leaf('n')), isClaimed(), isFree(), isClaimed(), isFree())
	give(t, c, 3, 0)
	give(t, c, 7, 1)
	give(t, c, 0, 1)
	frames(t, c, isReady(40, 0, true, true, leaf('n')), isFree(), isFree(), isFree(), isFree())
	for _, task := range []int{0, 3, 7} {
		give(t, c, task, 0)
		name(t, c, task, 41, leaf('m'), false)
	}
}

// P16.3: who gives back what it has claimed stays where it stands in the line, or waits on.
func TestGiveWaiting(t *testing.T) {
	c := made(t, 3)
	claim(t, c, 0, true)
	claim(t, c, 1, true)
	pin(t, c, 2, 5, api.Read)
	pin(t, c, 1, 5, api.Wait)
	claim(t, c, 0, false)
	line(t, c, 0)
	give(t, c, 0, 1)
	give(t, c, 1, 1)
	line(t, c, 0)
	may(t, c, 0, 2, 3, 4, 5, 6, 7)
	pin(t, c, 3, 6, api.Queue)
	claim(t, c, 0, true)
	fill(t, c, 5, leaf('5'), 1)
}

// P16.3: the first frame in order that the task has claimed is named, whenever that was; then the next one.
func TestName(t *testing.T) {
	c := full(t, 4)
	evict(t, c, 0, leaf(0), false)
	claim(t, c, 1, true) // the frame 0
	evict(t, c, 1, leaf(1), false)
	evict(t, c, 2, leaf(2), false)
	claim(t, c, 2, true) // the frame 1
	claim(t, c, 1, true) // the frame 2
	name(t, c, 1, 255, inner('a'), true)
	frames(t, c, isReady(255, 0, true, true, inner('a')), isClaimed(), isClaimed(), isReady(3, 0, false, false, leaf(3)))
	name(t, c, 1, 0, leaf('b'), true)
	frames(t, c, isReady(255, 0, true, true, inner('a')), isClaimed(), isReady(0, 0, true, true, leaf('b')), isReady(3, 0, false, false, leaf(3)))
	name(t, c, 1, 7, leaf('c'), false)
	pin(t, c, 3, 255, api.Got)
	unpin(t, c, 255, true)
	give(t, c, 2, 1)
	give(t, c, 1, 0)
	// The frame 1 is claimed ahead of the frame 0, and stands behind it.
	d := full(t, 2)
	pin(t, d, 1, 0, api.Got)
	evict(t, d, 1, leaf(1), false)
	claim(t, d, 4, true)
	unpin(t, d, 0, true)
	evict(t, d, 0, leaf(0), false)
	claim(t, d, 4, true)
	name(t, d, 4, 9, leaf('d'), true)
	frames(t, d, isReady(9, 0, true, true, leaf('d')), isClaimed())
}

// P16.3: a block that has a frame, Ready or Loading, has no other; and nothing is named without a claim, even by one that stands in the line for one.
func TestNameWrong(t *testing.T) {
	c := made(t, 3)
	pin(t, c, 0, 5, api.Read)
	pin(t, c, 0, 6, api.Read)
	fill(t, c, 6, leaf('6'))
	claim(t, c, 1, true)
	claim(t, c, 2, false)
	was := ask(c)
	for _, b := range []int{5, 6} {
		name(t, c, 1, b, leaf('x'), false)
	}
	for task := range api.MaxTasks {
		if task != 1 {
			name(t, c, task, 7, leaf('x'), false)
		}
	}
	if !same(ask(c), was) {
		t.Error(ask(c))
	}
	name(t, c, 1, 7, leaf('7'), true)
	name(t, c, 1, 8, leaf('8'), false)
	frames(t, c, isLoading(5, 1), isReady(6, 1, true, false, leaf('6')), isReady(7, 0, true, true, leaf('7')))
}

// P16.3: a block that was evicted can be named, and one for which tasks stand in the line: they find it.
func TestNameWanted(t *testing.T) {
	c := full(t, 1)
	evict(t, c, 0, leaf(0), false)
	claim(t, c, 5, true)
	pin(t, c, 1, 3, api.Queue)
	pin(t, c, 2, 0, api.Queue)
	may(t, c, 0, 3, 4, 5, 6, 7)
	name(t, c, 5, 0, leaf('n'), true)
	may(t, c, 0, 2, 3, 4, 5, 6, 7)
	line(t, c, 1, 2)
	pin(t, c, 2, 0, api.Got)
	line(t, c, 1)
	frames(t, c, isReady(0, 1, true, true, leaf('n')))
}

// P16.4: pins are taken one by one, and none that is not there; none of a frame that is Loading.
func TestUnpin(t *testing.T) {
	c := made(t, 2)
	pin(t, c, 0, 5, api.Read)
	pin(t, c, 1, 5, api.Wait)
	unpin(t, c, 5, false)
	frames(t, c, isLoading(5, 2), isFree())
	claim(t, c, 3, true)
	fill(t, c, 5, leaf('5'), 1)
	pin(t, c, 2, 5, api.Got)
	for pins := 2; pins >= 0; pins-- {
		unpin(t, c, 5, true)
		frames(t, c, isReady(5, pins, true, false, leaf('5')), isClaimed())
	}
	for range 2 {
		unpin(t, c, 5, false)
		frames(t, c, isReady(5, 0, true, false, leaf('5')), isClaimed())
	}
	unpin(t, c, 6, false)
	name(t, c, 3, 6, leaf('6'), true)
	unpin(t, c, 6, false)
	pin(t, c, 0, 5, api.Got)
	unpin(t, c, 5, true)
	evict(t, c, 5, leaf('5'), false)
	unpin(t, c, 5, false)
	frames(t, c, isFree(), isReady(6, 0, false, true, leaf('6')))
}

// P16.4: the node of a block is told and replaced while its frame is Ready, pinned or not; and the frame is Dirty then.
func TestNodeAndSet(t *testing.T) {
	c := made(t, 2)
	absent := func(b int) {
		t.Helper()
		was := ask(c)
		if n, ok := c.Node(b); ok || !node.Same(n, api.Node{}) {
			t.Error(b, n, ok)
		}
		set(t, c, b, leaf('x'), false)
		if !same(ask(c), was) {
			t.Error(b, ask(c))
		}
	}
	holds := func(b int, want api.Node) {
		t.Helper()
		if n, ok := c.Node(b); !ok || !node.Same(n, want) {
			t.Error(b, n, ok)
		}
	}
	absent(5)
	pin(t, c, 0, 5, api.Read)
	absent(5)
	claim(t, c, 1, true)
	for _, b := range []int{0, 6, 255} {
		absent(b)
	}
	fill(t, c, 5, leaf('5'))
	holds(5, leaf('5'))
	frames(t, c, isReady(5, 1, true, false, leaf('5')), isClaimed())
	for _, n := range nodes() {
		set(t, c, 5, n, true)
		holds(5, n)
		frames(t, c, isReady(5, 1, true, true, n), isClaimed())
	}
	unpin(t, c, 5, true)
	set(t, c, 5, inner('i'), true)
	holds(5, inner('i'))
	frames(t, c, isReady(5, 0, true, true, inner('i')), isClaimed())
	name(t, c, 1, 6, leaf('6'), true)
	holds(6, leaf('6'))
	holds(5, inner('i'))
	evict(t, c, 5, inner('i'), true)
	absent(5)
	holds(6, leaf('6'))
	set(t, c, 6, api.Node{}, true)
	holds(6, api.Node{})
	frames(t, c, isFree(), isReady(6, 0, false, true, api.Node{}))
}

// P16.4: with frames that are all pinned, Loading, Claimed or Free, none goes, and nothing is changed: neither Refs nor the hand.
func TestEvictNothing(t *testing.T) {
	c := full(t, 5)
	evict(t, c, 0, leaf(0), false)
	evict(t, c, 1, leaf(1), false)
	pin(t, c, 0, 2, api.Got)
	pin(t, c, 0, 3, api.Got)
	pin(t, c, 0, 4, api.Got)
	pin(t, c, 1, 9, api.Read)
	want := []api.Frame{isLoading(9, 1), isFree(), isReady(2, 1, true, false, leaf(2)), isReady(3, 1, true, false, leaf(3)), isReady(4, 1, true, false, leaf(4))}
	for range 3 {
		stays(t, c)
		frames(t, c, want...)
	}
	claim(t, c, 1, true)
	want[1] = isClaimed()
	for range 3 {
		stays(t, c)
		frames(t, c, want...)
	}
	// The hand is where it was, behind the frame that went last.
	fill(t, c, 9, leaf(9))
	for _, b := range []int{9, 2, 3, 4} {
		unpin(t, c, b, true)
	}
	evict(t, c, 2, leaf(2), false)
	// A frame alone that is Free, Loading, pinned or Claimed.
	d := made(t, 1)
	stays(t, d)
	pin(t, d, 0, 0, api.Read)
	stays(t, d)
	fill(t, d, 0, leaf(0))
	stays(t, d)
	unpin(t, d, 0, true)
	evict(t, d, 0, leaf(0), false)
	claim(t, d, 0, true)
	stays(t, d)
	name(t, d, 0, 0, leaf('n'), true)
	evict(t, d, 0, leaf('n'), true)
	stays(t, d)
}

// P16.4: the frames that are passed lose their Refs if they could have gone, and keep them if they could not; those that are not passed keep them.
func TestEvictRefs(t *testing.T) {
	c := full(t, 5)
	pin(t, c, 0, 1, api.Got)
	evict(t, c, 0, leaf(0), false)
	frames(t, c, isFree(), isReady(1, 1, true, false, leaf(1)), isReady(2, 0, false, false, leaf(2)), isReady(3, 0, false, false, leaf(3)), isReady(4, 0, false, false, leaf(4)))
	pin(t, c, 0, 2, api.Got)
	unpin(t, c, 2, true)
	pin(t, c, 0, 4, api.Got)
	unpin(t, c, 4, true)
	// The hand is at 1: that is pinned, 2 loses its Ref, 3 goes, 4 is not passed.
	evict(t, c, 3, leaf(3), false)
	frames(t, c, isFree(), isReady(1, 1, true, false, leaf(1)), isReady(2, 0, false, false, leaf(2)), isFree(), isReady(4, 0, true, false, leaf(4)))
	pin(t, c, 1, 9, api.Read)
	claim(t, c, 1, true)
	// The hand is at 4, which loses its Ref; the frame of 9 keeps it, as it can't go.
	evict(t, c, 2, leaf(2), false)
	frames(t, c, isLoading(9, 1), isReady(1, 1, true, false, leaf(1)), isFree(), isClaimed(), isReady(4, 0, false, false, leaf(4)))
	set(t, c, 1, leaf('s'), true)
	unpin(t, c, 1, true)
	// The hand is at 3: 4 goes, and 1 is not passed.
	evict(t, c, 4, leaf(4), false)
	frames(t, c, isLoading(9, 1), isReady(1, 0, true, true, leaf('s')), isFree(), isClaimed(), isFree())
	evict(t, c, 1, leaf('s'), true)
	frames(t, c, isLoading(9, 1), isFree(), isFree(), isClaimed(), isFree())
}

// P16.4: the hand is behind the frame that went, and goes around.
func TestEvictHand(t *testing.T) {
	c := full(t, 3)
	evict(t, c, 0, leaf(0), false)
	pin(t, c, 0, 10, api.Read)
	fill(t, c, 10, leaf(10))
	unpin(t, c, 10, true)
	evict(t, c, 1, leaf(1), false)
	pin(t, c, 0, 11, api.Read)
	fill(t, c, 11, leaf(11))
	unpin(t, c, 11, true)
	evict(t, c, 2, leaf(2), false)
	pin(t, c, 0, 12, api.Read)
	fill(t, c, 12, leaf(12))
	unpin(t, c, 12, true)
	// All have their Refs, and the hand is at the first.
	evict(t, c, 10, leaf(10), false)
	frames(t, c, isFree(), isReady(11, 0, false, false, leaf(11)), isReady(12, 0, false, false, leaf(12)))
	pin(t, c, 0, 11, api.Got)
	evict(t, c, 12, leaf(12), false)
	unpin(t, c, 11, true)
	evict(t, c, 11, leaf(11), false)
	if c.Free() != 3 {
		t.Error(c.Free())
	}
}

// P16.4: a block that went has no frame any more: it is read again, and has another frame then.
func TestEvictAndReadAgain(t *testing.T) {
	c := full(t, 2)
	evict(t, c, 0, leaf(0), false)
	pin(t, c, 1, 5, api.Read)
	fill(t, c, 5, leaf(5))
	evict(t, c, 1, leaf(1), false)
	pin(t, c, 2, 0, api.Read)
	frames(t, c, isReady(5, 1, true, false, leaf(5)), isLoading(0, 1))
	pin(t, c, 2, 1, api.Queue)
	fill(t, c, 0, leaf('0'))
	frames(t, c, isReady(5, 1, true, false, leaf(5)), isReady(0, 1, true, false, leaf('0')))
}

// P16.5: Free counts the Free frames, whatever the others are.
func TestFree(t *testing.T) {
	c := made(t, 4)
	free := func(want int) {
		t.Helper()
		if got := c.Free(); got != want {
			t.Error(got, want)
		}
	}
	free(4)
	claim(t, c, 0, true)
	free(3)
	pin(t, c, 0, 1, api.Read)
	free(2)
	pin(t, c, 0, 2, api.Read)
	free(1)
	fill(t, c, 2, leaf('2'))
	unpin(t, c, 2, true)
	free(1)
	claim(t, c, 0, true)
	free(0)
	pin(t, c, 1, 9, api.Queue)
	free(0)
	name(t, c, 0, 7, leaf('7'), true)
	free(0)
	give(t, c, 0, 1)
	free(1)
	evict(t, c, 7, leaf('7'), true)
	free(2)
	evict(t, c, 2, leaf('2'), false)
	free(3)
	pin(t, c, 1, 9, api.Read)
	free(2)
}

// P16.5: May of one that waits for a load, that is first in the line with and without a Free frame, that stands behind, for a block with and without a frame.
func TestMay(t *testing.T) {
	c := made(t, 2)
	may(t, c, 0, 1, 2, 3, 4, 5, 6, 7)
	pin(t, c, 0, 10, api.Read)
	claim(t, c, 0, true)
	pin(t, c, 1, 10, api.Wait)
	may(t, c, 0, 2, 3, 4, 5, 6, 7)
	pin(t, c, 2, 20, api.Queue)
	pin(t, c, 3, 30, api.Queue)
	pin(t, c, 4, 20, api.Queue)
	claim(t, c, 5, false)
	claim(t, c, 6, false)
	may(t, c, 0, 7)
	give(t, c, 0, 1)
	may(t, c, 0, 2, 7)
	claim(t, c, 7, false)
	may(t, c, 0, 2)
	pin(t, c, 2, 20, api.Read)
	may(t, c, 0, 2, 4)
	fill(t, c, 20, leaf('2'))
	may(t, c, 0, 2, 4)
	unpin(t, c, 20, true)
	evict(t, c, 20, leaf('2'), false)
	may(t, c, 0, 2, 3)
	pin(t, c, 3, 30, api.Read)
	may(t, c, 0, 2, 3)
	line(t, c, 4, 5, 6, 7)
	fill(t, c, 30, leaf('3'))
	unpin(t, c, 30, true)
	evict(t, c, 30, leaf('3'), false)
	pin(t, c, 4, 20, api.Read)
	fill(t, c, 20, leaf('2'))
	unpin(t, c, 20, true)
	may(t, c, 0, 2, 3, 4)
	evict(t, c, 20, leaf('2'), false)
	may(t, c, 0, 2, 3, 4, 5)
	claim(t, c, 5, true)
	may(t, c, 0, 2, 3, 4, 5)
	fill(t, c, 10, leaf('1'), 1)
	may(t, c, 0, 1, 2, 3, 4, 5)
}

// P16.5: what is told of frames in each state.
func TestFrames(t *testing.T) {
	c := made(t, 6)
	pin(t, c, 0, 200, api.Read)
	pin(t, c, 0, 100, api.Read)
	pin(t, c, 1, 100, api.Wait)
	fill(t, c, 100, inner('k'), 1)
	claim(t, c, 2, true)
	claim(t, c, 3, true)
	claim(t, c, 2, true)
	name(t, c, 2, 150, leaf('n'), true)
	unpin(t, c, 100, true)
	frames(t, c, isLoading(200, 1), isReady(100, 1, true, false, inner('k')), isReady(150, 0, true, true, leaf('n')), isClaimed(), isClaimed(), isFree())
	for i, f := range c.Frames() {
		if f.Writer != -1 || len(f.Readers) != 0 || len(f.Queue) != 0 {
			t.Error(i, f)
		}
	}
}

// P16.2 to P16.5: a number that is no task changes nothing, in whatever cache.
func TestNoTask(t *testing.T) {
	unchanged(t, func(kind string, c *Cache) {
		for _, task := range noTasks {
			for _, b := range []int{0, 5, 9, 255, -1, 256} {
				if got := c.Pin(task, b); got != 0 || c.Name(task, b, leaf('x')) {
					t.Error(kind, task, b, got)
				}
			}
			if n := c.Give(task); n != 0 || c.Claim(task) || c.May(task) {
				t.Error(kind, task, n)
			}
		}
	})
}

// P16.2 to P16.4: a number that is no block changes nothing, in whatever cache and by whatever task.
func TestNoBlock(t *testing.T) {
	unchanged(t, func(kind string, c *Cache) {
		for _, b := range noBlocks {
			for task := range api.MaxTasks {
				if got := c.Pin(task, b); got != 0 || c.Name(task, b, leaf('x')) {
					t.Error(kind, task, b, got)
				}
			}
			if l, ok := c.Fill(b, leaf('x')); len(l) != 0 || ok || c.Unpin(b) || c.Set(b, leaf('x')) {
				t.Error(kind, b, l, ok)
			}
			if n, ok := c.Node(b); ok || !node.Same(n, api.Node{}) {
				t.Error(kind, b, n, ok)
			}
		}
	})
}

// P16.2 to P16.4: the first and the last tasks and blocks are as any others.
func TestEnds(t *testing.T) {
	for _, task := range []int{0, api.MaxTasks - 1} {
		for _, b := range []int{0, api.MaxBlocks - 1} {
			c := made(t, 1)
			pin(t, c, task, b, api.Read)
			pin(t, c, task, b, api.Wait)
			fill(t, c, b, leaf('e'), task)
			pin(t, c, task, b, api.Got)
			set(t, c, b, leaf('f'), true)
			for range 3 {
				unpin(t, c, b, true)
			}
			evict(t, c, b, leaf('f'), true)
			claim(t, c, task, true)
			pin(t, c, task, b, api.Queue)
			name(t, c, task, b, leaf('g'), true)
			pin(t, c, task, b, api.Got)
			claim(t, c, task, false)
			line(t, c, task)
			give(t, c, task, 0)
		}
	}
}

// P16.6: tasks that come into the line one after the other are served so, whoever asks first when a frame is Free.
func TestServedInOrder(t *testing.T) {
	for round := range 20 {
		c := made(t, 1)
		claim(t, c, 0, true)
		var order []int
		for i := range 7 {
			task := 1 + (i*(round%6+1)+round)%7
			order = append(order, task)
			if (i+round)%3 == 0 {
				claim(t, c, task, false)
			} else {
				pin(t, c, task, task, api.Queue)
			}
		}
		line(t, c, order...)
		give(t, c, 0, 1)
		var served []int
		for len(c.Line()) > 0 {
			before := len(served)
			for task := 7; task >= 1; task-- {
				if !slices.Contains(c.Line(), task) {
					continue
				}
				switch {
				case c.Pin(task, task) == api.Read:
					served = append(served, task)
					fill(t, c, task, leaf(byte(task)))
					unpin(t, c, task, true)
					evict(t, c, task, leaf(byte(task)), false)
				case c.Claim(task):
					served = append(served, task)
					give(t, c, task, 1)
				}
			}
			if len(served) == before {
				t.Fatal("nobody is served", c.Line())
			}
		}
		if !slices.Equal(served, order) {
			t.Error(served, order)
		}
	}
}

// P16.6: of all frames but one pinned, that one is evicted.
func TestTheOneUnpinned(t *testing.T) {
	for one := range 6 {
		c := full(t, 6)
		for b := range 6 {
			if b != one {
				pin(t, c, b, b, api.Got)
			}
		}
		evict(t, c, one, leaf(byte(one)), false)
		stays(t, c)
	}
}

// spoil overwrites the lists of a node, and the memory beyond their length.
func spoil(n api.Node) {
	overwrite(n.Entries, api.Entry{Key: api.Key{N: 8}})
	overwrite(n.Kids, 77)
	overwrite(n.Pivots, api.Key{N: 7})
	overwrite(n.Msgs, api.Msg{Kind: api.Del})
}

func overwrite[T any](l []T, with T) {
	l = l[:cap(l)]
	for i := range l {
		l[i] = with
	}
}

// R3: the nodes that are handed in are not changed, nor the memory beyond their lists.
func TestArguments(t *testing.T) {
	whole := []int{1, 2, 3, 4, 5}
	n := inner('h')
	n.Kids = whole[:2]
	c := made(t, 2)
	pin(t, c, 0, 0, api.Read)
	fill(t, c, 0, n)
	set(t, c, 0, n, true)
	claim(t, c, 0, true)
	name(t, c, 0, 1, n, true)
	set(t, c, 1, leaf('l'), true)
	unpin(t, c, 0, true)
	c.Evict()
	c.Evict()
	want := inner('h')
	want.Kids = []int{1, 2}
	if !node.Same(n, want) || !slices.Equal(whole, []int{1, 2, 3, 4, 5}) {
		t.Error(n, whole)
	}
}

// R4: the nodes that are handed in may be changed afterwards: what the cache has is not.
func TestKeepsItsOwn(t *testing.T) {
	for _, of := range []func(b byte) api.Node{leaf, inner} {
		c := made(t, 3)
		a, b, d := of('a'), of('b'), of('d')
		pin(t, c, 0, 0, api.Read)
		fill(t, c, 0, a)
		claim(t, c, 0, true)
		name(t, c, 0, 1, b, true)
		pin(t, c, 0, 2, api.Read)
		fill(t, c, 2, api.Node{})
		set(t, c, 2, d, true)
		spoil(a)
		spoil(b)
		spoil(d)
		frames(t, c, isReady(0, 1, true, false, of('a')), isReady(1, 0, true, true, of('b')), isReady(2, 1, true, true, of('d')))
	}
}

// R3: what was returned may be changed, beyond its length too, without changing the cache.
func TestSharesNothing(t *testing.T) {
	c := made(t, 3)
	pin(t, c, 0, 0, api.Read)
	pin(t, c, 5, 0, api.Wait)
	pin(t, c, 0, 1, api.Read)
	pin(t, c, 4, 1, api.Wait)
	pin(t, c, 3, 0, api.Wait)
	claim(t, c, 0, true)
	pin(t, c, 1, 7, api.Queue)
	claim(t, c, 2, false)
	waited, _ := c.Fill(0, inner('a'))
	overwrite(waited, 66)
	n, _ := c.Node(0)
	spoil(n)
	told := c.Frames()
	for _, f := range told {
		spoil(f.Node)
	}
	overwrite(told, api.Frame{State: 9})
	overwrite(c.Line(), 66)
	frames(t, c, isReady(0, 3, true, false, inner('a')), isLoading(1, 2), isClaimed())
	line(t, c, 1, 2)
	may(t, c, 0, 3, 5, 6, 7)
	fill(t, c, 1, leaf('b'), 4)
	for range 3 {
		unpin(t, c, 0, true)
	}
	_, n, _, _ = c.Evict()
	spoil(n)
	pin(t, c, 1, 7, api.Read)
	fill(t, c, 7, inner('c'))
	frames(t, c, isReady(7, 1, true, false, inner('c')), isReady(1, 2, true, false, leaf('b')), isClaimed())
}

// R3: what was returned is not changed by a later call.
func TestStays(t *testing.T) {
	c := made(t, 2)
	pin(t, c, 0, 0, api.Read)
	claim(t, c, 0, true)
	pin(t, c, 6, 0, api.Wait)
	pin(t, c, 3, 0, api.Wait)
	pin(t, c, 1, 7, api.Queue)
	pin(t, c, 2, 8, api.Queue)
	claim(t, c, 4, false)
	before, first := c.Frames(), c.Line()
	waited, _ := c.Fill(0, inner('a'))
	n, _ := c.Node(0)
	between := c.Frames()
	set(t, c, 0, inner('b'), true)
	for range 3 {
		unpin(t, c, 0, true)
	}
	b, gone, _, _ := c.Evict()
	pin(t, c, 1, 7, api.Read)
	second := c.Line()
	pin(t, c, 5, 7, api.Wait)
	fill(t, c, 7, leaf('c'), 5)
	give(t, c, 0, 1)
	pin(t, c, 2, 8, api.Read)
	claim(t, c, 6, false)
	if !slices.Equal(first, []int{1, 2, 4}) || !slices.Equal(second, []int{2, 4}) || !slices.Equal(waited, []int{6, 3}) || !node.Same(n, inner('a')) || b != 0 || !node.Same(gone, inner('b')) {
		t.Error(first, second, waited, n, b, gone)
	}
	loading, ready, held := isLoading(0, 3), isReady(0, 3, true, false, inner('a')), isClaimed()
	loading.Writer, ready.Writer, held.Writer = -1, -1, -1
	if !slices.EqualFunc(before, []api.Frame{loading, held}, sameFrame) || !slices.EqualFunc(between, []api.Frame{ready, held}, sameFrame) {
		t.Error(before, between)
	}
}

// R4: what is asked changes nothing.
func TestAsked(t *testing.T) {
	unchanged(t, func(kind string, c *Cache) {
		was := ask(c)
		for b := range api.MaxBlocks {
			c.Node(b)
		}
		if !same(ask(c), was) {
			t.Error(kind)
		}
	})
}

// R4: two caches have nothing to do with each other.
func TestApart(t *testing.T) {
	a, b := made(t, 1), made(t, 1)
	pin(t, b, 0, 5, api.Read)
	pin(t, b, 1, 5, api.Wait)
	pin(t, b, 2, 6, api.Queue)
	was := ask(b)
	claim(t, a, 1, true)
	claim(t, a, 2, false)
	pin(t, a, 0, 5, api.Queue)
	name(t, a, 1, 6, leaf('a'), true)
	evict(t, a, 6, leaf('a'), true)
	claim(t, a, 2, true)
	give(t, a, 2, 1)
	pin(t, a, 0, 5, api.Read)
	fill(t, a, 5, leaf('a'))
	set(t, a, 5, inner('a'), true)
	if !same(ask(b), was) {
		t.Error(ask(b))
	}
	fill(t, b, 5, leaf('b'), 1)
	frames(t, a, isReady(5, 1, true, true, inner('a')))
	frames(t, b, isReady(5, 2, true, false, leaf('b')))
	line(t, a)
	line(t, b, 2)
}

// change is made to a cache and to what it is to be; it tells whether both had the same answers.
type change func(c *Cache, l *life) bool

// changesOf are what is done to the frames of these blocks, whoever does it: each kind in a list of its own, Fill and Unpin first.
func changesOf(blocks []int) [][]change {
	var fills, unpins, sets, looks []change
	for _, block := range blocks {
		n, other := leaf(byte(block)), inner(byte(block))
		fills = append(fills, func(c *Cache, l *life) bool {
			waited, ok := c.Fill(block, n)
			waited2, ok2 := l.fill(block, n)
			return slices.Equal(waited, waited2) && ok == ok2
		})
		unpins = append(unpins, func(c *Cache, l *life) bool { return c.Unpin(block) == l.unpin(block) })
		sets = append(sets, func(c *Cache, l *life) bool { return c.Set(block, other) == l.set(block, other) })
		looks = append(looks, func(c *Cache, l *life) bool {
			n, ok := c.Node(block)
			f := l.ready(block)
			return ok == (f != nil) && (ok && node.Same(n, f.Node) || !ok && node.Same(n, api.Node{}))
		})
	}
	return [][]change{fills, unpins, sets, looks}
}

// changesBy are what these tasks do, with these blocks: each kind in a list of its own.
func changesBy(tasks, blocks []int) [][]change {
	var pins, names, claims, gives []change
	for _, task := range tasks {
		claims = append(claims, func(c *Cache, l *life) bool { return c.Claim(task) == l.claim(task) })
		gives = append(gives, func(c *Cache, l *life) bool { return c.Give(task) == l.give(task) })
		for _, block := range blocks {
			n := leaf(byte(16*task + block))
			pins = append(pins, func(c *Cache, l *life) bool { return c.Pin(task, block) == l.pin(task, block) })
			names = append(names, func(c *Cache, l *life) bool { return c.Name(task, block, n) == l.name(task, block, n) })
		}
	}
	return [][]change{pins, names, claims, gives}
}

// changes are all that can be done with a cache by these tasks, with these blocks.
func changes(tasks, blocks []int) [][]change {
	evict := func(c *Cache, l *life) bool {
		b, n, dirty, ok := c.Evict()
		b2, n2, dirty2, ok2 := l.evict()
		return b == b2 && node.Same(n, n2) && dirty == dirty2 && ok == ok2
	}
	return append(append(changesOf(blocks), changesBy(tasks, blocks)...), []change{evict})
}

// P16.1 to P16.6: all sequences of four changes by two tasks with two blocks in a cache of one frame, and of five by two with one block in a cache of two.
func TestSequences(t *testing.T) {
	var from func(size int, steps []change, list []int, depth int) bool
	from = func(size int, steps []change, list []int, depth int) bool {
		c, l := made(t, size), begin(size)
		for _, i := range list {
			if !steps[i](c, l) {
				t.Error("answer", size, list)
				return false
			}
		}
		if !agrees(c, l) || !proper(c) {
			t.Error("state", size, list)
			return false
		}
		for i := range steps {
			if depth > 0 && !from(size, steps, append(slices.Clone(list), i), depth-1) {
				return false
			}
		}
		return true
	}
	from(1, slices.Concat(changes([]int{0, 7}, []int{0, 255})...), nil, 4)
	from(2, slices.Concat(changes([]int{3, 4}, []int{9})...), nil, 5)
}

// series is a row of numbers that look like chance, and are the same in each run.
type series uint64

func (s *series) below(n int) int {
	*s = *s*6364136223846793005 + 1442695040888963407
	return int(uint64(*s)>>33) % n
}

// overtaken tells whether a task got a Free frame, by Pin or by Claim, while another stood ahead of it in the line, or it was not in the line and another was.
func overtaken(was, now answers) bool {
	for i, f := range now.frames {
		taken := was.frames[i].State == api.Free && f.State != api.Free
		if taken && len(was.line) > 0 && slices.Contains(now.line, was.line[0]) {
			return true
		}
	}
	return false
}

// lost tells whether a frame with a pin has gone that nobody gave back or named.
func lost(was, now answers) bool {
	for i, f := range was.frames {
		if (f.State == api.Ready || f.State == api.Loading) && f.Pins > 0 && now.frames[i].Block != f.Block {
			return true
		}
	}
	return false
}

// live has a cache of some frames change for a while, as its life does, by these tasks with these blocks.
func live(t *testing.T, s *series, size int, tasks, blocks []int) {
	t.Helper()
	all := changes(tasks, blocks)
	// Without more loads that end, and more pins that are taken away, nobody would go on.
	all = append(all, all[0], all[1], all[1])
	c, l := made(t, size), begin(size)
	for i := range 400 {
		was := ask(c)
		kind := s.below(len(all))
		if step := s.below(len(all[kind])); !all[kind][step](c, l) {
			t.Fatal("answer", size, tasks, blocks, i, kind, step)
		}
		now := ask(c)
		if !agrees(c, l) || !proper(c) {
			t.Fatal("state", size, tasks, blocks, i, now)
		}
		if overtaken(was, now) || lost(was, now) {
			t.Fatal("overtaken or lost", size, tasks, blocks, i, was, now)
		}
	}
}

// P16.1 to P16.6: lives of caches with few and many frames, tasks and blocks, and with numbers of none among them.
func TestLives(t *testing.T) {
	s := series(16)
	tasks := []int{0, 1, 2, 3, 4, 5, 6, 7, -1, 8, math.MinInt, 1 << 32}
	blocks := []int{0, 255, 1, 254, 2, 128, 3, 127, 4, 64, 5, 63, -1, 256, 1 << 32, math.MaxInt}
	for size := 1; size <= 8; size++ {
		for many := 1; many <= len(tasks); many++ {
			for _, b := range []int{1, 2, 3, 5, 8, 12, 16} {
				live(t, &s, size, tasks[:many], blocks[:b])
			}
		}
	}
	live(t, &s, api.MaxFrames, tasks, blocks)
}
