package hall

import (
	"math"
	"slices"
	"testing"

	"orangery/api"
	"orangery/cache"
	"orangery/latch"
	"orangery/node"
)

// life is what a hall is to be: a cache, the latches of its frames, and nodes in blocks, of which the first ones are allocated.
type life struct {
	cache   *cache.Cache
	latches []*latch.Latch
	nodes   []api.Node
	blocks  int
	reads   []read
	owners  []int // of the frames that are claimed, each as often as it has claimed one
}

// read is a load that a task is to do.
type read struct {
	task, block int
}

func begin(blocks, frames int) *life {
	c, _ := cache.New(frames)
	l := &life{cache: c, nodes: []api.Node{empty}, blocks: blocks}
	for range frames {
		l.latches = append(l.latches, latch.New())
	}
	return l
}

// bad tells whether a number is not one of the n from 0 on.
func bad(x, n int) bool { return x < 0 || x >= n }

// latch returns the latch of a block whose node is there; nil if it is not, or there is no such task.
func (l *life) latch(task, block int) *latch.Latch {
	for i, f := range l.cache.Frames() {
		if f.State == api.Ready && f.Block == block && !bad(task, api.MaxTasks) {
			return l.latches[i]
		}
	}
	return nil
}

func (l *life) pin(task, block int) int {
	if bad(block, len(l.nodes)) {
		return 0
	}
	told := l.cache.Pin(task, block)
	if told == api.Read {
		l.reads = append(l.reads, read{task, block})
	}
	return told
}

func (l *life) load(task, block int) ([]int, bool) {
	at := slices.Index(l.reads, read{task, block})
	if at < 0 {
		return nil, false
	}
	l.reads = slices.Delete(l.reads, at, at+1)
	return l.cache.Fill(block, l.nodes[block])
}

func (l *life) take(task, block int, write bool) bool {
	door := l.latch(task, block)
	return door != nil && door.Take(task, write)
}

func (l *life) leave(task, block int) []int {
	door := l.latch(task, block)
	if door == nil || !slices.Contains(append(door.Readers(), door.Writer()), task) {
		return nil
	}
	l.cache.Unpin(block)
	return door.Drop(task)
}

func (l *life) claim(task int) bool {
	ok := l.cache.Claim(task)
	if ok {
		l.owners = append(l.owners, task)
	}
	return ok
}

func (l *life) alloc(task, n int) ([]int, bool) {
	claims := 0
	for _, owner := range l.owners {
		if owner == task {
			claims++
		}
	}
	if (n == 1 || n == 2) && claims >= n && len(l.nodes)+n <= l.blocks {
		out := []int{len(l.nodes), len(l.nodes) + 1}[:n]
		l.nodes = append(l.nodes, []api.Node{empty, empty}[:n]...)
		return out, true
	}
	l.owners = slices.DeleteFunc(l.owners, func(owner int) bool { return owner == task })
	l.cache.Give(task)
	return nil, false
}

func (l *life) born(task, block int, n api.Node) bool {
	if bad(block, len(l.nodes)) || !node.Fits(n) || !l.cache.Name(task, block, n) {
		return false
	}
	at := slices.Index(l.owners, task)
	l.owners = slices.Delete(l.owners, at, at+1)
	return true
}

func (l *life) set(task, block int, n api.Node) bool {
	door := l.latch(task, block)
	return door != nil && door.Writer() == task && node.Fits(n) && l.cache.Set(block, n)
}

func (l *life) look(block int) (api.Node, bool) {
	if bad(block, len(l.nodes)) {
		return api.Node{}, false
	}
	if n, ok := l.cache.Node(block); ok {
		return n, true
	}
	return l.nodes[block], true
}

func (l *life) evict() (int, bool) {
	block, n, dirty, ok := l.cache.Evict()
	if ok && dirty {
		l.nodes[block] = n
	}
	return block, ok
}

func (l *life) frames() []api.Frame {
	out := l.cache.Frames()
	for i, door := range l.latches {
		out[i].Readers, out[i].Writer, out[i].Queue = door.Readers(), door.Writer(), door.Queue()
	}
	return out
}

// ask returns what a hall is to tell.
func (l *life) ask() answers {
	a := answers{frames: l.frames(), line: l.cache.Line(), free: l.cache.Free(), left: l.blocks - len(l.nodes)}
	a.idle = len(a.line) == 0
	queued := map[int]int{}
	for _, f := range a.frames {
		busy := f.State == api.Loading || f.State == api.Claimed || f.Pins > 0
		if busy || len(f.Readers) > 0 || f.Writer >= 0 || len(f.Queue) > 0 {
			a.idle = false
		}
		for _, w := range f.Queue {
			queued[w.Task]++
		}
	}
	for b := range l.nodes {
		look, _ := l.look(b)
		n, _ := l.cache.Node(b)
		a.used = append(a.used, b)
		a.nodes = append(a.nodes, look, n)
	}
	for task := range a.may {
		a.may[task] = l.cache.May(task) && queued[task] == 0
	}
	return a
}

// change is made to a hall and to what it is to be; it tells whether both had the same answers.
type change func(h *Hall, l *life) bool

// changesOf are what a task does with a block: each kind in a list of its own, those that end something first.
func changesOf(task, block int) [][]change {
	n, other, large := leaf(byte(16*task+block)), inner(byte(16*task+block)), leafOf(api.Room+1)
	loads := []change{func(h *Hall, l *life) bool {
		waited, ok := h.Load(task, block)
		waited2, ok2 := l.load(task, block)
		return slices.Equal(waited, waited2) && ok == ok2
	}}
	leaves := []change{func(h *Hall, l *life) bool { return slices.Equal(h.Leave(task, block), l.leave(task, block)) }}
	takes := []change{
		func(h *Hall, l *life) bool { return h.Take(task, block, false) == l.take(task, block, false) },
		func(h *Hall, l *life) bool { return h.Take(task, block, true) == l.take(task, block, true) },
	}
	pins := []change{func(h *Hall, l *life) bool { return h.Pin(task, block) == l.pin(task, block) }}
	borns := []change{
		func(h *Hall, l *life) bool { return h.Born(task, block, n) == l.born(task, block, n) },
		func(h *Hall, l *life) bool { return h.Born(task, block, large) == l.born(task, block, large) },
	}
	sets := []change{
		func(h *Hall, l *life) bool { return h.Set(task, block, other) == l.set(task, block, other) },
		func(h *Hall, l *life) bool { return h.Set(task, block, large) == l.set(task, block, large) },
	}
	return [][]change{loads, leaves, takes, pins, borns, sets}
}

// changesBy are what a task does without a block.
func changesBy(task int) [][]change {
	allocs := []change{}
	for n := -1; n <= 3; n++ {
		allocs = append(allocs, func(h *Hall, l *life) bool {
			blocks, ok := h.Alloc(task, n)
			blocks2, ok2 := l.alloc(task, n)
			return slices.Equal(blocks, blocks2) && ok == ok2
		})
	}
	return [][]change{{func(h *Hall, l *life) bool { return h.Claim(task) == l.claim(task) }}, allocs}
}

// evicts is the change of the task that evicts: it must not be seen in what any block is told to have.
func evicts(h *Hall, l *life) bool {
	var was []api.Node
	for b := range api.MaxBlocks {
		n, _ := h.Look(b)
		was = append(was, n)
	}
	block, ok := h.Evict()
	block2, ok2 := l.evict()
	for b, n := range was {
		if now, _ := h.Look(b); !node.Same(now, n) {
			return false
		}
	}
	return block == block2 && ok == ok2
}

// changes are all that can be done with a hall by these tasks, with these blocks: each kind in a list of its own.
func changes(tasks, blocks []int) [][]change {
	out := [][]change{{evicts}}
	with := make([][]change, 6)
	without := make([][]change, 2)
	for _, task := range tasks {
		for kind, l := range changesBy(task) {
			without[kind] = append(without[kind], l...)
		}
		for _, block := range blocks {
			for kind, l := range changesOf(task, block) {
				with[kind] = append(with[kind], l...)
			}
		}
	}
	// Without more holds that end nobody would go on.
	return append(append(append(out, with...), without...), with[1])
}

// agrees tells whether all that can be asked of h is as l has it.
func agrees(h *Hall, l *life) bool {
	for b := len(l.nodes); b <= l.blocks; b++ {
		if n, ok := h.Look(b); ok || !node.Same(n, api.Node{}) {
			return false
		}
	}
	return same(ask(h), l.ask())
}

// spelt returns the changes that a text stands for, a letter each: of task 0 in small letters and of task 7 in capitals, with block 0.
func spelt(text string) []change {
	letters := map[rune]change{'x': evicts}
	for task, first := range map[int]rune{0: 'a', 7: 'A'} {
		of, by := changesOf(task, 0), changesBy(task)
		kinds := map[rune]change{'l': of[0][0], 'e': of[1][0], 'r': of[2][0], 'w': of[2][1], 'p': of[3][0], 's': of[5][0], 'c': by[0][0], 'a': by[1][2]}
		for letter, c := range kinds {
			letters[letter-'a'+first] = c
		}
	}
	var out []change
	for _, letter := range text {
		out = append(out, letters[letter])
	}
	return out
}

// P17.1 to P17.7: all sequences of three changes by two tasks, in a hall of two blocks and one frame; and all of two by which one goes on in which something is done already.
func TestSequences(t *testing.T) {
	steps := slices.Concat(changes([]int{0, 7}, []int{0, 1})...)
	var from func(ahead string, list []int, depth int)
	from = func(ahead string, list []int, depth int) {
		h, l := made(t, 2, 1), begin(2, 1)
		for i, step := range spelt(ahead) {
			if !step(h, l) {
				t.Fatal("ahead", ahead, i)
			}
		}
		for i, at := range list {
			if !steps[at](h, l) {
				t.Fatal("answer", ahead, list, i)
			}
		}
		if !agrees(h, l) {
			t.Fatal("state", ahead, list, ask(h), l.ask())
		}
		for i := range steps {
			if depth > 0 {
				from(ahead, append(slices.Clone(list), i), depth-1)
			}
		}
	}
	from("", nil, 3)
	for _, ahead := range []string{"pP", "plP", "plPrW", "plPwR", "plPws", "plwsex", "plwRx", "ca", "CaA", "caP", "plCex"} {
		from(ahead, nil, 2)
	}
}

// series is a row of numbers that look like chance, and are the same in each run.
type series uint64

func (s *series) below(n int) int {
	*s = *s*6364136223846793005 + 1442695040888963407
	return int(uint64(*s)>>33) % n
}

// live has a hall change for a while, as its life does, by these tasks with these blocks.
func live(t *testing.T, s *series, size, frames int, tasks, blocks []int) {
	t.Helper()
	all := changes(tasks, blocks)
	h, l := made(t, size, frames), begin(size, frames)
	for i := range 300 {
		kind := s.below(len(all))
		if step := s.below(len(all[kind])); !all[kind][step](h, l) {
			t.Fatal("answer", size, frames, tasks, blocks, i, kind, step)
		}
		if !agrees(h, l) {
			t.Fatal("state", size, frames, tasks, blocks, i, ask(h), l.ask())
		}
	}
}

// P17.1 to P17.7: lives of halls with few and many blocks and frames, with few and many tasks, and with numbers of none among them.
func TestLives(t *testing.T) {
	s := series(17)
	tasks := []int{0, 1, 2, 7, 3, 4, 5, 6, -1, 8, math.MinInt, 1 << 32}
	blocks := []int{0, 1, 2, 3, 4, 5, -1, 256, 1 << 32, math.MaxInt}
	for _, size := range []int{1, 2, 3, 6} {
		for _, frames := range []int{1, 2, 3, 5, 9} {
			for _, many := range []int{1, 2, 3, 4, 8, 12} {
				for _, b := range []int{1, 2, 4, 10} {
					live(t, &s, size, frames, tasks[:many], blocks[:b])
				}
			}
		}
	}
}

// visitor is a task that does with the hall as it should: it pins a block, loads it if it is told to, takes its latch, and leaves it at last; and then the next one.
type visitor struct {
	blocks []int // that it has pinned, in their order
	want   int   // the block that it is about; -1 if it chooses one next
	next   int   // what it does with it next
	write  bool
}

// What a visitor does next.
const (
	toPin = iota
	toLoad
	toTake
	toUse
)

// step is what a visitor does when it may go on.
func (v *visitor) step(h *Hall, s *series, task int) {
	switch v.next {
	case toPin:
		if v.want < 0 {
			v.want, v.write = v.choose(h, s), s.below(2) == 0
		}
		told := h.Pin(task, v.want)
		if told == api.Got || told == api.Wait || told == api.Read {
			v.blocks = append(v.blocks, v.want)
			v.next = toTake
		}
		if told == api.Read {
			v.next = toLoad
		}
	case toLoad:
		h.Load(task, v.want)
		v.next = toTake
	case toTake:
		h.Take(task, v.want, v.write)
		v.next = toUse
	case toUse:
		h.Set(task, v.want, leaf(byte(s.below(256))))
		v.goOn(h, s, task)
	}
}

// choose returns a block that comes behind all those that the visitor has, so that no two visitors wait for each other.
func (v *visitor) choose(h *Hall, s *series) int {
	least := 0
	if len(v.blocks) > 0 {
		least = v.blocks[len(v.blocks)-1] + 1
	}
	return least + s.below(len(h.Used())-least)
}

// goOn leaves what the visitor has, or lets it have one more.
func (v *visitor) goOn(h *Hall, s *series, task int) {
	last := v.blocks[len(v.blocks)-1]
	if len(v.blocks) == 2 || last == len(h.Used())-1 || s.below(2) == 0 {
		for _, b := range v.blocks {
			h.Leave(task, b)
		}
		v.blocks = nil
	}
	v.next, v.want = toPin, -1
}

// pinned tells whether the pins of all frames are those that the visitors have, and whether each that holds a latch or waits for it has a pin on its frame.
func pinned(h *Hall, all []*visitor) bool {
	for _, f := range h.Frames() {
		pins := 0
		for task, v := range all {
			has := slices.Contains(v.blocks, f.Block)
			if has {
				pins++
			}
			waits := func(w api.Want) bool { return w.Task == task }
			if !has && (f.Writer == task || slices.Contains(f.Readers, task) || slices.ContainsFunc(f.Queue, waits)) {
				return false
			}
		}
		if f.Pins != pins || f.Writer >= 0 && len(f.Readers) > 0 {
			return false
		}
	}
	return true
}

// P17.7: of tasks that leave only what is theirs, each that holds a latch has a pin on its frame, whatever is evicted meanwhile; all of them go on, and in the end nobody has anything.
func TestVisitors(t *testing.T) {
	s := series(71)
	for _, size := range [][2]int{{1, 1}, {2, 16}, {3, 9}, {4, 9}, {6, 10}, {9, 12}} {
		for _, many := range []int{1, 2, 4, 8} {
			h := grown(t, size[0], size[1], size[0])
			var all []*visitor
			for range many {
				all = append(all, &visitor{want: -1})
			}
			used := 0
			for i := range 3000 {
				task := s.below(many + 1)
				if task == many {
					h.Evict()
				} else if h.May(task) {
					all[task].step(h, &s, task)
					used++
				}
				if !pinned(h, all) {
					t.Fatal(size, many, i, h.Frames(), *all[min(task, many-1)])
				}
			}
			if used < 200 {
				t.Error("nobody goes on", size, many, used)
			}
			finish(t, h, all)
		}
	}
}

// finish lets all visitors leave what they have.
func finish(t *testing.T, h *Hall, all []*visitor) {
	t.Helper()
	s := series(1)
	for range 1000 {
		for task, v := range all {
			if h.May(task) && (len(v.blocks) > 0 || v.want >= 0) {
				v.step(h, &s, task)
			}
		}
		h.Evict()
	}
	if !h.Idle() || !pinned(h, all) {
		t.Error(h.Frames(), h.Line())
	}
}
