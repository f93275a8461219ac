package latch

import (
	"math"
	"slices"
	"testing"

	"orangery/api"
)

// stay is what a task has of a latch: it holds it, or it waits.
type stay struct {
	task  int
	write bool
	holds bool
}

// life is what a latch is to be: the stays of its tasks, in the order of coming, and the number of pins.
type life struct {
	stays []stay
	pins  int
}

func (l *life) some(is func(s stay) bool) bool { return slices.ContainsFunc(l.stays, is) }

func (l *life) has(task int) bool {
	return l.some(func(s stay) bool { return s.task == task })
}

// room tells whether no task writes and, for one that is to write, no task reads.
func (l *life) room(write bool) bool {
	return !l.some(func(s stay) bool { return s.holds && (s.write || write) })
}

// open tells whether one that comes now can hold the latch at once.
func (l *life) open(write bool) bool {
	return l.room(write) && !l.some(func(s stay) bool { return !s.holds })
}

func (l *life) take(task int, write bool) bool {
	if task < 0 || l.has(task) {
		return false
	}
	holds := l.open(write)
	l.stays = append(l.stays, stay{task, write, holds})
	return holds
}

func (l *life) try(task int, write bool) bool {
	return l.open(write) && l.take(task, write)
}

// letIn goes through those that wait, up to the first that can't hold the latch.
func (l *life) letIn() []int {
	var in []int
	for i, s := range l.stays {
		if s.holds {
			continue
		}
		if !l.room(s.write) {
			break
		}
		l.stays[i].holds = true
		in = append(in, s.task)
	}
	return in
}

func (l *life) drop(task int) []int {
	l.stays = slices.DeleteFunc(l.stays, func(s stay) bool { return s.task == task })
	return l.letIn()
}

func (l *life) down(task int) []int {
	at := slices.Index(l.stays, stay{task, true, true})
	if at < 0 {
		return nil
	}
	l.stays[at].write = false
	return l.letIn()
}

func (l *life) readers() []int {
	var out []int
	for _, s := range l.stays {
		if s.holds && !s.write {
			out = append(out, s.task)
		}
	}
	slices.Sort(out)
	return out
}

func (l *life) writer() int {
	for _, s := range l.stays {
		if s.holds && s.write {
			return s.task
		}
	}
	return -1
}

func (l *life) queue() []api.Want {
	var out []api.Want
	for _, s := range l.stays {
		if !s.holds {
			out = append(out, api.Want{Task: s.task, Write: s.write})
		}
	}
	return out
}

func (l *life) pin() int {
	l.pins++
	return l.pins
}

func (l *life) unpin() (int, bool) {
	if l.pins == 0 {
		return 0, false
	}
	l.pins--
	return l.pins, true
}

// agrees tells whether all that can be asked of x is as l has it.
func agrees(x *Latch, l *life) bool {
	return slices.Equal(x.Readers(), l.readers()) && x.Writer() == l.writer() && slices.Equal(x.Queue(), l.queue()) &&
		x.Idle() == (len(l.stays) == 0 && l.pins == 0)
}

// proper tells whether a writer is alone, no task is in x twice, readers ascend, and the first that waits can't hold x.
func proper(x *Latch) bool {
	readers, writer, queue := x.Readers(), x.Writer(), x.Queue()
	all := slices.Clone(readers)
	if writer != -1 {
		all = append(all, writer)
		if len(readers) != 0 {
			return false
		}
	}
	for _, w := range queue {
		all = append(all, w.Task)
	}
	if !slices.IsSorted(readers) || len(queue) > 0 && writer == -1 && !(queue[0].Write && len(readers) > 0) {
		return false
	}
	slices.Sort(all)
	return len(all) == len(slices.Compact(slices.Clone(all))) && (len(all) == 0 || all[0] >= 0)
}

// pinned tells the number of pins of x, and leaves it as it was.
func pinned(x *Latch) int {
	n := x.Pin() - 1
	x.Unpin()
	return n
}

// answers are all that can be asked of a latch.
type answers struct {
	readers []int
	writer  int
	queue   []api.Want
	pins    int
	idle    bool
}

func ask(x *Latch) answers {
	return answers{x.Readers(), x.Writer(), x.Queue(), pinned(x), x.Idle()}
}

func same(a, b answers) bool {
	return slices.Equal(a.readers, b.readers) && a.writer == b.writer && slices.Equal(a.queue, b.queue) && a.pins == b.pins && a.idle == b.idle
}

// reads and writes are tasks that wait.
func reads(task int) api.Want  { return api.Want{Task: task} }
func writes(task int) api.Want { return api.Want{Task: task, Write: true} }

// taken returns a latch that has been taken by these, one after the other.
func taken(all ...api.Want) *Latch {
	x := New()
	for _, w := range all {
		x.Take(w.Task, w.Write)
	}
	return x
}

// held checks who holds x and who waits. A writer that is -1 is none.
func held(t *testing.T, x *Latch, readers []int, writer int, queue ...api.Want) {
	t.Helper()
	if !slices.Equal(x.Readers(), readers) || x.Writer() != writer || !slices.Equal(x.Queue(), queue) {
		t.Error("held", x.Readers(), x.Writer(), x.Queue(), "not", readers, writer, queue)
	}
}

// take checks what Take answers.
func take(t *testing.T, x *Latch, w api.Want, want bool) {
	t.Helper()
	if got := x.Take(w.Task, w.Write); got != want {
		t.Error("take", w, got)
	}
}

// try checks what Try answers.
func try(t *testing.T, x *Latch, w api.Want, want bool) {
	t.Helper()
	if got := x.Try(w.Task, w.Write); got != want {
		t.Error("try", w, got)
	}
}

// drop checks who is let in by Drop.
func drop(t *testing.T, x *Latch, task int, want ...int) {
	t.Helper()
	if got := x.Drop(task); !slices.Equal(got, want) {
		t.Error("drop", task, got, want)
	}
}

// down checks who is let in by Down.
func down(t *testing.T, x *Latch, task int, want ...int) {
	t.Helper()
	if got := x.Down(task); !slices.Equal(got, want) {
		t.Error("down", task, got, want)
	}
}

// below0 are numbers of no task.
var below0 = []int{-1, -2, -3, -8, -9, -256, -1 << 31, -1<<32 - 1, -1 << 32, math.MinInt + 1, math.MinInt}

// great are tasks with great numbers.
var great = []int{7, 8, 9, 63, 64, 255, 256, 1 << 16, 1<<31 - 1, 1 << 31, 1 << 32, 1<<32 + 1, math.MaxInt - 1, math.MaxInt}

// latches are of all kinds: held by none, by readers, by a writer, with and without those that wait, in every order.
func latches() map[string]*Latch {
	return map[string]*Latch{
		"nobody":                 New(),
		"reader":                 taken(reads(1)),
		"readers":                taken(reads(2), reads(1), reads(5)),
		"writer":                 taken(writes(1)),
		"reader, writer":         taken(reads(1), writes(2)),
		"reader, writer, reader": taken(reads(1), writes(2), reads(5)),
		"writer, reader":         taken(writes(1), reads(2)),
		"writer, writer":         taken(writes(1), writes(2)),
		"writer, many":           taken(writes(1), reads(5), reads(2), writes(7), reads(3), writes(4)),
		"readers, many":          taken(reads(5), reads(1), writes(2), writes(7), reads(3), reads(4)),
	}
}

// P14.1: a new latch is held by none, has nobody who waits and no pins.
func TestNew(t *testing.T) {
	x := New()
	if x == nil {
		t.Fatal("none")
	}
	held(t, x, nil, -1)
	if !x.Idle() || pinned(x) != 0 || !proper(x) {
		t.Error(ask(x))
	}
}

// P14.2: the chapter's example.
func TestExample(t *testing.T) {
	x := New()
	take(t, x, reads(0), true)
	take(t, x, writes(1), false)
	take(t, x, reads(2), false)
	held(t, x, []int{0}, -1, writes(1), reads(2))
	drop(t, x, 0, 1)
	held(t, x, nil, 1, reads(2))
	drop(t, x, 1, 2)
	held(t, x, []int{2}, -1)
}

// P14.1, P14.2: tasks that read and write, wait, go, and come again.
func TestFew(t *testing.T) {
	x := New()
	take(t, x, writes(3), true)
	held(t, x, nil, 3)
	take(t, x, reads(1), false)
	take(t, x, reads(0), false)
	take(t, x, writes(2), false)
	take(t, x, reads(4), false)
	held(t, x, nil, 3, reads(1), reads(0), writes(2), reads(4))
	drop(t, x, 3, 1, 0)
	held(t, x, []int{0, 1}, -1, writes(2), reads(4))
	take(t, x, writes(3), false)
	held(t, x, []int{0, 1}, -1, writes(2), reads(4), writes(3))
	drop(t, x, 1)
	take(t, x, reads(1), false)
	held(t, x, []int{0}, -1, writes(2), reads(4), writes(3), reads(1))
	drop(t, x, 0, 2)
	held(t, x, nil, 2, reads(4), writes(3), reads(1))
	drop(t, x, 2, 4)
	drop(t, x, 4, 3)
	held(t, x, nil, 3, reads(1))
	drop(t, x, 3, 1)
	drop(t, x, 1)
	held(t, x, nil, -1)
	take(t, x, writes(1), true)
	drop(t, x, 1)
	take(t, x, reads(1), true)
	held(t, x, []int{1}, -1)
}

// P14.1: a task that reads, writes or waits takes the latch in vain, as it does by Try.
func TestTakeAgain(t *testing.T) {
	for name, x := range latches() {
		was := ask(x)
		all := append(x.Readers(), x.Writer())
		for _, w := range x.Queue() {
			all = append(all, w.Task)
		}
		for _, task := range all {
			for _, write := range []bool{false, true} {
				if x.Take(task, write) || x.Try(task, write) || !same(ask(x), was) {
					t.Error(name, task, write, ask(x))
				}
			}
		}
	}
}

// P14.1: to read beside readers: at once if nobody waits, and behind those that do otherwise.
func TestTakeToRead(t *testing.T) {
	x := New()
	take(t, x, reads(4), true)
	take(t, x, reads(0), true)
	take(t, x, reads(2), true)
	held(t, x, []int{0, 2, 4}, -1)
	take(t, x, writes(1), false)
	take(t, x, reads(3), false)
	take(t, x, reads(5), false)
	held(t, x, []int{0, 2, 4}, -1, writes(1), reads(3), reads(5))
	y := taken(writes(0))
	take(t, y, reads(1), false)
	take(t, y, reads(2), false)
	held(t, y, nil, 0, reads(1), reads(2))
}

// P14.1: to write: at once if nobody has the latch, and behind all that do otherwise.
func TestTakeToWrite(t *testing.T) {
	x := New()
	take(t, x, writes(2), true)
	take(t, x, writes(1), false)
	take(t, x, writes(0), false)
	held(t, x, nil, 2, writes(1), writes(0))
	y := taken(reads(0))
	take(t, y, writes(1), false)
	take(t, y, writes(2), false)
	held(t, y, []int{0}, -1, writes(1), writes(2))
}

// P14.1: Try gives the latch where Take does, and where Take lets wait it is false, and nobody is in the queue who was not.
func TestTry(t *testing.T) {
	for name := range latches() {
		for _, write := range []bool{false, true} {
			x, y := latches()[name], latches()[name]
			was := ask(x)
			got, want := x.Try(9, write), y.Take(9, write)
			if got != want {
				t.Error(name, write, got)
			}
			if got && !same(ask(x), ask(y)) || !got && !same(ask(x), was) {
				t.Error(name, write, ask(x))
			}
		}
	}
}

// P14.1: Try of an idle latch, beside readers, beside a writer, while somebody waits, and after that.
func TestTryFew(t *testing.T) {
	x := New()
	try(t, x, reads(3), true)
	try(t, x, reads(1), true)
	try(t, x, writes(2), false)
	held(t, x, []int{1, 3}, -1)
	take(t, x, writes(4), false)
	try(t, x, reads(5), false)
	try(t, x, writes(5), false)
	held(t, x, []int{1, 3}, -1, writes(4))
	drop(t, x, 4)
	try(t, x, reads(5), true)
	held(t, x, []int{1, 3, 5}, -1)
	y := New()
	try(t, y, writes(0), true)
	try(t, y, reads(1), false)
	try(t, y, writes(1), false)
	held(t, y, nil, 0)
	take(t, y, reads(1), false)
	held(t, y, nil, 0, reads(1))
	drop(t, y, 0, 1)
	try(t, y, writes(0), false)
	drop(t, y, 1)
	try(t, y, writes(0), true)
	held(t, y, nil, 0)
}

// P14.2: readers in a row of the queue are let in together, in its order, and one that writes alone.
func TestDropLetsIn(t *testing.T) {
	x := taken(writes(9), reads(5), reads(1), reads(3), writes(0), writes(7), reads(6), reads(2), writes(4))
	drop(t, x, 9, 5, 1, 3)
	held(t, x, []int{1, 3, 5}, -1, writes(0), writes(7), reads(6), reads(2), writes(4))
	drop(t, x, 3)
	drop(t, x, 5)
	held(t, x, []int{1}, -1, writes(0), writes(7), reads(6), reads(2), writes(4))
	drop(t, x, 1, 0)
	held(t, x, nil, 0, writes(7), reads(6), reads(2), writes(4))
	drop(t, x, 0, 7)
	held(t, x, nil, 7, reads(6), reads(2), writes(4))
	drop(t, x, 7, 6, 2)
	held(t, x, []int{2, 6}, -1, writes(4))
	drop(t, x, 6)
	drop(t, x, 2, 4)
	held(t, x, nil, 4)
	drop(t, x, 4)
	held(t, x, nil, -1)
}

// P14.2: one that waits at the front goes: those behind are let in if they may.
func TestDropFront(t *testing.T) {
	x := taken(reads(0), writes(1), reads(4), reads(3), writes(2), reads(5))
	drop(t, x, 1, 4, 3)
	held(t, x, []int{0, 3, 4}, -1, writes(2), reads(5))
	drop(t, x, 2, 5)
	held(t, x, []int{0, 3, 4, 5}, -1)
	y := taken(reads(0), writes(1), writes(2), reads(3))
	drop(t, y, 1)
	held(t, y, []int{0}, -1, writes(2), reads(3))
	z := taken(writes(0), reads(1), reads(2), writes(3))
	drop(t, z, 1)
	held(t, z, nil, 0, reads(2), writes(3))
}

// P14.2: one that waits in the middle or at the end goes: nobody is let in, and the others stay in their order.
func TestDropBehind(t *testing.T) {
	for _, first := range []api.Want{reads(0), writes(0)} {
		x := taken(first, writes(1), reads(2), writes(3), reads(4))
		was := ask(x)
		drop(t, x, 3)
		held(t, x, was.readers, was.writer, writes(1), reads(2), reads(4))
		drop(t, x, 4)
		held(t, x, was.readers, was.writer, writes(1), reads(2))
		drop(t, x, 2)
		held(t, x, was.readers, was.writer, writes(1))
		drop(t, x, 1)
		held(t, x, was.readers, was.writer)
	}
}

// P14.2: each that holds a latch or waits goes, from latches of all kinds, and all that it has ends.
func TestDropEach(t *testing.T) {
	for name := range latches() {
		for task := range 10 {
			x := latches()[name]
			l := &life{}
			for _, s := range latches()[name].Readers() {
				l.stays = append(l.stays, stay{s, false, true})
			}
			if w := x.Writer(); w >= 0 {
				l.stays = append(l.stays, stay{w, true, true})
			}
			for _, w := range x.Queue() {
				l.stays = append(l.stays, stay{w.Task, w.Write, false})
			}
			drop(t, x, task, l.drop(task)...)
			if !agrees(x, l) || !proper(x) {
				t.Error(name, task, ask(x))
			}
		}
	}
}

// P14.2: a task that has nothing goes: nobody is let in and nothing is changed.
func TestDropNothing(t *testing.T) {
	for name, x := range latches() {
		was := ask(x)
		for _, task := range []int{0, 6, 8, 9, 1 << 32, math.MaxInt} {
			if in := x.Drop(task); len(in) != 0 || !same(ask(x), was) {
				t.Error(name, task, in, ask(x))
			}
		}
	}
}

// P14.2: the one that writes reads instead, and readers at the front of the queue are let in beside it, up to one that writes.
func TestDown(t *testing.T) {
	x := taken(writes(4), reads(6), reads(0), writes(3), reads(1))
	down(t, x, 4, 6, 0)
	held(t, x, []int{0, 4, 6}, -1, writes(3), reads(1))
	down(t, x, 4)
	held(t, x, []int{0, 4, 6}, -1, writes(3), reads(1))
	drop(t, x, 4)
	drop(t, x, 0)
	drop(t, x, 6, 3)
	down(t, x, 3, 1)
	held(t, x, []int{1, 3}, -1)
}

// P14.2: one that writes ahead of readers lets none of them in.
func TestDownAheadOfWriter(t *testing.T) {
	x := taken(writes(0), writes(1), reads(2), reads(3))
	down(t, x, 0)
	held(t, x, []int{0}, -1, writes(1), reads(2), reads(3))
	drop(t, x, 0, 1)
	down(t, x, 1, 2, 3)
	held(t, x, []int{1, 2, 3}, -1)
}

// P14.2: with an empty queue the one that writes reads, and others may beside it.
func TestDownAlone(t *testing.T) {
	x := taken(writes(5))
	down(t, x, 5)
	held(t, x, []int{5}, -1)
	take(t, x, reads(2), true)
	take(t, x, writes(0), false)
	held(t, x, []int{2, 5}, -1, writes(0))
	drop(t, x, 5)
	drop(t, x, 2, 0)
	held(t, x, nil, 0)
}

// P14.2: Down of whatever does not write, be it one that reads, one that waits to read or to write, or one that has nothing.
func TestDownNothing(t *testing.T) {
	for name, x := range latches() {
		was := ask(x)
		for _, task := range []int{0, 1, 2, 3, 4, 5, 6, 7, 8, 9, 1 << 32, 1<<32 + 1, math.MaxInt} {
			if task == was.writer {
				continue
			}
			if in := x.Down(task); len(in) != 0 || !same(ask(x), was) {
				t.Error(name, task, in, ask(x))
			}
		}
	}
}

// orders of the numbers of a list.
func orders(list []int) [][]int {
	if len(list) == 0 {
		return [][]int{nil}
	}
	var out [][]int
	for i := range list {
		for _, rest := range orders(slices.Delete(slices.Clone(list), i, i+1)) {
			out = append(out, append([]int{list[i]}, rest...))
		}
	}
	return out
}

// P14.3: readers ascend whatever the order in which they come or go, at once or from the queue; the queue has its order of coming.
func TestOrder(t *testing.T) {
	up := []int{0, 1, 2, 10, 1 << 40}
	for _, order := range orders(up) {
		x, y := New(), taken(writes(7))
		var queue []api.Want
		for _, task := range order {
			take(t, x, reads(task), true)
			take(t, y, reads(task), false)
			queue = append(queue, reads(task))
		}
		held(t, x, up, -1)
		held(t, y, nil, 7, queue...)
		drop(t, y, 7, order...)
		held(t, y, up, -1)
		left := slices.Clone(up)
		for _, task := range order {
			drop(t, x, task)
			left = slices.DeleteFunc(left, func(r int) bool { return r == task })
			held(t, x, left, -1)
		}
		if !x.Idle() {
			t.Error(order)
		}
	}
}

// P14.3: one that writes goes among the readers in its place when it reads instead.
func TestDownInPlace(t *testing.T) {
	for task := range 6 {
		x := taken(writes(task))
		var others []int
		for other := 5; other >= 0; other-- {
			if other != task {
				take(t, x, reads(other), false)
				others = append(others, other)
			}
		}
		down(t, x, task, others...)
		held(t, x, []int{0, 1, 2, 3, 4, 5}, -1)
	}
}

// P14.1 to P14.3: task 0 and tasks with great numbers are as any others.
func TestGreatNumbers(t *testing.T) {
	all := append([]int{0}, great...)
	for i, task := range all {
		other := all[(i+1)%len(all)]
		x := New()
		take(t, x, writes(task), true)
		held(t, x, nil, task)
		take(t, x, reads(task), false)
		take(t, x, reads(other), false)
		take(t, x, reads(other), false)
		held(t, x, nil, task, reads(other))
		down(t, x, other)
		down(t, x, task, other)
		held(t, x, []int{min(task, other), max(task, other)}, -1)
		drop(t, x, task)
		try(t, x, writes(task), false)
		take(t, x, writes(task), false)
		drop(t, x, other, task)
		held(t, x, nil, task)
		drop(t, x, task)
		try(t, x, reads(task), true)
		held(t, x, []int{task}, -1)
	}
	y := New()
	for _, task := range slices.Backward(all) {
		take(t, y, reads(task), true)
	}
	held(t, y, all, -1)
}

// P14.1 to P14.3: many tasks at once.
func TestMany(t *testing.T) {
	x := taken(writes(0))
	var in []int
	for task := 2000; task > 0; task-- {
		take(t, x, reads(task), false)
		in = append(in, task)
	}
	drop(t, x, 0, in...)
	slices.Reverse(in)
	held(t, x, in, -1)
	for task := 2001; task <= 4000; task++ {
		take(t, x, writes(task), false)
	}
	for _, task := range in[:1999] {
		drop(t, x, task)
	}
	drop(t, x, 2000, 2001)
	for task := 2001; task < 4000; task++ {
		drop(t, x, task, task+1)
	}
	held(t, x, nil, 4000)
	drop(t, x, 4000)
	if !x.Idle() {
		t.Error(ask(x))
	}
}

// P14.1, P14.2: a number below 0 is no task, whatever the latch is: nothing is changed, and the answers are false and no tasks.
func TestBelow0(t *testing.T) {
	for name, x := range latches() {
		x.Pin()
		was := ask(x)
		for _, task := range below0 {
			for _, write := range []bool{false, true} {
				if x.Take(task, write) || x.Try(task, write) {
					t.Error(name, task, write)
				}
			}
			if in, in2 := x.Drop(task), x.Down(task); len(in) != 0 || len(in2) != 0 {
				t.Error(name, task, in, in2)
			}
			if !same(ask(x), was) {
				t.Error(name, task, ask(x))
			}
		}
	}
}

// P14.3: pins are counted up and down; without pins Unpin returns 0 and false, and changes nothing.
func TestPins(t *testing.T) {
	x := New()
	for range 3 {
		if n, ok := x.Unpin(); n != 0 || ok {
			t.Error(n, ok)
		}
	}
	for n := 1; n <= 300; n++ {
		if got := x.Pin(); got != n {
			t.Error(n, got)
		}
	}
	for n := 299; n >= 0; n-- {
		if got, ok := x.Unpin(); got != n || !ok {
			t.Error(n, got, ok)
		}
	}
	if n, ok := x.Unpin(); n != 0 || ok {
		t.Error(n, ok)
	}
	if n := x.Pin(); n != 1 {
		t.Error(n)
	}
}

// P14.3: pins and who has the latch have nothing to do with each other.
func TestPinsBeside(t *testing.T) {
	for name, x := range latches() {
		was := ask(x)
		x.Pin()
		x.Pin()
		now := ask(x)
		if now.pins != was.pins+2 || now.idle {
			t.Error(name, now)
		}
		now.pins, now.idle = was.pins, was.idle
		if !same(now, was) {
			t.Error(name, now)
		}
		for task := range 10 {
			x.Take(task, true)
			x.Down(task)
			x.Try(task, false)
			x.Drop(task)
		}
		if n := pinned(x); n != 2 || x.Idle() {
			t.Error(name, n)
		}
		x.Unpin()
		if n, ok := x.Unpin(); n != 0 || !ok || !x.Idle() {
			t.Error(name, n, ok, ask(x))
		}
	}
}

// P14.3: a latch is not idle with a reader, a writer, one that waits or a pin, and idle without any of them.
func TestIdle(t *testing.T) {
	for name, x := range latches() {
		if x.Idle() != (name == "nobody") {
			t.Error(name)
		}
	}
	x := New()
	idle := func(want bool) {
		t.Helper()
		if x.Idle() != want {
			t.Error(ask(x))
		}
	}
	idle(true)
	x.Take(0, false)
	idle(false)
	x.Drop(0)
	idle(true)
	x.Take(0, true)
	idle(false)
	x.Down(0)
	idle(false)
	x.Drop(0)
	idle(true)
	x.Pin()
	idle(false)
	x.Pin()
	x.Unpin()
	idle(false)
	x.Unpin()
	idle(true)
	x.Unpin()
	idle(true)
	x.Take(3, false)
	x.Take(4, true)
	x.Drop(3)
	idle(false)
	x.Drop(4)
	idle(true)
	x.Drop(4)
	x.Down(4)
	idle(true)
}

// R3: what Readers, Queue, Drop and Down returned may be changed, beyond its length too, without changing the latch.
func TestSharesNothing(t *testing.T) {
	x := taken(writes(0), reads(6), reads(2), writes(5), reads(1), reads(7))
	spoil := func(list []int) {
		list = list[:cap(list)]
		for i := range list {
			list[i] = 99
		}
	}
	queue := x.Queue()
	queue = queue[:cap(queue)]
	for i := range queue {
		queue[i] = writes(99)
	}
	held(t, x, nil, 0, reads(6), reads(2), writes(5), reads(1), reads(7))
	spoil(x.Down(0))
	held(t, x, []int{0, 2, 6}, -1, writes(5), reads(1), reads(7))
	spoil(x.Readers())
	held(t, x, []int{0, 2, 6}, -1, writes(5), reads(1), reads(7))
	x.Drop(2)
	x.Drop(0)
	spoil(x.Drop(6))
	spoil(x.Drop(5))
	spoil(x.Readers())
	held(t, x, []int{1, 7}, -1)
	take(t, x, reads(3), true)
	held(t, x, []int{1, 3, 7}, -1)
}

// R3: no later call changes what Readers, Queue, Drop and Down returned.
func TestStays(t *testing.T) {
	x := taken(writes(5), reads(6), reads(2), writes(3), reads(1), reads(7), writes(8))
	queue := x.Queue()
	in := x.Down(5)
	readers, left := x.Readers(), x.Queue()
	x.Drop(2)
	x.Take(2, false)
	x.Drop(5)
	x.Drop(6)
	in2 := x.Drop(3)
	readers2 := x.Readers()
	x.Take(0, true)
	x.Drop(1)
	x.Drop(8)
	x.Drop(7)
	x.Drop(2)
	x.Drop(0)
	x.Take(4, false)
	x.Take(0, false)
	x.Take(9, true)
	x.Take(3, true)
	if !slices.Equal(queue, []api.Want{reads(6), reads(2), writes(3), reads(1), reads(7), writes(8)}) || !slices.Equal(in, []int{6, 2}) ||
		!slices.Equal(readers, []int{2, 5, 6}) || !slices.Equal(left, []api.Want{writes(3), reads(1), reads(7), writes(8)}) {
		t.Error(queue, in, readers, left)
	}
	if !slices.Equal(in2, []int{1, 7}) || !slices.Equal(readers2, []int{1, 7}) {
		t.Error(in2, readers2)
	}
}

// R4: what is asked changes nothing.
func TestAsked(t *testing.T) {
	for name, x := range latches() {
		was := ask(x)
		for range 3 {
			if !same(ask(x), was) {
				t.Error(name)
			}
		}
	}
}

// R4: two latches have nothing to do with each other.
func TestApart(t *testing.T) {
	a, b := New(), New()
	take(t, b, reads(1), true)
	take(t, b, writes(2), false)
	b.Pin()
	was := ask(b)
	take(t, a, writes(1), true)
	take(t, a, reads(2), false)
	down(t, a, 1, 2)
	drop(t, a, 1)
	drop(t, a, 2)
	a.Pin()
	a.Pin()
	if !same(ask(b), was) {
		t.Error(ask(b))
	}
	if n, ok := b.Unpin(); n != 0 || !ok {
		t.Error(n, ok)
	}
	drop(t, b, 1, 2)
	held(t, a, nil, -1)
	if n := pinned(a); n != 2 || !agrees(New(), &life{}) {
		t.Error(n)
	}
}

// change is made to a latch and to what it is to be; it tells whether both had the same answers.
type change func(x *Latch, l *life) bool

// moves are what the tasks from first to last can do with a latch that is not Try.
func moves(first, last int) []change {
	var out []change
	for task := first; task <= last; task++ {
		for _, write := range []bool{false, true} {
			out = append(out, func(x *Latch, l *life) bool { return x.Take(task, write) == l.take(task, write) })
		}
		out = append(out,
			func(x *Latch, l *life) bool { return slices.Equal(x.Drop(task), l.drop(task)) },
			func(x *Latch, l *life) bool { return slices.Equal(x.Down(task), l.down(task)) })
	}
	return out
}

// changes are all that can be done with a latch, by a number too small too.
func changes(last int) []change {
	out := moves(-1, last)
	for task := -1; task <= last; task++ {
		for _, write := range []bool{false, true} {
			out = append(out, func(x *Latch, l *life) bool { return x.Try(task, write) == l.try(task, write) })
		}
	}
	return append(out,
		func(x *Latch, l *life) bool { return x.Pin() == l.pin() },
		func(x *Latch, l *life) bool {
			n, ok := x.Unpin()
			n2, ok2 := l.unpin()
			return n == n2 && ok == ok2
		})
}

// P14.1 to P14.4: all sequences of four changes of three tasks, and of five of those without Try and pins.
func TestSequences(t *testing.T) {
	var from func(steps []change, list []int, depth int) bool
	from = func(steps []change, list []int, depth int) bool {
		x, l := New(), &life{}
		for _, i := range list {
			if !steps[i](x, l) {
				t.Error("answer", list)
				return false
			}
		}
		if !agrees(x, l) || !proper(x) {
			t.Error("state", list)
			return false
		}
		for i := range steps {
			if depth > 0 && !from(steps, append(slices.Clone(list), i), depth-1) {
				return false
			}
		}
		return true
	}
	from(changes(2), nil, 4)
	from(moves(0, 2), nil, 5)
}

// marks tell of a latch who holds it, and who waits.
func marks(x *Latch) (holds, waits map[int]bool) {
	holds, waits = map[int]bool{}, map[int]bool{}
	for _, task := range x.Readers() {
		holds[task] = true
	}
	if w := x.Writer(); w != -1 {
		holds[w] = true
	}
	for _, w := range x.Queue() {
		waits[w.Task] = true
	}
	return holds, waits
}

// fair tells whether no task that waits now, and came before one that was let in or came in since, has been overtaken by it.
func fair(x *Latch, held map[int]bool, came map[int]int) bool {
	holds, waits := marks(x)
	for task := range holds {
		for other := range waits {
			if !held[task] && came[other] < came[task] {
				return false
			}
		}
	}
	return true
}

// P14.1 to P14.4: lives of latches of few and of many tasks, in which nobody who waits is overtaken.
func TestLives(t *testing.T) {
	seed := uint64(1)
	next := func(below int) int {
		seed = seed*6364136223846793005 + 1442695040888963407
		return int((seed >> 33) % uint64(below))
	}
	for n := 1; n <= 12; n++ {
		all := changes(n - 1)
		for range 20 {
			x, l, came := New(), &life{}, map[int]int{}
			for i := range 300 {
				held, waited := marks(x)
				if step := next(len(all)); !all[step](x, l) {
					t.Fatal("answer", n, i, step)
				}
				if !agrees(x, l) || !proper(x) || pinned(x) != l.pins {
					t.Fatal("state", n, i, ask(x))
				}
				for _, s := range l.stays {
					if !held[s.task] && !waited[s.task] {
						came[s.task] = i
					}
				}
				if !fair(x, held, came) {
					t.Fatal("overtaken", n, i, ask(x))
				}
			}
		}
	}
}

// P14.4: one that waits to write has its turn, however many come to read behind it.
func TestNotOvertaken(t *testing.T) {
	x := taken(reads(0), writes(1))
	for task := 2; task < 50; task++ {
		take(t, x, reads(task), false)
		try(t, x, reads(task+100), false)
	}
	drop(t, x, 0, 1)
	if x.Writer() != 1 || len(x.Readers()) != 0 || len(x.Queue()) != 48 {
		t.Error(ask(x))
	}
}
