package sched

import (
	"math"
	"math/big"
	"slices"
	"testing"

	"orangery/api"
)

// fresh returns a table of n tasks.
func fresh(t *testing.T, n int) *Table {
	t.Helper()
	x, code := New(n)
	if x == nil || code != api.OK {
		t.Fatal(n, code)
	}
	return x
}

// event is what has been done to a table: 'b', 'w' and 'e' for Block, Wake and End of a task, 'p' for a Pick that returned it.
type event struct {
	kind byte
	task int
}

// life is what a table is to be: the number of its tasks, and all that has been done. What it answers it counts anew each time, in the chapter's words.
type life struct {
	n      int
	events []event
	worst  int
}

// states of a task, the one at the start and the one after each event: 'w' runnable, 'b' blocked, 'e' ended.
func (l *life) states(task int) []byte {
	out := []byte{'w'}
	for _, e := range l.events {
		now := out[len(out)-1]
		if e.task == task && e.kind != 'p' && now != 'e' {
			now = e.kind
		}
		out = append(out, now)
	}
	return out
}

func (l *life) state(task int) byte {
	all := l.states(task)
	return all[len(all)-1]
}

func (l *life) runnable() []int {
	var out []int
	for task := range l.n {
		if l.state(task) == 'w' {
			out = append(out, task)
		}
	}
	return out
}

func (l *life) ended() bool {
	for task := range l.n {
		if l.state(task) != 'e' {
			return false
		}
	}
	return true
}

// wait of a task that is runnable: the calls of Pick since it was last returned or last became runnable.
func (l *life) wait(task int) int {
	all := l.states(task)
	if all[len(all)-1] != 'w' {
		return 0
	}
	out := 0
	for i, e := range slices.Backward(l.events) {
		if all[i] != 'w' || e == (event{'p', task}) {
			break
		}
		if e.kind == 'p' {
			out++
		}
	}
	return out
}

func (l *life) picks(task int) int {
	out := 0
	for _, e := range l.events {
		if e == (event{'p', task}) {
			out++
		}
	}
	return out
}

// did notes an event, and whether a wait has become the greatest.
func (l *life) did(kind byte, task int) {
	if task < 0 || task >= l.n {
		return
	}
	l.events = append(l.events, event{kind, task})
	for task := range l.n {
		l.worst = max(l.worst, l.wait(task))
	}
}

// index is p modulo n, from 0 on, by numbers of any size.
func index(p, n int) int {
	return int(new(big.Int).Mod(big.NewInt(int64(p)), big.NewInt(int64(n))).Int64())
}

func (l *life) pick(p int) (int, bool) {
	tasks := l.runnable()
	if len(tasks) == 0 {
		return 0, false
	}
	task := tasks[index(p, len(tasks))]
	l.did('p', task)
	return task, true
}

// outside are numbers of no task of a table of n.
func outside(n int) []int {
	return []int{-1, -2, -n, -n - 1, -8, -256, math.MinInt, math.MinInt + 1, n, n + 1, 2*n + 8, 8, 9, 256, 1 << 32, 1<<32 + 1, math.MaxInt}
}

// agrees tells whether all that can be asked of x is as l has it.
func agrees(x *Table, l *life) bool {
	if !slices.Equal(x.Runnable(), l.runnable()) || x.Ended() != l.ended() || x.Worst() != l.worst {
		return false
	}
	for task := range l.n {
		if x.Wait(task) != l.wait(task) || x.Picks(task) != l.picks(task) {
			return false
		}
	}
	for _, task := range outside(l.n) {
		if x.Wait(task) != 0 || x.Picks(task) != 0 {
			return false
		}
	}
	return true
}

// answers are all that can be asked of a table of n.
type answers struct {
	tasks        [8]int
	many         int
	ended        bool
	waits, picks [8]int
	worst        int
}

func ask(x *Table, n int) answers {
	tasks := x.Runnable()
	out := answers{many: len(tasks), ended: x.Ended(), worst: x.Worst()}
	copy(out.tasks[:], tasks)
	for task := range n {
		out.waits[task], out.picks[task] = x.Wait(task), x.Picks(task)
	}
	return out
}

// waits checks the waits of the tasks, from task 0 on.
func waits(t *testing.T, x *Table, want ...int) {
	t.Helper()
	for task, w := range want {
		if got := x.Wait(task); got != w {
			t.Error("wait", task, got, w)
		}
	}
}

// pick checks the task that Pick(p) returns.
func pick(t *testing.T, x *Table, p, want int) {
	t.Helper()
	if task, ok := x.Pick(p); task != want || !ok {
		t.Error("pick", p, task, ok, want)
	}
}

// tasks checks which tasks are runnable.
func tasks(t *testing.T, x *Table, want ...int) {
	t.Helper()
	if got := x.Runnable(); !slices.Equal(got, want) {
		t.Error("runnable", got, want)
	}
}

// P13.1: a new table of each size has so many runnable tasks, none of which has waited or been picked.
func TestNew(t *testing.T) {
	for n := 1; n <= 8; n++ {
		x := fresh(t, n)
		if !agrees(x, &life{n: n}) || x.Ended() || x.Worst() != 0 {
			t.Error(n, x)
		}
		tasks(t, x, []int{0, 1, 2, 3, 4, 5, 6, 7}[:n]...)
	}
}

// P13.1: sizes that are refused.
func TestNewWrong(t *testing.T) {
	for _, n := range []int{0, -1, -2, -8, -9, math.MinInt, 9, 10, 16, 256, 257, 1 << 32, 1<<32 + 1, math.MaxInt} {
		if x, code := New(n); x != nil || code != api.ErrArg {
			t.Error(n, x, code)
		}
	}
}

// P13.2: the chapter's example.
func TestExample(t *testing.T) {
	x := fresh(t, 3)
	pick(t, x, 4, 1)
	waits(t, x, 1, 0, 1)
}

// P13.1, P13.2: a few tasks that are picked, blocked, woken, ended, and picked again.
func TestFew(t *testing.T) {
	x := fresh(t, 4)
	pick(t, x, 0, 0)
	pick(t, x, 3, 3)
	waits(t, x, 1, 2, 2, 0)
	x.Block(1)
	tasks(t, x, 0, 2, 3)
	waits(t, x, 1, 0, 2, 0)
	pick(t, x, 1, 2)
	waits(t, x, 2, 0, 0, 1)
	x.Wake(1)
	tasks(t, x, 0, 1, 2, 3)
	waits(t, x, 2, 0, 0, 1)
	pick(t, x, 2, 2)
	waits(t, x, 3, 1, 0, 2)
	x.End(2)
	tasks(t, x, 0, 1, 3)
	waits(t, x, 3, 1, 0, 2)
	pick(t, x, 2, 3)
	waits(t, x, 4, 2, 0, 0)
	x.Block(0)
	pick(t, x, 0, 1)
	waits(t, x, 0, 0, 0, 1)
	for task, want := range []int{1, 1, 2, 2} {
		if got := x.Picks(task); got != want {
			t.Error("picks", task, got)
		}
	}
	if x.Worst() != 4 || x.Ended() {
		t.Error(x.Worst(), x.Ended())
	}
	x.End(0)
	x.End(1)
	if x.Ended() {
		t.Error("too soon")
	}
	x.End(3)
	tasks(t, x)
	if !x.Ended() || x.Worst() != 4 {
		t.Error(x.Worst(), x.Ended())
	}
}

// numbers for Pick: small ones, up to beyond those of the tasks, and the greatest and least of many widths.
func numbers() []int {
	var out []int
	for p := -25; p <= 25; p++ {
		out = append(out, p)
	}
	for width := 7; width < 63; width++ {
		for d := -2; d <= 2; d++ {
			out = append(out, 1<<width+d, -1<<width+d)
		}
	}
	for d := range 9 {
		out = append(out, math.MinInt+d, math.MaxInt-d)
	}
	return out
}

// P13.2: the index of Pick is a remainder from 0 on, for all numbers and all sets of runnable tasks, the others being blocked or ended.
func TestPickIndex(t *testing.T) {
	all := numbers()
	for n := 1; n <= 8; n++ {
		for set := range 1 << n {
			x := fresh(t, n)
			var on []int
			for task := range n {
				switch {
				case set>>task&1 != 0:
					on = append(on, task)
				case task%2 == 0:
					x.Block(task)
				default:
					x.End(task)
				}
			}
			tasks(t, x, on...)
			for _, p := range all {
				task, ok := x.Pick(p)
				if len(on) == 0 && (task != 0 || ok) || len(on) != 0 && (!ok || task != on[index(p, len(on))]) {
					t.Fatal(n, on, p, task, ok)
				}
			}
		}
	}
}

// P13.2: indexes from 0 up and from 0 down go around the runnable tasks.
func TestPickAround(t *testing.T) {
	x := fresh(t, 5)
	x.Block(1)
	on := []int{0, 2, 3, 4}
	for p := range 13 {
		pick(t, x, p, on[p%4])
	}
	for p, want := range map[int]int{-1: 4, -2: 3, -3: 2, -4: 0, -5: 4, -8: 0, -9: 4, math.MinInt: 0, math.MinInt + 1: 2, math.MaxInt: 4, math.MaxInt - 1: 3} {
		pick(t, x, p, want)
	}
	// 2 to the power of 63 is 2 more than a multiple of 3.
	y := fresh(t, 3)
	for p, want := range map[int]int{math.MinInt: 1, math.MinInt + 1: 2, math.MinInt + 2: 0, math.MaxInt: 1, math.MaxInt - 1: 0} {
		pick(t, y, p, want)
	}
}

// P13.2: the wait of the task that is picked becomes 0, and that of every other runnable task, and of no other, increases by 1.
func TestPickWaits(t *testing.T) {
	for n := 1; n <= 8; n++ {
		for p := range n {
			x := fresh(t, n)
			want := make([]int, n)
			for range 3 {
				pick(t, x, p, p)
				for task := range want {
					want[task]++
				}
				want[p] = 0
				waits(t, x, want...)
			}
			other := (p + 1) % n
			pick(t, x, other, other)
			for task := range want {
				want[task]++
			}
			want[other] = 0
			waits(t, x, want...)
		}
	}
}

// P13.2: one runnable task alone never waits, and is picked whatever the number is.
func TestAlone(t *testing.T) {
	for n := 1; n <= 8; n++ {
		for alone := range n {
			x := fresh(t, n)
			for task := range n {
				if task != alone {
					x.Block(task)
				}
			}
			for i, p := range numbers() {
				pick(t, x, p, alone)
				if x.Wait(alone) != 0 || x.Picks(alone) != i+1 {
					t.Fatal(n, alone, p, x.Wait(alone), x.Picks(alone))
				}
			}
			waits(t, x, make([]int, n)...)
			if x.Worst() != 0 {
				t.Error(n, alone, x.Worst())
			}
		}
	}
}

// P13.2: if no task is runnable, Pick returns 0 and false, and changes nothing.
func TestPickNone(t *testing.T) {
	for n := 1; n <= 8; n++ {
		for set := range 1 << n {
			x := fresh(t, n)
			x.Pick(1)
			x.Pick(2)
			for task := range n {
				if set>>task&1 != 0 {
					x.Block(task)
				} else {
					x.End(task)
				}
			}
			was := ask(x, n)
			for _, p := range []int{0, 1, -1, n, n - 1, math.MinInt, math.MaxInt} {
				if task, ok := x.Pick(p); task != 0 || ok || ask(x, n) != was {
					t.Error(n, set, p, task, ok)
				}
			}
			tasks(t, x)
			if x.Ended() != (set == 0) {
				t.Error(n, set, x.Ended())
			}
			// What could not be picked has not waited either.
			for task := range n {
				x.Wake(task)
			}
			waits(t, x, make([]int, n)...)
			if x.Worst() != was.worst {
				t.Error(n, set, x.Worst())
			}
		}
	}
}

// P13.1: each task can be blocked, woken and ended by itself, the first and the last too.
func TestEachTask(t *testing.T) {
	for n := 1; n <= 8; n++ {
		for task := range n {
			all := []int{0, 1, 2, 3, 4, 5, 6, 7}[:n]
			others := slices.Delete(slices.Clone(all), task, task+1)
			x := fresh(t, n)
			x.Block(task)
			tasks(t, x, others...)
			if x.Ended() {
				t.Error("blocked", n, task)
			}
			x.Wake(task)
			tasks(t, x, all...)
			x.End(task)
			tasks(t, x, others...)
			if x.Ended() != (n == 1) {
				t.Error("ended", n, task)
			}
			// A task that is blocked can end without being woken.
			y := fresh(t, n)
			y.Block(task)
			y.End(task)
			y.Wake(task)
			tasks(t, y, others...)
			if y.Ended() != (n == 1) {
				t.Error("blocked and ended", n, task)
			}
		}
	}
}

// P13.1: all tasks have ended only when the last one has, in whatever order; blocked tasks have not ended.
func TestEnded(t *testing.T) {
	for n := 1; n <= 8; n++ {
		for first := range n {
			x, y := fresh(t, n), fresh(t, n)
			for i := range n {
				if x.Ended() || y.Ended() {
					t.Error("too soon", n, first, i)
				}
				x.End((first + i) % n)
				y.Block((first + i) % n)
			}
			if !x.Ended() || y.Ended() {
				t.Error(n, first, x.Ended(), y.Ended())
			}
		}
	}
}

// P13.1, P13.2: what is done again has no more effect: a task is blocked twice, and woken twice.
func TestTwice(t *testing.T) {
	x := fresh(t, 3)
	pick(t, x, 0, 0)
	pick(t, x, 0, 0)
	x.Block(1)
	was := ask(x, 3)
	x.Block(1)
	if ask(x, 3) != was {
		t.Error("blocked")
	}
	// Once woken, it is runnable, however often it was blocked.
	x.Wake(1)
	tasks(t, x, 0, 1, 2)
	waits(t, x, 0, 0, 2)
	pick(t, x, 0, 0)
	was = ask(x, 3)
	x.Wake(1)
	x.Wake(1)
	if ask(x, 3) != was {
		t.Error("woken")
	}
	// Once blocked, it is blocked, however often it was woken.
	x.Block(1)
	tasks(t, x, 0, 2)
}

// P13.2: a task that is woken when it is runnable has not become runnable: its wait goes on.
func TestWakeRunnable(t *testing.T) {
	for n := 2; n <= 8; n++ {
		x := fresh(t, n)
		for round := 1; round <= 4; round++ {
			pick(t, x, 0, 0)
			for task := range n {
				x.Wake(task)
			}
			want := slices.Repeat([]int{round}, n)
			want[0] = 0
			waits(t, x, want...)
			if x.Worst() != round {
				t.Error(n, round, x.Worst())
			}
		}
	}
}

// P13.2, P13.3: Block ends a wait; a task that is not runnable does not wait, and one that is woken waits from 0 on.
func TestBlockEndsWait(t *testing.T) {
	for n := 2; n <= 8; n++ {
		for task := range n {
			x := fresh(t, n)
			other := (task + 1) % n
			for range 3 {
				pick(t, x, other, other)
			}
			if x.Wait(task) != 3 {
				t.Error("before", n, task, x.Wait(task))
			}
			x.Block(task)
			if x.Wait(task) != 0 {
				t.Error("blocked", n, task, x.Wait(task))
			}
			for range 5 {
				x.Pick(0)
				if x.Wait(task) != 0 {
					t.Error("while blocked", n, task, x.Wait(task))
				}
			}
			x.Wake(task)
			if x.Wait(task) != 0 {
				t.Error("woken", n, task, x.Wait(task))
			}
			pick(t, x, other, other)
			if x.Wait(task) != 1 {
				t.Error("anew", n, task, x.Wait(task))
			}
			// Blocked and woken with no Pick between: anew as well.
			x.Block(task)
			x.Wake(task)
			if x.Wait(task) != 0 {
				t.Error("at once", n, task, x.Wait(task))
			}
		}
	}
}

// P13.2: a task that ends has no wait from then on.
func TestEndEndsWait(t *testing.T) {
	x := fresh(t, 3)
	pick(t, x, 0, 0)
	pick(t, x, 0, 0)
	x.End(2)
	waits(t, x, 0, 2, 0)
	pick(t, x, 0, 0)
	waits(t, x, 0, 3, 0)
}

// P13.1: a task that has ended is not changed by anything, and is not returned.
func TestEndedStays(t *testing.T) {
	for n := 1; n <= 8; n++ {
		for task := range n {
			for _, blocked := range []bool{false, true} {
				x := fresh(t, n)
				x.Pick(task)
				x.Pick(0)
				if blocked {
					x.Block(task)
				}
				x.End(task)
				was := ask(x, n)
				for i, do := range []func(int){x.Block, x.Wake, x.End, x.Wake, x.Block, x.Wake, x.End} {
					do(task)
					if ask(x, n) != was {
						t.Error(n, task, blocked, i)
					}
				}
				for p := range 2 * n {
					if got, ok := x.Pick(p); got == task && ok {
						t.Error("returned", n, task, blocked, p)
					}
				}
			}
		}
	}
}

// P13.1, P13.2: numbers of no task change nothing, and have no picks and no wait.
func TestOutside(t *testing.T) {
	for n := 1; n <= 8; n++ {
		x := fresh(t, n)
		check := func(when string) {
			was := ask(x, n)
			for _, task := range outside(n) {
				for i, do := range []func(int){x.Block, x.Wake, x.End} {
					do(task)
					if ask(x, n) != was {
						t.Error(when, n, task, i)
					}
				}
				if x.Picks(task) != 0 || x.Wait(task) != 0 {
					t.Error(when, n, task, x.Picks(task), x.Wait(task))
				}
			}
		}
		check("fresh")
		for p := range 2*n + 1 {
			x.Pick(p)
		}
		check("picked")
		x.Block(n - 1)
		check("blocked")
		x.End(0)
		check("ended")
		for task := range n {
			x.End(task)
		}
		check("all ended")
		if !x.Ended() {
			t.Error(n)
		}
	}
}

// P13.2: Worst stays the greatest wait when the task that had it is picked, blocked, woken or has ended since, and grows when a wait is greater.
func TestWorst(t *testing.T) {
	since := []func(x *Table){
		func(x *Table) { x.Pick(2) },
		func(x *Table) { x.Block(2) },
		func(x *Table) { x.Block(2); x.Wake(2) },
		func(x *Table) { x.End(2) },
		func(x *Table) { x.End(0); x.End(1); x.End(2) },
	}
	for i, do := range since {
		x := fresh(t, 3)
		for want := range 5 {
			if x.Worst() != want {
				t.Error(i, want, x.Worst())
			}
			pick(t, x, want%2, want%2)
		}
		waits(t, x, 0, 1, 5)
		do(x)
		if x.Worst() != 5 || x.Wait(2) != 0 {
			t.Error(i, x.Worst(), x.Wait(2))
		}
		for p := range 3 {
			x.Pick(p)
		}
		if x.Worst() != 5 {
			t.Error("later", i, x.Worst())
		}
	}
	// Another task has it later.
	x := fresh(t, 2)
	for range 3 {
		pick(t, x, 0, 0)
	}
	for want := range 6 {
		if got := x.Worst(); got != max(3, want) {
			t.Error(want, got)
		}
		pick(t, x, 1, 1)
	}
}

// P13.2: Worst is that of one wait, not of several that were ended between.
func TestWorstOfOneWait(t *testing.T) {
	x := fresh(t, 2)
	for range 4 {
		pick(t, x, 0, 0)
		pick(t, x, 0, 0)
		x.Block(1)
		pick(t, x, 0, 0)
		x.Wake(1)
	}
	if x.Worst() != 2 {
		t.Error(x.Worst())
	}
}

// P13.2: Picks counts the times that a task was returned, and stays when the task is blocked or has ended.
func TestPicks(t *testing.T) {
	for n := 1; n <= 8; n++ {
		x := fresh(t, n)
		want := make([]int, n)
		counts := func(when string) {
			for task, w := range want {
				if got := x.Picks(task); got != w {
					t.Error(when, n, task, got, w)
				}
			}
		}
		counts("fresh")
		for task := range n {
			for range task + 2 {
				pick(t, x, task, task)
				want[task]++
				counts("picked")
			}
		}
		x.Block(0)
		counts("blocked")
		x.Pick(0)
		if n > 1 {
			want[1]++
		}
		counts("others")
		x.Wake(0)
		counts("woken")
		pick(t, x, 0, 0)
		want[0]++
		counts("picked again")
		for task := range n {
			x.End(task)
			x.Pick(0)
			if task+1 < n {
				want[task+1]++
			}
			counts("ended")
		}
	}
}

// P13.3: if tasks are picked in turn, upwards or downwards, no wait exceeds the number of the others, and each gets there.
func TestInTurn(t *testing.T) {
	for n := 1; n <= 8; n++ {
		up, down := fresh(t, n), fresh(t, n)
		for i := range 5*n + 3 {
			pick(t, up, i, i%n)
			pick(t, down, -1-i, n-1-i%n)
			for task := range n {
				if up.Wait(task) > n-1 || down.Wait(task) > n-1 {
					t.Error(n, i, task, up.Wait(task), down.Wait(task))
				}
			}
		}
		if up.Worst() != n-1 || down.Worst() != n-1 {
			t.Error(n, up.Worst(), down.Worst())
		}
	}
}

// P13.3: in turn with some of the tasks blocked from time to time, and woken in their turn.
func TestInTurnWithBlocks(t *testing.T) {
	for n := 2; n <= 8; n++ {
		x := fresh(t, n)
		for round := range 40 {
			for task := range n {
				at := slices.Index(x.Runnable(), task)
				if at < 0 {
					x.Wake(task)
					continue
				}
				pick(t, x, at, task)
				if round%(task+2) == 0 {
					x.Block(task)
				}
				for other := range n {
					if x.Wait(other) > n-1 {
						t.Error(n, round, other, x.Wait(other))
					}
				}
			}
		}
		if x.Worst() != n-1 {
			t.Error(n, x.Worst())
		}
	}
}

// R3: what Runnable returned may be changed without changing the table, and no later call changes it.
func TestRunnableSharesNothing(t *testing.T) {
	x := fresh(t, 5)
	x.Block(3)
	x.Pick(2)
	was := ask(x, 5)
	list, again := x.Runnable(), x.Runnable()
	for i := range list[:cap(list)] {
		list[:cap(list)][i] = 3
	}
	if ask(x, 5) != was || !slices.Equal(again, []int{0, 1, 2, 4}) {
		t.Error("shared", x.Runnable(), again)
	}
	pick(t, x, 3, 4)
	x.Wake(3)
	x.Block(0)
	x.End(1)
	x.Pick(1)
	x.Runnable()
	if !slices.Equal(again, []int{0, 1, 2, 4}) {
		t.Error("later", again)
	}
}

// R4: what is asked changes nothing.
func TestAsked(t *testing.T) {
	x := fresh(t, 3)
	x.Pick(0)
	x.Pick(1)
	was := ask(x, 3)
	for range 3 {
		if ask(x, 3) != was {
			t.Error("asked")
		}
	}
}

// R4: two tables have nothing to do with each other.
func TestApart(t *testing.T) {
	a, b := fresh(t, 3), fresh(t, 3)
	b.Pick(1)
	b.Block(0)
	was := ask(b, 3)
	a.Pick(0)
	a.Pick(0)
	a.Block(1)
	a.End(2)
	a.Wake(0)
	if ask(b, 3) != was || !agrees(fresh(t, 3), &life{n: 3}) {
		t.Error("apart")
	}
	pick(t, b, 0, 1)
	waits(t, b, 0, 0, 2)
	if a.Worst() != 2 || a.Picks(1) != 0 {
		t.Error(a.Worst(), a.Picks(1))
	}
}

// change is made to a table and to what it is to be; it tells whether both had the same answers.
type change func(x *Table, l *life) bool

// changes of a table of n, with a number of a task too small and one too great.
func changes(n int) []change {
	var out []change
	for task := -1; task <= n; task++ {
		out = append(out,
			func(x *Table, l *life) bool { x.Block(task); l.did('b', task); return true },
			func(x *Table, l *life) bool { x.Wake(task); l.did('w', task); return true },
			func(x *Table, l *life) bool { x.End(task); l.did('e', task); return true })
	}
	for p := -n; p <= n+1; p++ {
		out = append(out, func(x *Table, l *life) bool {
			task, ok := x.Pick(p)
			task2, ok2 := l.pick(p)
			return task == task2 && ok == ok2
		})
	}
	return out
}

// P13.1, P13.2: all sequences of four changes of a table of two tasks, and of six of those that do something to it.
func TestSequences(t *testing.T) {
	all := changes(2)
	some := append(slices.Clone(all[3:9]), all[len(all)-2:]...)
	var from func(steps []change, list []int, depth int) bool
	from = func(steps []change, list []int, depth int) bool {
		x, l := fresh(t, 2), &life{n: 2}
		for _, i := range list {
			if !steps[i](x, l) {
				t.Error("answer", list)
				return false
			}
		}
		if !agrees(x, l) {
			t.Error("state", list)
			return false
		}
		for i := range steps {
			if depth > 0 && !from(steps, append(slices.Clone(list), i), depth-1) {
				return false
			}
		}
		return true
	}
	from(all, nil, 4)
	from(some, nil, 6)
}

// P13.1, P13.2: lives of tables of all sizes, in which tasks are picked, blocked and woken, and end late.
func TestLives(t *testing.T) {
	seed := uint64(1)
	next := func(below int) int {
		seed = seed*6364136223846793005 + 1442695040888963407
		return int((seed >> 33) % uint64(below))
	}
	for n := 1; n <= 8; n++ {
		for range 12 {
			x, l := fresh(t, n), &life{n: n}
			for i := range 150 {
				task := next(n+2) - 1
				switch kind := next(20); {
				case kind < 3:
					x.Block(task)
					l.did('b', task)
				case kind < 7:
					x.Wake(task)
					l.did('w', task)
				case kind < 8 && i > 80:
					x.End(task)
					l.did('e', task)
				default:
					p := next(1<<31) - 1<<30
					got, ok := x.Pick(p)
					if want, ok2 := l.pick(p); got != want || ok != ok2 {
						t.Fatal("answer", n, i, p, got, ok)
					}
				}
				if !agrees(x, l) {
					t.Fatal("state", n, i)
				}
			}
		}
	}
}
