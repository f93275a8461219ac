package clock

import (
	"math"
	"slices"
	"testing"
)

const (
	y = true
	n = false
)

// spot is a position that the hand comes to.
type spot struct {
	place    int
	can, ref bool
}

// ring is what a clock is to be: its positions in a row, the one at the hand first.
func ring(can, ref []bool, hand int) []spot {
	at := hand % len(can)
	if at < 0 {
		at += len(can)
	}
	var out []spot
	for place := range can {
		out = append(out, spot{place, can[place], ref[place]})
	}
	return append(out[at:], out[:at]...)
}

// left returns the references of the spots, by their places.
func left(spots []spot) []bool {
	out := make([]bool, len(spots))
	for _, s := range spots {
		out[s.place] = s.ref
	}
	return out
}

// sweep turns the ring till a spot is chosen.
func sweep(can, ref []bool, hand int) (int, int, []bool) {
	if len(can) != len(ref) || len(can) == 0 {
		return -1, 0, nil
	}
	spots := ring(can, ref, hand)
	if !slices.Contains(can, true) {
		return -1, spots[0].place, left(spots)
	}
	for {
		first := spots[0]
		chosen := first.can && !first.ref
		first.ref = first.ref && !first.can
		spots = append(spots[1:], first)
		if chosen {
			return first.place, spots[0].place, left(spots)
		}
	}
}

// repeat has a sweep for each position that is evicted, and one that finds none.
func repeat(can, ref []bool, hand int, by func(can, ref []bool, hand int) (int, int, []bool)) []int {
	var out []int
	can = slices.Clone(can)
	for {
		place, next, left := by(can, ref, hand)
		if place < 0 || place >= len(can) || !can[place] {
			return out
		}
		can[place] = false
		out = append(out, place)
		ref, hand = left, next
	}
}

// dial is what Sweep and Order are given.
type dial struct {
	can, ref []bool
	hand     int
}

func (d dial) copy() dial {
	return dial{slices.Clone(d.can), slices.Clone(d.ref), d.hand}
}

func (d dial) same(e dial) bool {
	return slices.Equal(d.can, e.can) && slices.Equal(d.ref, e.ref) && d.hand == e.hand
}

// swept tells whether Sweep answers d as the ring has it, and leaves d as it was.
func (d dial) swept() bool {
	was := d.copy()
	place, next, left := sweep(d.can, d.ref, d.hand)
	place1, next1, left1 := Sweep(d.can, d.ref, d.hand)
	return place1 == place && next1 == next && slices.Equal(left1, left) && d.same(was)
}

// ordered tells whether Order answers d as the sweeps of the ring and those of Sweep do, and leaves d as it was.
func (d dial) ordered() bool {
	was := d.copy()
	got := Order(d.can, d.ref, d.hand)
	return slices.Equal(got, repeat(d.can, d.ref, d.hand, sweep)) && slices.Equal(got, repeat(d.can, d.ref, d.hand, Sweep)) && d.same(was)
}

// lists returns all lists of n bools.
func lists(n int) [][]bool {
	out := [][]bool{nil}
	for range n {
		var more [][]bool
		for _, l := range out {
			more = append(more, append(slices.Clone(l), false), append(slices.Clone(l), true))
		}
		out = more
	}
	return out
}

// hands returns hands at each of n positions, below 0, above n, and as far off as an int can be.
func hands(n int) []int {
	out := []int{math.MinInt, math.MinInt + 1, -1 << 32, -1000001, 1000001, 1 << 32, math.MaxInt - 1, math.MaxInt}
	for hand := -2*n - 1; hand <= 2*n+1; hand++ {
		out = append(out, hand)
	}
	return out
}

// each calls do with all that n positions can be, and a hand at each of them and elsewhere.
func each(n int, do func(d dial)) {
	for _, can := range lists(n) {
		for _, ref := range lists(n) {
			for _, hand := range hands(n) {
				do(dial{can, ref, hand})
			}
		}
	}
}

// series is a row of numbers that look like chance, and are the same in each run.
type series uint64

func (s *series) below(n int) int {
	*s = *s*6364136223846793005 + 1442695040888963407
	return int(*s>>33) % n
}

// dial returns one of n positions; of eight, can of them can be evicted and ref of them are referenced, more or less.
func (s *series) dial(n, can, ref int) dial {
	d := dial{hand: s.below(4*n) - 2*n}
	for range n {
		d.can = append(d.can, s.below(8) < can)
		d.ref = append(d.ref, s.below(8) < ref)
	}
	return d
}

// P15.1: the chapter's example, and what is passed, loses its reference, and is chosen.
func TestSweep(t *testing.T) {
	for i, x := range []struct {
		can, ref    []bool
		hand        int
		place, next int
		left        []bool
	}{
		// The chapter's example, and the hand at the other positions.
		{[]bool{y, y, y}, []bool{y, n, y}, 0, 1, 2, []bool{n, n, y}},
		{[]bool{y, y, y}, []bool{y, n, y}, 1, 1, 2, []bool{y, n, y}},
		{[]bool{y, y, y}, []bool{y, n, y}, 2, 1, 2, []bool{n, n, n}},
		// No references: the one at the hand.
		{[]bool{y, y, y}, []bool{n, n, n}, 0, 0, 1, []bool{n, n, n}},
		{[]bool{y, y, y}, []bool{n, n, n}, 1, 1, 2, []bool{n, n, n}},
		// What can't be evicted is passed, and keeps its reference.
		{[]bool{n, y, y}, []bool{n, n, n}, 0, 1, 2, []bool{n, n, n}},
		{[]bool{n, y, y}, []bool{y, n, n}, 0, 1, 2, []bool{y, n, n}},
		{[]bool{n, y, n, y}, []bool{y, y, y, n}, 0, 3, 0, []bool{y, n, y, n}},
		{[]bool{n, y, n, y}, []bool{y, y, y, y}, 2, 3, 0, []bool{y, n, y, n}},
		// All that can be evicted are referenced: the first that is visited.
		{[]bool{y, y, y}, []bool{y, y, y}, 0, 0, 1, []bool{n, n, n}},
		{[]bool{y, y, y}, []bool{y, y, y}, 1, 1, 2, []bool{n, n, n}},
		{[]bool{y, y, y}, []bool{y, y, y}, 2, 2, 0, []bool{n, n, n}},
		{[]bool{n, y, y}, []bool{n, y, y}, 0, 1, 2, []bool{n, n, n}},
		{[]bool{n, y, n}, []bool{y, y, y}, 2, 1, 2, []bool{y, n, y}},
		// What is behind the chosen one keeps its reference.
		{[]bool{y, y, y, y}, []bool{y, n, y, y}, 3, 1, 2, []bool{n, n, y, n}},
		// The last position is chosen: 0 follows it.
		{[]bool{y, y}, []bool{y, n}, 0, 1, 0, []bool{n, n}},
		{[]bool{n, n, y}, []bool{y, n, y}, 1, 2, 0, []bool{y, n, n}},
		// One position alone.
		{[]bool{y}, []bool{n}, 0, 0, 0, []bool{n}},
		{[]bool{y}, []bool{y}, 0, 0, 0, []bool{n}},
		{[]bool{n}, []bool{n}, 0, -1, 0, []bool{n}},
		{[]bool{n}, []bool{y}, 0, -1, 0, []bool{y}},
	} {
		place, next, left := Sweep(x.can, x.ref, x.hand)
		if place != x.place || next != x.next || !slices.Equal(left, x.left) {
			t.Error(i, place, next, left)
		}
	}
}

// P15.1: the hand is a remainder from 0 on, whatever number it is.
func TestHand(t *testing.T) {
	for _, x := range []struct{ hand, n, at int }{
		{0, 3, 0}, {2, 3, 2}, {3, 3, 0}, {4, 3, 1}, {300, 3, 0}, {301, 3, 1},
		{-1, 3, 2}, {-2, 3, 1}, {-3, 3, 0}, {-4, 3, 2}, {-300, 3, 0}, {-301, 3, 2},
		{math.MaxInt, 2, 1}, {math.MaxInt, 3, 1}, {math.MaxInt, 5, 2}, {math.MaxInt, 7, 0}, {math.MaxInt, 10, 7},
		{math.MinInt, 2, 0}, {math.MinInt, 3, 1}, {math.MinInt, 5, 2}, {math.MinInt, 7, 6}, {math.MinInt, 10, 2},
		{1 << 32, 3, 1}, {-1 << 32, 3, 2}, {1<<32 + 1, 4, 1}, {-1<<32 - 1, 4, 3},
		{math.MaxInt, 1, 0}, {math.MinInt, 1, 0}, {-1, 1, 0}, {1, 1, 0},
	} {
		none, all := make([]bool, x.n), slices.Repeat([]bool{true}, x.n)
		if place, next, left := Sweep(all, none, x.hand); place != x.at || next != (x.at+1)%x.n || !slices.Equal(left, none) {
			t.Error(x, place, next, left)
		}
		if place, next, left := Sweep(all, all, x.hand); place != x.at || next != (x.at+1)%x.n || !slices.Equal(left, none) {
			t.Error(x, place, next, left)
		}
		if place, next, left := Sweep(none, none, x.hand); place != -1 || next != x.at || !slices.Equal(left, none) {
			t.Error(x, place, next, left)
		}
		if place, next, left := Sweep(none, all, x.hand); place != -1 || next != x.at || !slices.Equal(left, all) {
			t.Error(x, place, next, left)
		}
	}
}

// P15.1, P15.2, R2: lists that are empty or differ in length have no positions, wherever the hand is.
func TestNoPositions(t *testing.T) {
	for i, x := range []struct{ can, ref []bool }{
		{nil, nil},
		{[]bool{}, nil},
		{nil, []bool{}},
		{[]bool{}, []bool{}},
		{[]bool{y}, nil},
		{nil, []bool{y}},
		{nil, []bool{n}},
		{[]bool{y}, []bool{}},
		{[]bool{y}, []bool{n, n}},
		{[]bool{y, y}, []bool{n}},
		{[]bool{n, n}, []bool{y}},
		{[]bool{y, y, y}, []bool{y, n, y, y}},
		{[]bool{y, y, y, y}, []bool{y, n, y}},
		// What lies beyond the length of a list is not in it.
		{[]bool{y, y, y}, []bool{n, n, n}[:2]},
		{[]bool{y, y, y}[:2], []bool{n, n, n}},
		{[]bool{y}[:0], []bool{n}[:0]},
	} {
		for _, hand := range hands(4) {
			if place, next, left := Sweep(x.can, x.ref, hand); place != -1 || next != 0 || len(left) != 0 {
				t.Error(i, hand, place, next, left)
			}
			if got := Order(x.can, x.ref, hand); len(got) != 0 {
				t.Error(i, hand, got)
			}
		}
	}
}

// P15.1: what up to five positions can be, with the hand at each of them and elsewhere.
func TestSweepAll(t *testing.T) {
	for size := range 6 {
		each(size, func(d dial) {
			if !d.swept() {
				t.Fatal(d)
			}
		})
	}
}

// P15.2: the order of what can be evicted, and nothing else.
func TestOrder(t *testing.T) {
	for i, x := range []struct {
		can, ref []bool
		hand     int
		want     []int
	}{
		{[]bool{y, y, y}, []bool{y, n, y}, 0, []int{1, 0, 2}},
		{[]bool{y, y, y}, []bool{y, n, y}, 1, []int{1, 2, 0}},
		{[]bool{y, y, y}, []bool{y, n, y}, 2, []int{1, 2, 0}},
		{[]bool{y, y, y}, []bool{n, n, n}, 0, []int{0, 1, 2}},
		{[]bool{y, y, y}, []bool{n, n, n}, 2, []int{2, 0, 1}},
		{[]bool{y, y, y}, []bool{y, y, y}, 0, []int{0, 1, 2}},
		{[]bool{y, y, y}, []bool{y, y, y}, 1, []int{1, 2, 0}},
		{[]bool{y, y, y}, []bool{n, n, n}, -1, []int{2, 0, 1}},
		{[]bool{y, y, y}, []bool{n, n, n}, 3, []int{0, 1, 2}},
		{[]bool{y, y, y}, []bool{n, n, n}, math.MinInt, []int{1, 2, 0}},
		{[]bool{y, y, y}, []bool{n, n, n}, math.MaxInt, []int{1, 2, 0}},
		{[]bool{y, n, y}, []bool{y, y, y}, 1, []int{2, 0}},
		{[]bool{y, n, y, n, y, y}, []bool{y, n, n, y, y, n}, 4, []int{5, 2, 4, 0}},
		{[]bool{n, n, y}, []bool{n, n, y}, 0, []int{2}},
		{[]bool{y}, []bool{n}, 5, []int{0}},
		{[]bool{y}, []bool{y}, -5, []int{0}},
		{[]bool{n}, []bool{n}, 0, nil},
		{[]bool{n}, []bool{y}, 0, nil},
		{[]bool{n, n, n}, []bool{n, n, n}, 2, nil},
		{[]bool{n, n, n}, []bool{y, n, y}, 1, nil},
	} {
		if got := Order(x.can, x.ref, x.hand); !slices.Equal(got, x.want) {
			t.Error(i, got)
		}
	}
}

// P15.2: Order is Sweep repeated, whatever up to five positions are and wherever the hand is.
func TestOrderAll(t *testing.T) {
	for size := range 6 {
		each(size, func(d dial) {
			if !d.ordered() {
				t.Fatal(d)
			}
		})
	}
}

// P15.3: nothing that is not referenced waits for what is referenced and visited after it, and what can be evicted is in Order once.
func TestProperties(t *testing.T) {
	for size := range 5 {
		each(size, func(d dial) {
			if size == 0 {
				return
			}
			out := Order(d.can, d.ref, d.hand)
			sorted := slices.Sorted(slices.Values(out))
			var all []int
			for place, can := range d.can {
				if can {
					all = append(all, place)
				}
			}
			if !slices.Equal(sorted, all) {
				t.Fatal(d, out)
			}
			spots := ring(d.can, d.ref, d.hand)
			for i, early := range spots {
				for _, late := range spots[i+1:] {
					if early.can && late.can && !early.ref && late.ref && slices.Index(out, early.place) > slices.Index(out, late.place) {
						t.Fatal(d, out, early, late)
					}
				}
			}
		})
	}
}

// P15.3: nothing is passed more than once before it is chosen: what a sweep that passes a whole round chooses is the first that it passed.
func TestPassedOnce(t *testing.T) {
	each(4, func(d dial) {
		place, _, left := Sweep(d.can, d.ref, d.hand)
		if place == -1 {
			return
		}
		spots := ring(d.can, d.ref, d.hand)
		at := slices.IndexFunc(spots, func(s spot) bool { return s.can && !s.ref })
		if at < 0 {
			at = slices.IndexFunc(spots, func(s spot) bool { return s.can })
		}
		if place != spots[at].place || left[place] {
			t.Fatal(d, place, left)
		}
	})
}

// P15.1, P15.2: many positions, of which few or many can be evicted or are referenced.
func TestMany(t *testing.T) {
	s := series(15)
	for range 4 {
		for can := range 9 {
			for ref := range 9 {
				d := s.dial(1+s.below(90), can, ref)
				if !d.swept() || !d.ordered() {
					t.Fatal(d)
				}
			}
		}
	}
}

// P15.2, P15.3, R1: of very many positions, those without a reference go first, from the hand on, and then the others.
func TestVeryMany(t *testing.T) {
	s := series(3)
	d := s.dial(200000, 6, 4)
	var first, second []int
	for _, x := range ring(d.can, d.ref, d.hand) {
		if x.can && x.ref {
			second = append(second, x.place)
		} else if x.can {
			first = append(first, x.place)
		}
	}
	if got := Order(d.can, d.ref, d.hand); !slices.Equal(got, append(first, second...)) {
		t.Error(len(got), len(first), len(second))
	}
}

// P15.1: a cache that puts a node where one was evicted, references some, and goes on with the position that Sweep returned.
func TestLives(t *testing.T) {
	s := series(1)
	for size := 1; size <= 20; size++ {
		d := s.dial(size, 6, 4)
		for step := range 300 {
			place, next, left := Sweep(d.can, d.ref, d.hand)
			place1, next1, left1 := sweep(d.can, d.ref, d.hand)
			if place != place1 || next != next1 || !slices.Equal(left, left1) {
				t.Fatal(size, step, d, place, next, left)
			}
			d.ref, d.hand = left, next
			if place >= 0 {
				d.ref[place] = true
			}
			at := s.below(size)
			d.can[at] = !d.can[at]
			d.ref[s.below(size)] = true
		}
	}
}

// R3: the lists that are handed in are not changed, nor is the memory beyond their length.
func TestArguments(t *testing.T) {
	for _, can := range lists(3) {
		for _, ref := range lists(3) {
			for hand := range 3 {
				wholeCan, wholeRef := append(slices.Clone(can), y, n, y), append(slices.Clone(ref), y, n, y)
				wasCan, wasRef := slices.Clone(wholeCan), slices.Clone(wholeRef)
				Sweep(wholeCan[:3], wholeRef[:3], hand)
				Order(wholeCan[:3], wholeRef[:3], hand)
				if !slices.Equal(wholeCan, wasCan) || !slices.Equal(wholeRef, wasRef) {
					t.Fatal(can, ref, hand, wholeCan, wholeRef)
				}
			}
		}
	}
}

// R3: one list may be both, and is not changed.
func TestOneList(t *testing.T) {
	for _, both := range lists(4) {
		for hand := range 4 {
			was := slices.Clone(both)
			d := dial{both, both, hand}
			if !d.swept() || !d.ordered() || !slices.Equal(both, was) {
				t.Fatal(was, hand, both)
			}
		}
	}
}

// fill overwrites a list, and the memory beyond its length.
func fill[T any](l []T, with T) {
	l = l[:cap(l)]
	for i := range l {
		l[i] = with
	}
}

// R3: what Sweep and Order returned may be changed: nothing that was handed in is, and no later answer.
func TestResults(t *testing.T) {
	for _, can := range lists(4) {
		for _, ref := range lists(4) {
			d := dial{can, ref, 1}
			was := d.copy()
			_, _, left := Sweep(d.can, d.ref, d.hand)
			fill(left, true)
			_, _, left = Sweep(d.can, d.ref, d.hand)
			fill(left, false)
			fill(Order(d.can, d.ref, d.hand), -7)
			if !d.same(was) || !d.swept() || !d.ordered() {
				t.Fatal(was, d)
			}
		}
	}
}

// R3: what was returned is not changed by later calls.
func TestKept(t *testing.T) {
	can, ref := []bool{y, y, y, n}, []bool{y, n, y, y}
	_, _, left := Sweep(can, ref, 0)
	out := Order(can, ref, 0)
	each(4, func(d dial) {
		Sweep(d.can, d.ref, d.hand)
		Order(d.can, d.ref, d.hand)
		Sweep(can, left, d.hand)
		Order(can, left, d.hand)
	})
	if !slices.Equal(left, []bool{n, n, y, y}) || !slices.Equal(out, []int{1, 0, 2}) {
		t.Error(left, out)
	}
}

// R4: an answer is the same whatever was asked before.
func TestAgain(t *testing.T) {
	each(3, func(d dial) {
		place, next, left := Sweep(d.can, d.ref, d.hand)
		out := Order(d.can, d.ref, d.hand)
		Sweep([]bool{y, y}, []bool{y, y}, 1)
		Order([]bool{y, y}, []bool{y, n}, 1)
		place1, next1, left1 := Sweep(d.can, d.ref, d.hand)
		if place1 != place || next1 != next || !slices.Equal(left1, left) || !slices.Equal(Order(d.can, d.ref, d.hand), out) {
			t.Fatal(d)
		}
	})
}
