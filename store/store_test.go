package store

import (
	"bytes"
	"math"
	"slices"
	"testing"

	"orangery/api"
)

// fill is a block of one byte, again and again.
func fill(b byte) []byte {
	return bytes.Repeat([]byte{b}, 256)
}

// mixed is a block whose bytes differ from each other, and from those of other seeds.
func mixed(seed int) []byte {
	out := make([]byte, 256)
	for i := range out {
		out[i] = byte(i*7 + seed*13 + 1)
	}
	return out
}

// fresh returns a store of n blocks.
func fresh(t *testing.T, n int) *Store {
	t.Helper()
	s, code := New(n)
	if s == nil || code != api.OK {
		t.Fatal(n, code)
	}
	return s
}

// full returns a store of n blocks, all of them used; block id has the bytes mixed(id).
func full(t *testing.T, n int) *Store {
	t.Helper()
	s := fresh(t, n)
	for want := range n {
		if id, code := s.Alloc(); id != want || code != api.OK {
			t.Fatal(n, want, id, code)
		}
		if code := s.Write(want, mixed(want)); code != api.OK {
			t.Fatal(n, want, code)
		}
	}
	return s
}

// plain is what a store is to be: for each block its bytes, none if it is free.
type plain [][]byte

func (p plain) clone() plain {
	var out plain
	for _, b := range p {
		out = append(out, slices.Clone(b))
	}
	return out
}

func (p plain) alloc() (int, api.Errno) {
	for id, b := range p {
		if b == nil {
			p[id] = make([]byte, 256)
			return id, api.OK
		}
	}
	return 0, api.ErrFull
}

func (p plain) has(id int) bool {
	return id >= 0 && id < len(p) && p[id] != nil
}

func (p plain) free(id int) api.Errno {
	if !p.has(id) {
		return api.ErrNone
	}
	p[id] = nil
	return api.OK
}

func (p plain) write(id int, b []byte) api.Errno {
	if !p.has(id) {
		return api.ErrNone
	}
	if len(b) != 256 {
		return api.ErrArg
	}
	p[id] = slices.Clone(b)
	return api.OK
}

func (p plain) used() []int {
	var out []int
	for id := range p {
		if p.has(id) {
			out = append(out, id)
		}
	}
	return out
}

// outside are numbers of no block of a store of n.
func outside(n int) []int {
	return []int{-1, -2, -n, -256, math.MinInt, n, n + 1, 2 * n, 256, 257, 512, 1 << 32, math.MaxInt}
}

// state of a store, by its calls alone.
func state(s *Store, n int) plain {
	out := make(plain, n)
	for id := range n {
		if b, code := s.Read(id); code == api.OK {
			out[id] = b
		}
	}
	return out
}

// agrees tells whether all that can be asked of s is as p has it.
func agrees(s *Store, p plain) bool {
	used := s.Used()
	if !slices.Equal(used, p.used()) || s.Left() != len(p)-len(used) {
		return false
	}
	for _, id := range outside(len(p)) {
		if b, code := s.Read(id); code != api.ErrNone || len(b) != 0 {
			return false
		}
	}
	for id, want := range p {
		code := api.OK
		if want == nil {
			code = api.ErrNone
		}
		if b, code2 := s.Read(id); code2 != code || !bytes.Equal(b, want) {
			return false
		}
	}
	return true
}

// P12.1: a new store of each size has so many blocks, all of them free.
func TestNew(t *testing.T) {
	for n := 1; n <= 256; n++ {
		if s := fresh(t, n); !agrees(s, make(plain, n)) || s.Left() != n || len(s.Used()) != 0 {
			t.Error(n, s.Left(), s.Used())
		}
	}
}

// P12.1: sizes that are refused.
func TestNewWrong(t *testing.T) {
	for _, n := range []int{0, -1, -2, -256, math.MinInt, 257, 258, 512, 1 << 31, 1 << 32, 1<<32 + 1, math.MaxInt} {
		if s, code := New(n); s != nil || code != api.ErrArg {
			t.Error(n, s, code)
		}
	}
}

// P12.1: the chapter's example.
func TestExample(t *testing.T) {
	s := fresh(t, 2)
	for i, want := range []struct {
		id   int
		code api.Errno
	}{{0, api.OK}, {1, api.OK}, {0, api.ErrFull}} {
		if id, code := s.Alloc(); id != want.id || code != want.code {
			t.Error(i, id, code)
		}
	}
	if code := s.Free(0); code != api.OK {
		t.Error(code)
	}
	if id, code := s.Alloc(); id != 0 || code != api.OK {
		t.Error(id, code)
	}
	if id, code := s.Alloc(); id != 0 || code != api.ErrFull {
		t.Error(id, code)
	}
}

// P12.1: Alloc returns all numbers in order, and then ErrFull, as often as it is called; that changes nothing.
func TestAllocAll(t *testing.T) {
	for _, n := range []int{1, 2, 3, 255, 256} {
		s, p := fresh(t, n), make(plain, n)
		for want := range n {
			if id, code := s.Alloc(); id != want || code != api.OK {
				t.Fatal(n, want, id, code)
			}
			p.alloc()
			if !agrees(s, p) {
				t.Fatal("state", n, want)
			}
		}
		s = full(t, n)
		was := state(s, n)
		for range 3 {
			if id, code := s.Alloc(); id != 0 || code != api.ErrFull || !agrees(s, was) || s.Left() != 0 {
				t.Fatal("full", n, id, code)
			}
		}
	}
}

// P12.1: one block is freed, wherever it is: Alloc takes it, and nothing else changes.
func TestAllocOneFreed(t *testing.T) {
	for _, n := range []int{1, 2, 3, 7, 256} {
		for at := range n {
			s := full(t, n)
			want := state(s, n)
			if code := s.Free(at); code != api.OK {
				t.Fatal(n, at, code)
			}
			want.free(at)
			if !agrees(s, want) || s.Left() != 1 {
				t.Fatal("freed", n, at, s.Used())
			}
			if id, code := s.Alloc(); id != at || code != api.OK {
				t.Fatal(n, at, id, code)
			}
			want.alloc()
			if !agrees(s, want) {
				t.Fatal("allocated", n, at)
			}
		}
	}
}

// P12.1: whatever blocks are free, Alloc takes the smallest first, in whatever order they were freed.
func TestAllocSmallest(t *testing.T) {
	const n = 6
	for set := range 1 << n {
		for _, down := range []bool{false, true} {
			s := full(t, n)
			want := state(s, n)
			for i := range n {
				at := i
				if down {
					at = n - 1 - i
				}
				if set>>at&1 == 1 && s.Free(at) != want.free(at) {
					t.Fatal("free", set, down, at)
				}
			}
			for range n + 1 {
				if !agrees(s, want) {
					t.Fatal("state", set, down)
				}
				id, code := s.Alloc()
				if id2, code2 := want.alloc(); id != id2 || code != code2 {
					t.Fatal(set, down, id, code, id2, code2)
				}
			}
		}
	}
}

// P12.1: a block has bytes 0 when it is allocated, also if it was written, freed and allocated again.
func TestAllocZeros(t *testing.T) {
	s := fresh(t, 3)
	for round := range 4 {
		for want := range 3 {
			id, _ := s.Alloc()
			if b, code := s.Read(id); id != want || code != api.OK || !bytes.Equal(b, make([]byte, 256)) {
				t.Fatal(round, want, id, code, b)
			}
			s.Write(id, mixed(round))
		}
		for id := range 3 {
			s.Free(id)
		}
	}
	s.Alloc()
	s.Write(0, fill(255))
	s.Free(0)
	// The numbers of the others are greater: it is the same block that comes back.
	if id, _ := s.Alloc(); id != 0 {
		t.Fatal(id)
	}
	if b, _ := s.Read(0); !bytes.Equal(b, make([]byte, 256)) {
		t.Error(b)
	}
}

// P12.1: Free of what is no used block is refused and changes nothing.
func TestFreeWrong(t *testing.T) {
	for _, n := range []int{1, 2, 5, 256} {
		for _, s := range []*Store{fresh(t, n), full(t, n)} {
			was := state(s, n)
			for _, id := range outside(n) {
				if code := s.Free(id); code != api.ErrNone || !agrees(s, was) {
					t.Error(n, id, code)
				}
			}
		}
		s := full(t, n)
		for _, id := range []int{0, n - 1} {
			s.Free(id)
			was := state(s, n)
			for range 3 {
				if code := s.Free(id); code != api.ErrNone || !agrees(s, was) {
					t.Error("again", n, id, code)
				}
			}
		}
		bare := fresh(t, n)
		for id := range n {
			if code := bare.Free(id); code != api.ErrNone || bare.Left() != n {
				t.Error("fresh", n, id, code)
			}
		}
	}
}

// P12.2, P12.3: each block has what was written to it last, to the last byte, and the others keep theirs.
func TestWrite(t *testing.T) {
	for _, n := range []int{1, 2, 5, 256} {
		s := full(t, n)
		want := state(s, n)
		for id := range n {
			if b, code := s.Read(id); code != api.OK || !bytes.Equal(b, mixed(id)) {
				t.Fatal(n, id, code, b)
			}
		}
		for _, id := range []int{0, n / 2, n - 1} {
			for _, b := range [][]byte{fill(255), mixed(1000 + id), make([]byte, 256), fill(1), mixed(2000 + id)} {
				if code := s.Write(id, b); code != want.write(id, b) || code != api.OK || !agrees(s, want) {
					t.Fatal(n, id, code)
				}
			}
		}
	}
}

// P12.2: each byte of a block is one of its own.
func TestWriteEachByte(t *testing.T) {
	s := full(t, 3)
	for at := range 256 {
		b := make([]byte, 256)
		b[at] = 77
		if code := s.Write(1, b); code != api.OK {
			t.Fatal(at, code)
		}
		if got, code := s.Read(1); code != api.OK || !bytes.Equal(got, b) {
			t.Fatal(at, code, got)
		}
	}
	for _, id := range []int{0, 2} {
		if b, _ := s.Read(id); !bytes.Equal(b, mixed(id)) {
			t.Error(id, b)
		}
	}
}

// lengths that no block has.
func lengths() []int {
	return []int{0, 1, 2, 8, 128, 254, 255, 257, 258, 512, 65536}
}

// P12.2: bytes that are too few or too many are refused for a used block, and change nothing.
func TestWriteLength(t *testing.T) {
	s := full(t, 3)
	was := state(s, 3)
	for id := range 3 {
		for _, n := range lengths() {
			if code := s.Write(id, bytes.Repeat([]byte{9}, n)); code != api.ErrArg || !agrees(s, was) {
				t.Error(id, n, code)
			}
		}
		if code := s.Write(id, nil); code != api.ErrArg || !agrees(s, was) {
			t.Error(id, code)
		}
	}
	// It is the length that counts, and not the memory behind it.
	for _, n := range []int{0, 255} {
		if code := s.Write(1, fill(9)[:n]); code != api.ErrArg || !agrees(s, was) {
			t.Error(n, code)
		}
	}
}

// P12.2: of a number that is no used block ErrNone is the answer, whatever the bytes are; nothing changes.
func TestWriteNone(t *testing.T) {
	for _, n := range []int{1, 2, 5, 256} {
		s := full(t, n)
		for _, id := range []int{0, n - 1} {
			s.Free(id)
		}
		was := state(s, n)
		for _, id := range append(outside(n), 0, n-1) {
			for _, b := range [][]byte{nil, {}, {1}, fill(9)[:255], fill(9), append(fill(9), 9)} {
				if code := s.Write(id, b); code != api.ErrNone || !agrees(s, was) {
					t.Error(n, id, len(b), code)
				}
			}
		}
		// What was refused is not there when the block is used again.
		for range min(n, 2) {
			id, _ := s.Alloc()
			if b, _ := s.Read(id); !bytes.Equal(b, make([]byte, 256)) {
				t.Error("allocated", n, id)
			}
		}
	}
}

// P12.2: Read of what is no used block has no bytes, also if the block was used before.
func TestReadNone(t *testing.T) {
	for _, n := range []int{1, 2, 5, 256} {
		s := full(t, n)
		for _, id := range outside(n) {
			if b, code := s.Read(id); len(b) != 0 || code != api.ErrNone {
				t.Error(n, id, b, code)
			}
		}
		for id := range n {
			s.Free(id)
			if b, code := s.Read(id); len(b) != 0 || code != api.ErrNone {
				t.Error("freed", n, id, b, code)
			}
		}
		bare := fresh(t, n)
		for id := range n {
			if b, code := bare.Read(id); len(b) != 0 || code != api.ErrNone {
				t.Error("fresh", n, id, b, code)
			}
		}
	}
}

// P12.2: Used ascends, in whatever order blocks were freed, and Left is what it leaves.
func TestUsed(t *testing.T) {
	s := full(t, 256)
	left := 0
	for i := range 256 {
		at := i * 37 % 256
		used := s.Used()
		if len(used) != 256-left || s.Left() != left || !slices.IsSorted(used) || !slices.Contains(used, at) {
			t.Fatal(i, used, s.Left())
		}
		s.Free(at)
		left++
		if slices.Contains(s.Used(), at) || s.Left() != left {
			t.Fatal("freed", i, s.Used(), s.Left())
		}
	}
	if len(s.Used()) != 0 || s.Left() != 256 {
		t.Error(s.Used(), s.Left())
	}
}

// P12.3: the used blocks and those that can still be allocated are together all blocks, each of them once.
func TestAllBlocks(t *testing.T) {
	const n = 7
	for set := range 1 << n {
		s := full(t, n)
		for id := range n {
			if set>>id&1 == 1 {
				s.Free(id)
			}
		}
		all := s.Used()
		for range s.Left() {
			id, code := s.Alloc()
			if code != api.OK {
				t.Fatal(set, code)
			}
			all = append(all, id)
		}
		slices.Sort(all)
		if _, code := s.Alloc(); code != api.ErrFull || !slices.Equal(all, []int{0, 1, 2, 3, 4, 5, 6}) {
			t.Error(set, all, code)
		}
	}
}

// P12.2: what is done to a copy is not to be seen in the original, and what is done to the original not in the copy.
func TestCopy(t *testing.T) {
	for i, change := range []func(s *Store){
		func(s *Store) { s.Alloc() },
		func(s *Store) { s.Alloc(); s.Alloc() },
		func(s *Store) { s.Free(0) },
		func(s *Store) { s.Free(3) },
		func(s *Store) { s.Write(0, fill(9)) },
		func(s *Store) { s.Write(3, mixed(9)) },
		func(s *Store) { s.Alloc(); s.Write(1, fill(9)) },
		func(s *Store) { s.Free(0); s.Alloc(); s.Write(0, fill(9)) },
		func(s *Store) { s.Free(0); s.Free(2); s.Free(3) },
	} {
		for _, other := range []bool{false, true} {
			s := full(t, 4)
			s.Free(1)
			was := state(s, 4)
			c := s.Copy()
			if c == nil || c == s || !agrees(c, was) || !agrees(s, was) {
				t.Fatal("copy", i)
			}
			changed, kept := s, c
			if other {
				changed, kept = c, s
			}
			change(changed)
			if agrees(changed, was) || !agrees(kept, was) {
				t.Error(i, other)
			}
			// What is done to both comes to the same.
			change(kept)
			if !agrees(kept, state(changed, 4)) {
				t.Error("both", i, other)
			}
		}
	}
}

// P12.2: copies of all sizes, of stores without used blocks, with some and with all; and a copy of a copy.
func TestCopySizes(t *testing.T) {
	for _, n := range []int{1, 2, 255, 256} {
		s := fresh(t, n)
		if c := s.Copy(); !agrees(c, make(plain, n)) {
			t.Error("free", n)
		}
		s = full(t, n)
		s.Free(n / 2)
		was := state(s, n)
		c := s.Copy()
		d := c.Copy()
		for _, x := range []*Store{s, c, d} {
			if !agrees(x, was) {
				t.Error("copy", n)
			}
		}
		c.Write(0, fill(9))
		c.Alloc()
		c.Write(n/2, fill(9))
		if !agrees(s, was) || !agrees(d, was) {
			t.Error("apart", n)
		}
		if id, code := d.Alloc(); id != n/2 || code != api.OK {
			t.Error("alloc", n, id, code)
		}
		if b, _ := d.Read(n / 2); !bytes.Equal(b, make([]byte, 256)) || !agrees(s, was) {
			t.Error("zeros", n)
		}
	}
}

// P12.2, P12.3: one store is copied at each step of a long life; no copy changes any more.
func TestCopiesKept(t *testing.T) {
	s := fresh(t, 4)
	var copies []*Store
	var states []plain
	for i := range 40 {
		switch i % 5 {
		case 0, 3:
			s.Alloc()
		case 1, 2:
			s.Write(i%4, mixed(i))
		case 4:
			s.Free(i * 3 % 4)
		}
		copies, states = append(copies, s.Copy()), append(states, state(s, 4))
	}
	for i, c := range copies {
		if !agrees(c, states[i]) {
			t.Error(i)
		}
	}
}

// R3: what is handed to Write is not changed, nor the memory behind it, and may be changed afterwards.
func TestWriteKeepsNothing(t *testing.T) {
	for _, id := range []int{0, 2, 3, -1} {
		for _, n := range []int{0, 255, 256, 257} {
			s := full(t, 3)
			all := mixed(50)
			all = append(all, mixed(51)...)
			was := slices.Clone(all)
			s.Write(id, all[:n])
			after := state(s, 3)
			if !bytes.Equal(all, was) {
				t.Error("changed", id, n)
			}
			clear(all)
			if !agrees(s, after) {
				t.Error("kept", id, n)
			}
			s.Write(0, fill(1))
			if !bytes.Equal(all, make([]byte, 512)) {
				t.Error("later", id, n)
			}
		}
	}
	// The same bytes for two blocks: each has them for itself.
	s := full(t, 2)
	b := mixed(50)
	s.Write(0, b)
	s.Write(1, b)
	s.Write(0, fill(1))
	if got, _ := s.Read(1); !bytes.Equal(got, mixed(50)) || !bytes.Equal(b, got) {
		t.Error("two")
	}
}

// R3: what Read returned may be changed without changing the store, and no later call changes it.
func TestReadSharesNothing(t *testing.T) {
	s := full(t, 3)
	was := state(s, 3)
	for id := range 3 {
		b, _ := s.Read(id)
		again, _ := s.Read(id)
		clear(b[:cap(b)])
		if !agrees(s, was) || !bytes.Equal(again, was[id]) {
			t.Error("shared", id)
		}
	}
	before, _ := s.Read(1)
	s.Write(1, fill(9))
	s.Free(1)
	s.Alloc()
	s.Write(1, fill(8))
	if !bytes.Equal(before, was[1]) {
		t.Error("later", before)
	}
	// What was read may be written again, to this block and to others.
	copied, _ := s.Read(2)
	s.Write(0, copied)
	copied[0]++
	if b, _ := s.Read(0); !bytes.Equal(b, was[2]) {
		t.Error("written")
	}
}

// R3: what Used returned may be changed without changing the store, and no later call changes it.
func TestUsedSharesNothing(t *testing.T) {
	s := full(t, 5)
	s.Free(3)
	was := state(s, 5)
	used, again := s.Used(), s.Used()
	for i := range used[:cap(used)] {
		used[:cap(used)][i] = 3
	}
	if !agrees(s, was) || !slices.Equal(again, []int{0, 1, 2, 4}) {
		t.Error("shared", s.Used(), again)
	}
	s.Free(0)
	s.Alloc()
	s.Alloc()
	s.Free(4)
	s.Used()
	if !slices.Equal(again, []int{0, 1, 2, 4}) {
		t.Error("later", again)
	}
}

// R4: two stores have nothing to do with each other.
func TestApart(t *testing.T) {
	a, b := full(t, 3), full(t, 3)
	was := state(b, 3)
	a.Write(0, fill(9))
	a.Free(1)
	if !agrees(b, was) {
		t.Error("apart")
	}
	bare := fresh(t, 3)
	full(t, 3)
	if !agrees(bare, make(plain, 3)) {
		t.Error("fresh")
	}
}

// change is made to a store and to what it is to be; it tells whether both had the same answers.
type change func(s *Store, p plain, seed int) bool

// changes of a store of n, with a number too small and one too great.
func changes(n int) []change {
	out := []change{func(s *Store, p plain, _ int) bool {
		id, code := s.Alloc()
		id2, code2 := p.alloc()
		return id == id2 && code == code2
	}}
	for id := -1; id <= n; id++ {
		out = append(out, func(s *Store, p plain, _ int) bool { return s.Free(id) == p.free(id) })
		out = append(out, func(s *Store, p plain, seed int) bool { return s.Write(id, mixed(seed)) == p.write(id, mixed(seed)) })
	}
	return append(out, func(s *Store, p plain, seed int) bool {
		return s.Write(0, mixed(seed)[:255]) == p.write(0, mixed(seed)[:255])
	})
}

// P12.1, P12.2, P12.3: all sequences of five changes of a store of two blocks; copies along the way keep what they had.
func TestSequences(t *testing.T) {
	all := changes(2)
	var from func(s *Store, p plain, depth int) bool
	from = func(s *Store, p plain, depth int) bool {
		if !agrees(s, p) {
			return false
		}
		if depth == 0 {
			return true
		}
		for i, step := range all {
			c, q := s.Copy(), p.clone()
			if !step(c, q, depth*16+i) || !from(c, q, depth-1) {
				t.Error("step", depth, i)
				return false
			}
		}
		return agrees(s, p)
	}
	from(fresh(t, 2), make(plain, 2), 5)
}

// P12.1, P12.2, P12.3: long lives of stores of many sizes.
func TestLives(t *testing.T) {
	seed := uint64(1)
	next := func(below int) int {
		seed = seed*6364136223846793005 + 1442695040888963407
		return int((seed >> 33) % uint64(below))
	}
	for _, n := range []int{1, 2, 3, 8, 31, 255, 256} {
		s, p, all := fresh(t, n), make(plain, n), changes(n)
		for i := range 3000 {
			step := all[0]
			if next(2) == 0 {
				step = all[next(len(all))]
			}
			if !step(s, p, i) {
				t.Fatal("answer", n, i)
			}
			if i%50 == 0 && !agrees(s, p) {
				t.Fatal("state", n, i)
			}
			if i%97 == 0 {
				s = s.Copy()
			}
		}
		if !agrees(s, p) {
			t.Fatal("end", n)
		}
	}
}
