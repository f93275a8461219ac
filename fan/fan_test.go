package fan

import (
	"math"
	"slices"
	"testing"

	"orangery/api"
	"orangery/key"
)

const ones = "\xff\xff\xff\xff\xff\xff\xff\xff" // the greatest key

func kk(s string) api.Key {
	k, _ := key.Of(s)
	return k
}

func keys(l ...string) []api.Key {
	var out []api.Key
	for _, s := range l {
		out = append(out, kk(s))
	}
	return out
}

// texts of keys, ascending: the least and the greatest, and some that stand side by side.
func texts() []string {
	return []string{"", "\x00", "a", "a\x00", "ab", "b", "b\x00\x00", ones}
}

// between: the texts, and what is below, between and above them.
func between() []string {
	return append(texts(), "\x00\x00", "\x01", "Z", "a\x00\x00", "aa", "abcdefgh", "b\x00", "c", "\x80", ones[:7])
}

// ladders: one for each choice among the texts of at most n of them.
func ladders(n int) [][]api.Key {
	var out [][]api.Key
	for set := range 1 << len(texts()) {
		var l []api.Key
		for i, s := range texts() {
			if set>>i&1 == 1 {
				l = append(l, kk(s))
			}
		}
		if len(l) <= n {
			out = append(out, l)
		}
	}
	return out
}

// fan is what an inner node has of children.
type fan struct {
	kids   []int
	pivots []api.Key
}

// fans are valid: with two, three and four children, which are the least and the greatest blocks and others, in many orders.
func fans() []fan {
	var out []fan
	for i, pivots := range ladders(3) {
		if len(pivots) > 0 {
			ids := [][]int{{1, 255, 2, 254}, {255, 1, 9, 8}, {4, 5, 6, 7}, {100, 30, 200, 1}, {2, 3, 1, 255}}[i%5]
			out = append(out, fan{ids[:len(pivots)+1], pivots})
		}
	}
	return out
}

// badKeys are not valid.
func badKeys() []api.Key {
	return []api.Key{
		{N: -1}, {N: 9}, {N: math.MinInt}, {N: math.MaxInt}, {B: [8]byte{97}}, {B: [8]byte{7: 1}},
		{N: 1, B: [8]byte{97, 98}}, {N: 7, B: kk(ones).B}, {N: 9, B: kk(ones).B}, {N: 2, B: [8]byte{97, 98, 99}},
	}
}

// badKids: too few, too many, blocks that are none or the root, and blocks that come twice.
func badKids() [][]int {
	return [][]int{
		nil, {}, {1}, {255}, {0}, {1, 2, 3, 4, 5}, {1, 2, 3, 4, 5, 6, 7, 8}, {1, 1, 1, 1, 1},
		{0, 1}, {1, 0}, {0, 0}, {1, 2, 0}, {1, 0, 2, 3}, {1, 2, 3, 0}, {256, 1}, {1, 256}, {1, 2, 256}, {1, 2, 3, 256}, {257, 2}, {1, 1 << 32},
		{-1, 1}, {1, -1}, {-1, -2}, {1, 2, -3}, {1, 2, 3, -4}, {math.MinInt, 1}, {1, math.MaxInt}, {1, math.MinInt}, {-255, 5}, {1<<32 + 1, 2},
		{1, 1}, {255, 255}, {1, 1, 2}, {1, 2, 1}, {2, 1, 1}, {1, 1, 2, 3}, {1, 2, 1, 3}, {1, 2, 3, 1}, {2, 1, 1, 3}, {2, 1, 3, 1}, {2, 3, 1, 1}, {1, 2, 2, 1}, {3, 3, 3, 3},
	}
}

// badLadders: pivots that do not ascend, that come twice, and that are not valid, at each place.
func badLadders() [][]api.Key {
	l := [][]api.Key{
		keys("b", "a"), keys("a", "a"), keys("", ""), keys("\x00", ""), keys("a\x00", "a"), keys("ab", "a"), keys("\x80", "a"), keys(ones, ones), keys(ones, ones[:7]),
		keys("b", "a", "c"), keys("c", "b", "a"), keys("a", "c", "b"), keys("b", "c", "a"), keys("c", "a", "b"), keys("a", "a", "b"), keys("a", "b", "b"), keys("a", "b", "a"), keys("", "", ""),
	}
	for _, k := range badKeys() {
		l = append(l, []api.Key{k}, []api.Key{k, kk("c")}, []api.Key{kk(""), k}, []api.Key{k, kk("c"), kk("d")}, []api.Key{kk(""), k, kk("c")}, []api.Key{kk(""), kk("\x00"), k}, []api.Key{k, k})
	}
	return l
}

// some blocks, none of them twice, with pivots that ascend: n of these, at most 200.
func some(n int) fan {
	var f fan
	for i := range n + 1 {
		f.kids = append(f.kids, i+1)
	}
	for i := range n {
		f.pivots = append(f.pivots, kk(string([]byte{'k', byte(i)})))
	}
	return f
}

// P8.1: two to four blocks, each once, with a pivot less, are valid in whatever order the blocks are.
func TestCheck(t *testing.T) {
	for i, f := range append(fans(),
		fan{[]int{1, 2}, keys("a")}, fan{[]int{2, 1}, keys("")}, fan{[]int{1, 255}, keys(ones)}, fan{[]int{255, 254}, keys("abcdefgh")},
		fan{[]int{4, 5, 6}, keys("d", "m")}, fan{[]int{6, 4, 5}, keys("", "\x00")}, fan{[]int{254, 1, 255}, keys(ones[:7], ones)},
		fan{[]int{4, 5, 6, 7}, keys("d", "m", "p")}, fan{[]int{255, 7, 1, 9}, keys("", "a", "b")}, fan{[]int{255, 254, 253, 252}, keys("a", "a\x00", "a\x00\x00")}) {
		if !Check(f.kids, f.pivots) {
			t.Error(i, f)
		}
	}
}

// P8.1: what is wrong with the kids alone is seen, with as many pivots as belong to them.
func TestCheckBadKids(t *testing.T) {
	for i, kids := range badKids() {
		if Check(kids, some(max(0, len(kids)-1)).pivots) {
			t.Error(i, kids)
		}
	}
	for n := range 60 {
		f := some(n)
		if want := n >= 1 && n <= 3; Check(f.kids, f.pivots) != want {
			t.Error(n, !want)
		}
	}
	if Check(nil, nil) || Check([]int{}, []api.Key{}) || Check(nil, keys("a")) || Check([]int{1}, nil) {
		t.Error("too few")
	}
}

// P8.1: what is wrong with the pivots alone is seen, with as many kids as belong to them.
func TestCheckBadPivots(t *testing.T) {
	for i, pivots := range badLadders() {
		if Check(some(len(pivots)).kids, pivots) {
			t.Error(i, pivots)
		}
	}
}

// P8.1: there is one pivot less than kids, not more and not fewer.
func TestCheckCounts(t *testing.T) {
	for n := range 8 {
		for m := range 8 {
			want := n >= 2 && n <= 4 && m == n-1
			if got := Check(some(7).kids[:n], some(7).pivots[:m]); got != want {
				t.Error(n, m, got)
			}
		}
	}
}

// P8.1: of all lists of two, three and four numbers just those are valid that have blocks beside the root, each once.
func TestCheckEachKids(t *testing.T) {
	ids := []int{-1, 0, 1, 2, 128, 254, 255, 256}
	count := 0
	for a := range ids {
		for b := range ids {
			for c := range ids {
				for d := range ids {
					four := []int{ids[a], ids[b], ids[c], ids[d]}
					for n := 2; n <= 4; n++ {
						want := true
						for i, id := range four[:n] {
							want = want && id > 0 && id < 256 && !slices.Contains(four[:i], id)
						}
						if got := Check(four[:n], some(n-1).pivots); got != want {
							t.Fatal(four[:n], got)
						}
						if want && n == 4 {
							count++
						}
					}
				}
			}
		}
	}
	if count != 5*4*3*2 {
		t.Error(count)
	}
}

// P8.1: each block from 1 to 255, and no other one, may be the first child, the last or one between.
func TestCheckEachBlock(t *testing.T) {
	for id := -300; id < 600; id++ {
		for at := range 4 {
			kids := []int{1, 2, 3, 4}
			kids[at] = id
			want := id == at+1 || id > 4 && id < 256
			if got := Check(kids, keys("a", "b", "c")); got != want {
				t.Error(kids, got)
			}
		}
	}
}

// P8.1: of all lists of three texts just those are valid that ascend at each step.
func TestCheckEachPivots(t *testing.T) {
	for _, a := range between() {
		for _, b := range between() {
			for _, c := range between() {
				if got := Check([]int{7, 9, 8, 1}, keys(a, b, c)); got != (a < b && b < c) {
					t.Fatalf("%q %q %q: %v", a, b, c, got)
				}
				if got := Check([]int{7, 9, 8}, keys(a, b)); got != (a < b) {
					t.Fatalf("%q %q: %v", a, b, got)
				}
			}
		}
	}
}

// P8.2: the chapter's example, keys equal to a pivot, and below, between and above the pivots.
func TestKidExamples(t *testing.T) {
	for i, x := range []struct {
		pivots []api.Key
		k      string
		want   int
	}{
		{keys("d", "m"), "a", 0}, {keys("d", "m"), "d", 1}, {keys("d", "m"), "z", 2},
		{keys("d", "m"), "", 0}, {keys("d", "m"), "c\xff\xff\xff\xff\xff\xff\xff", 0}, {keys("d", "m"), "d\x00", 1}, {keys("d", "m"), "l", 1}, {keys("d", "m"), "m", 2}, {keys("d", "m"), "m\x00", 2}, {keys("d", "m"), ones, 2},
		{nil, "", 0}, {nil, "a", 0}, {[]api.Key{}, ones, 0},
		{keys("a"), "", 0}, {keys("a"), "\x00", 0}, {keys("a"), "Z", 0}, {keys("a"), "a", 1}, {keys("a"), "a\x00", 1}, {keys("a"), "b", 1}, {keys("a"), "\x80", 1},
		{keys(""), "", 1}, {keys(""), "\x00", 1}, {keys(""), ones, 1}, {keys(ones), ones, 1}, {keys(ones), ones[:7], 0}, {keys(ones), "", 0},
		{keys("", "\x00", ones), "", 1}, {keys("", "\x00", ones), "\x00", 2}, {keys("", "\x00", ones), ones[:7], 2}, {keys("", "\x00", ones), ones, 3},
		{keys("d", "m", "p"), "c", 0}, {keys("d", "m", "p"), "d", 1}, {keys("d", "m", "p"), "e", 1}, {keys("d", "m", "p"), "m", 2}, {keys("d", "m", "p"), "o", 2}, {keys("d", "m", "p"), "p", 3}, {keys("d", "m", "p"), "q", 3},
		{keys("ab", "abc"), "a", 0}, {keys("ab", "abc"), "abb", 1}, {keys("ab", "abc"), "abc\x00", 2},
	} {
		if got := Kid(x.pivots, kk(x.k)); got != x.want {
			t.Errorf("%d %q: %d %d", i, x.k, got, x.want)
		}
	}
}

// P8.2: as many as there are texts that are not above, in lists of every length.
func TestKidEach(t *testing.T) {
	for _, pivots := range append(ladders(8), some(150).pivots) {
		for _, s := range append(between(), "k", "k\x00", "k\x00\x00", "k\x31", "k\x32a", "k\x94", "k\x95", "k\x96", "l") {
			want := 0
			for _, p := range pivots {
				if key.Text(p) <= s {
					want++
				}
			}
			if got := Kid(pivots, kk(s)); got != want {
				t.Fatalf("%v %q: %d", pivots, s, got)
			}
		}
	}
}

// P8.2: the first place, of a number that is there once, often or not at all; the numbers may be any.
func TestPlaceExamples(t *testing.T) {
	for i, x := range []struct {
		kids []int
		id   int
		want int
	}{
		{nil, 3, -1}, {[]int{}, 0, -1}, {nil, 0, -1}, {nil, -1, -1}, {[]int{5}, 5, 0}, {[]int{5}, 3, -1}, {[]int{5}, 0, -1}, {[]int{5}, -1, -1},
		{[]int{5, 3}, 5, 0}, {[]int{5, 3}, 3, 1}, {[]int{5, 3}, 4, -1}, {[]int{4, 5, 6, 7}, 4, 0}, {[]int{4, 5, 6, 7}, 7, 3}, {[]int{4, 5, 6, 7}, 8, -1}, {[]int{1, 255}, 1, 0}, {[]int{1, 255}, 255, 1}, {[]int{255, 254}, 256, -1},
		{[]int{5, 3, 5}, 5, 0}, {[]int{3, 5, 5}, 5, 1}, {[]int{3, 5, 3, 5}, 5, 1}, {[]int{5, 5, 5, 5}, 5, 0}, {[]int{9, 8, 7, 7, 9, 8}, 8, 1},
		{[]int{0, 1}, 0, 0}, {[]int{1, 0}, 0, 1}, {[]int{1, -1}, -1, 1}, {[]int{256, 1}, 256, 0}, {[]int{0, 0}, 0, 0},
		{[]int{math.MinInt, math.MaxInt}, math.MaxInt, 1}, {[]int{math.MaxInt, math.MinInt}, math.MinInt, 1}, {[]int{1<<32 + 1, 1}, 1, 1}, {[]int{257, 1}, 1, 1},
	} {
		if got := Place(x.kids, x.id); got != x.want {
			t.Error(i, got, x.want)
		}
	}
}

func TestPlaceEach(t *testing.T) {
	for n := range 300 {
		var l []int
		for i := range n {
			l = append(l, i*i%101-30)
		}
		for id := -35; id < 75; id++ {
			want := -1
			for i := n - 1; i >= 0; i-- {
				if l[i] == id {
					want = i
				}
			}
			if got := Place(l, id); got != want {
				t.Fatal(n, id, got, want)
			}
		}
	}
}

// P8.2: the chapter's example, the first and the last child, two kids and as many as may be, and what is no index.
func TestInsertExamples(t *testing.T) {
	two, three, four := fan{[]int{1, 255}, keys("m")}, fan{[]int{4, 5, 6}, keys("d", "m")}, fan{[]int{4, 5, 6, 7}, keys("d", "m", "p")}
	for n, x := range []struct {
		from   fan
		i      int
		pivot  string
		id     int
		kids   []int
		pivots []api.Key
	}{
		{three, 1, "x", 9, []int{4, 5, 9, 6}, keys("d", "x", "m")},
		{three, 0, "x", 9, []int{4, 9, 5, 6}, keys("x", "d", "m")}, {three, 2, "x", 9, []int{4, 5, 6, 9}, keys("d", "m", "x")}, {three, 1, "e", 255, []int{4, 5, 255, 6}, keys("d", "e", "m")},
		{two, 0, "c", 2, []int{1, 2, 255}, keys("c", "m")}, {two, 1, "p", 2, []int{1, 255, 2}, keys("m", "p")}, {two, 0, "", 254, []int{1, 254, 255}, keys("", "m")}, {two, 1, ones, 254, []int{1, 255, 254}, keys("m", ones)},
		{four, 0, "a", 1, []int{4, 1, 5, 6, 7}, keys("a", "d", "m", "p")}, {four, 1, "e", 1, []int{4, 5, 1, 6, 7}, keys("d", "e", "m", "p")}, {four, 2, "n", 1, []int{4, 5, 6, 1, 7}, keys("d", "m", "n", "p")}, {four, 3, "z", 1, []int{4, 5, 6, 7, 1}, keys("d", "m", "p", "z")},
		{three, 0, "m", 4, []int{4, 4, 5, 6}, keys("m", "d", "m")}, {three, 2, "", 5, []int{4, 5, 6, 5}, keys("d", "m", "")}, {three, 1, "d", 0, []int{4, 5, 0, 6}, keys("d", "d", "m")}, {three, 1, "z", -1, []int{4, 5, -1, 6}, keys("d", "z", "m")}, {three, 0, "z", 256, []int{4, 256, 5, 6}, keys("z", "d", "m")},

		{three, 3, "x", 9, three.kids, three.pivots}, {three, -1, "x", 9, three.kids, three.pivots}, {three, 4, "x", 9, three.kids, three.pivots}, {three, math.MaxInt, "x", 9, three.kids, three.pivots}, {three, math.MinInt, "x", 9, three.kids, three.pivots}, {three, math.MaxInt - 1, "x", 9, three.kids, three.pivots},
		{two, 2, "x", 9, two.kids, two.pivots}, {two, -1, "x", 9, two.kids, two.pivots}, {four, 4, "x", 9, four.kids, four.pivots}, {four, -1, "x", 9, four.kids, four.pivots}, {four, 5, "x", 9, four.kids, four.pivots}, {three, 1 << 32, "x", 9, three.kids, three.pivots},
		{fan{}, 0, "x", 9, nil, nil}, {fan{}, -1, "x", 9, nil, nil}, {fan{[]int{}, []api.Key{}}, 1, "x", 9, nil, nil},
	} {
		kids, pivots := Insert(x.from.kids, x.from.pivots, x.i, kk(x.pivot), x.id)
		if !slices.Equal(kids, x.kids) || !slices.Equal(pivots, x.pivots) {
			t.Error(n, kids, pivots)
		}
	}
}

// P8.2: the pivot need not be valid, nor in order, nor the id a block; all else stays as it is.
func TestInsertEach(t *testing.T) {
	pivots := append(badKeys(), keys(between()...)...)
	for n, f := range fans() {
		for i := -3; i < len(f.kids)+3; i++ {
			for at, id := range []int{0, 1, 2, 77, 255, 256, -1, math.MaxInt, math.MinInt} {
				p := pivots[(n*3+i+3+at*5)%len(pivots)]
				wantKids, wantPivots := slices.Clone(f.kids), slices.Clone(f.pivots)
				if i >= 0 && i < len(f.kids) {
					wantKids, wantPivots = slices.Insert(wantKids, i+1, id), slices.Insert(wantPivots, i, p)
				}
				kids, got := Insert(f.kids, f.pivots, i, p, id)
				if !slices.Equal(kids, wantKids) || !slices.Equal(got, wantPivots) {
					t.Fatal(f, i, p, id, kids, got)
				}
			}
		}
	}
}

// P8.3: the chapter's example, the least and the greatest blocks and keys; and what has fewer children.
func TestHalvesExamples(t *testing.T) {
	for i, x := range []struct{ from, left, right fan }{
		{fan{[]int{4, 5, 6, 7}, keys("d", "m", "p")}, fan{[]int{4, 5}, keys("d")}, fan{[]int{6, 7}, keys("p")}},
		{fan{[]int{255, 1, 254, 2}, keys("", "m", ones)}, fan{[]int{255, 1}, keys("")}, fan{[]int{254, 2}, keys(ones)}},
		{fan{[]int{7, 6, 5, 4}, keys("a", "m", "m\x00")}, fan{[]int{7, 6}, keys("a")}, fan{[]int{5, 4}, keys("m\x00")}},
	} {
		lk, lp, mid, rk, rp, ok := Halves(x.from.kids, x.from.pivots)
		if !slices.Equal(lk, x.left.kids) || !slices.Equal(lp, x.left.pivots) || mid != kk("m") || !slices.Equal(rk, x.right.kids) || !slices.Equal(rp, x.right.pivots) || !ok {
			t.Error(i, lk, lp, mid, rk, rp, ok)
		}
	}
	for i, f := range []fan{{[]int{4, 5, 6}, keys("d", "m")}, {[]int{255, 1, 254}, keys("", ones)}, {[]int{4, 5}, keys("d")}, {[]int{1, 255}, keys("")}, {[]int{4}, nil}, {}, {[]int{}, []api.Key{}}} {
		lk, lp, mid, rk, rp, ok := Halves(f.kids, f.pivots)
		if len(lk)+len(lp)+len(rk)+len(rp) != 0 || mid != (api.Key{}) || ok {
			t.Error(i, lk, lp, mid, rk, rp, ok)
		}
	}
}

// P8.3: the halves and the pivot in the middle are the whole, and each half is valid.
func TestHalvesEach(t *testing.T) {
	count := 0
	for _, f := range fans() {
		lk, lp, mid, rk, rp, ok := Halves(f.kids, f.pivots)
		if ok != (len(f.kids) == 4) {
			t.Fatal(f, ok)
		}
		if !ok {
			if len(lk)+len(lp)+len(rk)+len(rp) != 0 || mid != (api.Key{}) {
				t.Fatal(f, lk, lp, mid, rk, rp)
			}
			continue
		}
		count++
		if len(lk) != 2 || len(lp) != 1 || !slices.Equal(slices.Concat(lk, rk), f.kids) || !slices.Equal(slices.Concat(lp, []api.Key{mid}, rp), f.pivots) || !Check(lk, lp) || !Check(rk, rp) {
			t.Fatal(f, lk, lp, mid, rk, rp)
		}
	}
	if count != 56 {
		t.Error(count)
	}
}

// P8.4: each key belongs to just one child: it is not below the pivot ahead of it, and below the one behind it.
func TestOneChild(t *testing.T) {
	for _, f := range fans() {
		for _, s := range between() {
			var of []int
			for i := range f.kids {
				if (i == 0 || key.Text(f.pivots[i-1]) <= s) && (i == len(f.pivots) || s < key.Text(f.pivots[i])) {
					of = append(of, i)
				}
			}
			if len(of) != 1 || of[0] != Kid(f.pivots, kk(s)) {
				t.Fatalf("%v %q: %v", f, s, of)
			}
		}
	}
}

// P8.4: in its half a key belongs to the same child as in the whole.
func TestOneChildOfHalves(t *testing.T) {
	for _, f := range fans() {
		lk, lp, mid, rk, rp, ok := Halves(f.kids, f.pivots)
		for _, s := range between() {
			if !ok {
				continue
			}
			kids, pivots := lk, lp
			if s >= key.Text(mid) {
				kids, pivots = rk, rp
			}
			if kids[Kid(pivots, kk(s))] != f.kids[Kid(f.pivots, kk(s))] {
				t.Fatalf("%v %q", f, s)
			}
		}
	}
}

// P8.4: if a child is divided at a key of its own, the keys from that one on belong to the new child, and all others where they did.
func TestOneChildOfInsert(t *testing.T) {
	const id = 77
	for _, f := range fans() {
		for _, at := range between() {
			i := Kid(f.pivots, kk(at))
			if slices.Contains(f.pivots, kk(at)) {
				continue
			}
			kids, pivots := Insert(f.kids, f.pivots, i, kk(at), id)
			if Check(kids, pivots) != (len(kids) <= 4) || Place(kids, id) != i+1 {
				t.Fatalf("%v %q: %v %v", f, at, kids, pivots)
			}
			for _, s := range between() {
				want := f.kids[Kid(f.pivots, kk(s))]
				if want == f.kids[i] && s >= at {
					want = id
				}
				if got := kids[Kid(pivots, kk(s))]; got != want {
					t.Fatalf("%v %q %q: %d %d", f, at, s, got, want)
				}
			}
		}
	}
}

// R1: of what is not valid nothing is said but that the calls end.
func TestBadEnd(t *testing.T) {
	ladders := append(badLadders(), nil, []api.Key{}, keys("a"), keys("a", "b", "c"), badKeys(), some(40).pivots)
	for _, kids := range append(badKids(), []int{1, 2, 3, 4}, []int{9, 8}, some(40).kids) {
		for _, pivots := range ladders {
			for _, k := range append(badKeys(), kk(""), kk("b"), kk(ones)) {
				for _, i := range []int{math.MinInt, -1, 0, 1, 2, 3, 4, len(kids) - 1, len(kids), len(pivots) - 1, len(pivots), len(pivots) + 1, math.MaxInt} {
					Insert(kids, pivots, i, k, i)
				}
				Kid(pivots, k)
			}
			Check(kids, pivots)
			Halves(kids, pivots)
		}
	}
}

// results are the lists of all calls with f that have lists.
func results(f fan) []fan {
	var out []fan
	for i := -1; i <= len(f.kids); i++ {
		kids, pivots := Insert(f.kids, f.pivots, i, kk("q"), 99)
		out = append(out, fan{kids, pivots})
	}
	lk, lp, _, rk, rp, _ := Halves(f.kids, f.pivots)
	return append(out, fan{lk, lp}, fan{rk, rp})
}

func clone(f fan) fan {
	return fan{slices.Clone(f.kids), slices.Clone(f.pivots)}
}

func clones(l []fan) []fan {
	var out []fan
	for _, f := range l {
		out = append(out, clone(f))
	}
	return out
}

func equal(a, b fan) bool {
	return slices.Equal(a.kids, b.kids) && slices.Equal(a.pivots, b.pivots)
}

// roomy returns f, and the whole memory it lies in, which goes on behind its lists.
func roomy(f fan) (out, whole fan) {
	whole = fan{slices.Concat(f.kids, []int{71, 72, 73}), slices.Concat(f.pivots, keys("x", "y", "z"))}
	return fan{whole.kids[:len(f.kids)], whole.pivots[:len(f.pivots)]}, whole
}

// R3, R4: no call changes what was handed in, nor the memory behind it, nor the result of an earlier call; the same call has the same result again.
func TestNothingChanged(t *testing.T) {
	for _, x := range append(fans(), fan{}, some(3), some(6)) {
		f, whole := roomy(x)
		was := clone(whole)
		first := results(f)
		kept := clones(first)
		if again := results(f); !slices.EqualFunc(first, kept, equal) || !slices.EqualFunc(again, kept, equal) {
			t.Fatal("results", x)
		}
		for _, r := range first { // results that are handed in again
			results(r)
		}
		valid := Check(f.kids, f.pivots)
		for i, s := range between() {
			Kid(f.pivots, kk(s))
			Place(f.kids, i)
		}
		if !equal(whole, was) || valid != Check(f.kids, f.pivots) {
			t.Fatal("changed", x)
		}
		if !slices.EqualFunc(first, kept, equal) {
			t.Fatal("later", x)
		}
	}
}

// What the caller then does to a result, or appends to it, is to be seen neither in what was handed in nor in another result; nor the other way round.
func TestNothingShared(t *testing.T) {
	for _, x := range append(fans(), fan{}, some(3), some(6)) {
		f, whole := roomy(x)
		was := clone(whole)
		all := results(f)
		kept := clones(all)
		for i, r := range all {
			_, _ = append(r.kids, 98), append(r.pivots, kk("r"))
			clear(r.kids)
			clear(r.pivots)
			if !equal(whole, was) {
				t.Fatal("handed in", x)
			}
			if !slices.EqualFunc(all[i+1:], kept[i+1:], equal) {
				t.Fatal("other results", x)
			}
		}
		all = results(f)
		clear(whole.kids)
		clear(whole.pivots)
		if !slices.EqualFunc(all, kept, equal) {
			t.Fatal("results", x)
		}
	}
}
