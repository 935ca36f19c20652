package pick_test

import (
	"fmt"
	"math"
	"slices"
	"strings"
	"testing"

	"dandelion/api"
	"dandelion/pick"
)

const top = math.MaxUint32

// far are numbers far from all routers, such as are like one in their lowest bits among them.
var far = []int{
	math.MinInt, math.MinInt + 1, math.MinInt + 5, math.MinInt32, math.MinInt32 + 1, math.MaxInt32, math.MaxInt - 1, math.MaxInt,
	1<<8 + 1, 1<<16 + 1, 1<<16 + 24, 1 << 32, 1<<32 + 1, 1<<32 + 5, 1<<32 + 24,
	1 - 1<<16, 24 - 1<<16, -1 << 32, 1 - 1<<32, 5 - 1<<32, 24 - 1<<32, 1<<61 + 1, 1 << 62, 1<<62 + 5,
}

var (
	noRouters     = append([]int{0, -1, -2, -5, -24, -25, 25, 26, 31, 32, 33, 48, 63, 64, 65, 255}, far...)
	someEntropies = []uint32{0, 1, 2, 3, 4, 5, 9, 255, 4095, 4096, 65535, 65536, 1<<31 - 1, 1 << 31, 1<<31 + 1, top - 1, top, 0x9e3779b1, 0xdeadbeef}
	fewEntropies  = []uint32{0, 1, 4, 1 << 31, top}
)

// ints reads "1 3".
func ints(text string) []int {
	var l []int
	for _, s := range strings.Fields(text) {
		var n int
		fmt.Sscan(s, &n)
		l = append(l, n)
	}
	return l
}

// upTo are the numbers from 1 to n.
func upTo(n int) []int {
	var l []int
	for i := 1; i <= n; i++ {
		l = append(l, i)
	}
	return l
}

// subset has those of l whose bits are set.
func subset(l []int, set uint) []int {
	var out []int
	for i, n := range l {
		if set>>i&1 == 1 {
			out = append(out, n)
		}
	}
	return out
}

func without(l []int, n int) []int {
	return slices.DeleteFunc(slices.Clone(l), func(m int) bool { return m == n })
}

// with needs l in order.
func with(l []int, n int) []int {
	at, _ := slices.BinarySearch(l, n)
	return slices.Insert(slices.Clone(l), at, n)
}

func sum(l []int) int {
	all := 0
	for _, n := range l {
		all += n
	}
	return all
}

// dice is a row of numbers that is the same each time.
type dice uint64

func (d *dice) below(n int) int {
	*d = *d*6364136223846793005 + 1442695040888963407
	return int(uint64(*d) >> 33 % uint64(n))
}

func (d *dice) entropy() uint32 { return uint32(d.below(1<<16))<<16 | uint32(d.below(1<<16)) }

func (d *dice) neighbours() []int { return subset(upTo(24), uint(d.below(1<<24))) }

// What is asked for, in the document's words.

// rankOf reckons in numbers that have room for whole products, so that each modulo is written out.
func rankOf(entropy uint32, n int) uint32 {
	const all = 1 << 32
	number := uint64((n%all + all) % all)
	x := uint64(entropy) ^ number*0x9e3779b1%all
	x = x ^ x/(1<<16)
	x = x * 0x85ebca6b % all
	x = x ^ x/(1<<13)
	x = x * 0xc2b2ae35 % all
	x = x ^ x/(1<<16)
	return uint32(x)
}

// chosenOf holds each neighbour against all others.
func chosenOf(entropy uint32, l []int) int {
	for _, n := range l {
		beaten := slices.ContainsFunc(l, func(m int) bool { return rankOf(entropy, m) > rankOf(entropy, n) })
		if !beaten {
			return n
		}
	}
	return 0
}

// rankedOf takes the one of the greatest rank away, till none is left.
func rankedOf(entropy uint32, l []int) []int {
	var out []int
	for len(l) > 0 {
		n := chosenOf(entropy, l)
		out, l = append(out, n), without(l, n)
	}
	return out
}

func spreadOf(l []int, n int) []int {
	counts := make([]int, len(l))
	for entropy := range n {
		if len(l) > 0 {
			counts[slices.Index(l, chosenOf(uint32(entropy), l))]++
		}
	}
	return counts
}

func areNeighbours(l []int) bool {
	for i, n := range l {
		if n < 1 || n > 24 || i > 0 && l[i-1] >= n {
			return false
		}
	}
	return true
}

func wantMix(t *testing.T, entropy uint32, n int, want uint32) {
	t.Helper()
	if x := pick.Mix(entropy, n); x != want {
		t.Fatalf("Mix(%d, %d) = %#x; it should be %#x", entropy, n, x, want)
	}
}

func wantChoose(t *testing.T, entropy uint32, l []int, want int) {
	t.Helper()
	if n, e := pick.Choose(entropy, l); n != want || e != api.OK {
		t.Fatalf("Choose(%d, %v) = %d, %d; it should be %d", entropy, l, n, e, want)
	}
}

func wantNoChoice(t *testing.T, entropy uint32, l []int, want api.Errno) {
	t.Helper()
	if n, e := pick.Choose(entropy, l); n != 0 || e != want {
		t.Fatalf("Choose(%d, %v) = %d, %d; it should be the error %d", entropy, l, n, e, want)
	}
}

func wantRank(t *testing.T, entropy uint32, l, want []int) {
	t.Helper()
	if r, e := pick.Rank(entropy, l); !slices.Equal(r, want) || e != api.OK {
		t.Fatalf("Rank(%d, %v) = %v, %d; it should be %v", entropy, l, r, e, want)
	}
}

func wantNoRank(t *testing.T, entropy uint32, l []int) {
	t.Helper()
	if r, e := pick.Rank(entropy, l); len(r) != 0 || e != api.ErrArg {
		t.Fatalf("Rank(%d, %v) = %v, %d; it should be ErrArg", entropy, l, r, e)
	}
}

func wantSpread(t *testing.T, l []int, n int, want []int) {
	t.Helper()
	if c, e := pick.Spread(l, n); !slices.Equal(c, want) || e != api.OK {
		t.Fatalf("Spread(%v, %d) = %v, %d; it should be %v", l, n, c, e, want)
	}
}

func wantNoSpread(t *testing.T, l []int, n int, want api.Errno) {
	t.Helper()
	if c, e := pick.Spread(l, n); len(c) != 0 || e != want {
		t.Fatalf("Spread(%v, %d) = %v, %d; it should be the error %d", l, n, c, e, want)
	}
}

// wantAll holds Choose and Rank of neighbours against the document's words.
func wantAll(t *testing.T, entropy uint32, l []int) {
	t.Helper()
	wantRank(t, entropy, l, rankedOf(entropy, l))
	if len(l) == 0 {
		wantNoChoice(t, entropy, l, api.ErrNone)
		return
	}
	wantChoose(t, entropy, l, chosenOf(entropy, l))
}

// noNeighbours are lists in each of which one thing is wrong.
func noNeighbours() [][]int {
	lists := [][]int{
		ints("2 1"), ints("24 1"), ints("24 23"), ints("1 3 2"), ints("3 1 2"), ints("1 2 1"), ints("2 3 1"), ints("1 2 4 3"),
		ints("1 1"), ints("24 24"), ints("7 7"), ints("1 1 2"), ints("1 2 2"), ints("1 1 1"), ints("1 2 3 3 4"), ints("0 1"), ints("24 25"),
		make([]int, 1), make([]int, 24), make([]int, 25), make([]int, 1<<20), upTo(25), upTo(1 << 16),
	}
	for _, wrong := range noRouters {
		lists = append(lists, []int{wrong}, []int{wrong, wrong})
		for at := range 4 {
			lists = append(lists, slices.Insert(ints("5 6 7"), at, wrong))
		}
		// In order, as far as that goes.
		lists = append(lists, with(ints("1 24"), wrong), with(upTo(24), wrong))
	}
	for n := 1; n <= 24; n++ {
		lists = append(lists, with(upTo(24), n))
	}
	for at := 1; at < 24; at++ {
		swapped := upTo(24)
		swapped[at-1], swapped[at] = swapped[at], swapped[at-1]
		lists = append(lists, swapped)
	}
	return append(lists, append(upTo(24), 1), append(upTo(24), upTo(24)...))
}

// P12.1

func TestMixOfTheExamples(t *testing.T) {
	wantMix(t, 0, 0, 0)
	wantMix(t, 0, 1, 0x11fd02eb)
	wantMix(t, 1, 0, 0x514e28b7)
	wantMix(t, 9, 5, 0xc71f3556)
}

// The numbers were reckoned apart from this program, with whole numbers of any length.
func TestMixOfTheEdges(t *testing.T) {
	numbers := []int{0, 1, 24, 1 << 31, 1<<32 - 1}
	for _, row := range []struct {
		entropy uint32
		want    []uint32
	}{
		{0, []uint32{0, 0x11fd02eb, 0x272d6ca5, 0x6d3c65a0, 0x171ee435}},
		{1, []uint32{0x514e28b7, 0xb19fea7c, 0x7f696248, 0x8b7f7a6a, 0x24c2350c}},
		{0xfff, []uint32{0x77380e92, 0x15b537bb, 0xc3105e8a, 0xaf71d5ff, 0xc645dd8b}},
		{1<<31 - 1, []uint32{0xf9cc0ea8, 0xfeb2f780, 0x81113345, 0x81f16f39, 0x09ffa120}},
		{1 << 31, []uint32{0x6d3c65a0, 0x16691c13, 0x0cec2d20, 0, 0xf9ea61cd}},
		{top - 1, []uint32{0x7995c304, 0x171ee435, 0x49f325ba, 0x551b50f6, 0x11fd02eb}},
		{top, []uint32{0x81f16f39, 0x24c2350c, 0x4ca5a8b5, 0xf9cc0ea8, 0xb19fea7c}},
		{0xdeadbeef, []uint32{0x0de5c6a9, 0x331dc73e, 0x19e8c0a3, 0xfce23042, 0x95cb1f45}},
	} {
		for i, n := range numbers {
			wantMix(t, row.entropy, n, row.want[i])
			for _, rounds := range []int{-1 << 31, -1 << 20, -2, -1, 1, 2, 3, 1 << 20, 1<<31 - 1} {
				wantMix(t, row.entropy, n+rounds<<32, row.want[i])
			}
		}
	}
}

func TestMixTakesNumbersModulo(t *testing.T) {
	for _, entropy := range someEntropies {
		for _, n := range append(upTo(24), noRouters...) {
			wantMix(t, entropy, n, rankOf(entropy, n))
		}
		wantMix(t, entropy, -1, pick.Mix(entropy, 1<<32-1))
		wantMix(t, entropy, -24, pick.Mix(entropy, 1<<32-24))
		wantMix(t, entropy, 1<<32, pick.Mix(entropy, 0))
		wantMix(t, entropy, 1<<32+24, pick.Mix(entropy, 24))
		wantMix(t, entropy, math.MinInt, pick.Mix(entropy, 0))
		wantMix(t, entropy, math.MaxInt, pick.Mix(entropy, -1))
	}
}

func TestMixOfMadeUpNumbers(t *testing.T) {
	var d dice = 12
	for range 100000 {
		entropy, n := d.entropy(), int(d.entropy())<<32|int(d.entropy())
		wantMix(t, entropy, n, rankOf(entropy, n))
		wantMix(t, entropy, n>>32, rankOf(entropy, n>>32))
		wantMix(t, entropy, n&31, rankOf(entropy, n&31))
	}
}

// Each bit of the entropy, and of the number, has its part.
func TestMixOfEachBit(t *testing.T) {
	for i := range 32 {
		for _, n := range []int{0, 1, 24, 1 << i, 1<<32 - 1} {
			wantMix(t, 1<<i, n, rankOf(1<<i, n))
			wantMix(t, ^uint32(1<<i), n, rankOf(^uint32(1<<i), n))
		}
		for _, entropy := range someEntropies {
			if pick.Mix(entropy, 5) == pick.Mix(entropy, 5^1<<i) || pick.Mix(entropy, 5) == pick.Mix(entropy^1<<i, 5) {
				t.Fatalf("Mix(%d, 5): the bit %d has no part in it", entropy, i)
			}
		}
	}
}

// Unlike numbers below 2^32 have unlike ranks.
func TestRanksAreUnlike(t *testing.T) {
	for _, entropy := range fewEntropies {
		of := map[uint32]int{}
		for i := range 1 << 15 {
			for _, n := range []int{i, 1<<32 - 1 - i} {
				x := pick.Mix(entropy, n)
				if other, met := of[x]; met {
					t.Fatalf("at %d the ranks of %d and %d are both %#x", entropy, other, n, x)
				}
				of[x] = n
			}
		}
	}
}

// P12.2

func TestChooseAndRankOfTheExamples(t *testing.T) {
	wantChoose(t, 5, ints("7"), 7)
	wantNoChoice(t, 5, nil, api.ErrNone)
	wantNoChoice(t, 5, ints("2 1"), api.ErrArg)
	wantNoChoice(t, 5, ints("0 1"), api.ErrArg)
	wantRank(t, 0, ints("1 2 3"), ints("3 2 1"))
	wantRank(t, 1, ints("1 2 3"), ints("1 3 2"))
	wantRank(t, 4, ints("1 2 3"), ints("1 2 3"))
	wantRank(t, 9, nil, nil)
	wantChoose(t, 0, ints("2 3"), 3)
	wantChoose(t, 0, ints("2"), 2)
}

// The orders were reckoned apart from this program.
func TestRankOfAllRouters(t *testing.T) {
	wantRank(t, 0, upTo(24), ints("8 4 15 21 20 16 3 19 2 13 9 22 5 11 7 6 12 23 10 24 18 14 1 17"))
	wantRank(t, 1, upTo(24), ints("13 7 4 22 21 1 11 17 24 12 8 3 6 20 14 23 10 15 5 16 19 9 18 2"))
	wantRank(t, top, upTo(24), ints("23 11 5 2 8 9 19 12 20 13 14 22 17 18 24 15 7 16 4 10 3 1 6 21"))
	wantChoose(t, 0, upTo(24), 8)
	wantChoose(t, 1, upTo(24), 13)
	wantChoose(t, top, upTo(24), 23)
	for _, entropy := range someEntropies {
		wantAll(t, entropy, upTo(24))
	}
}

func TestOfNoNeighbour(t *testing.T) {
	for _, entropy := range someEntropies {
		wantAll(t, entropy, nil)
		wantAll(t, entropy, []int{})
		wantAll(t, entropy, ints("2 1")[:0])
	}
}

func TestOfOneNeighbour(t *testing.T) {
	for n := 1; n <= 24; n++ {
		for _, entropy := range someEntropies {
			wantChoose(t, entropy, []int{n}, n)
			wantRank(t, entropy, []int{n}, []int{n})
		}
	}
}

func TestOfEachTwoNeighbours(t *testing.T) {
	for a := 1; a <= 24; a++ {
		for b := a + 1; b <= 24; b++ {
			for _, entropy := range someEntropies {
				wantAll(t, entropy, []int{a, b})
			}
		}
	}
}

func TestOfAllListsOfTenRouters(t *testing.T) {
	routers := ints("1 2 3 7 8 12 16 17 23 24")
	for set := range uint(1 << len(routers)) {
		for _, entropy := range fewEntropies {
			wantAll(t, entropy, subset(routers, set))
		}
	}
}

func TestOfMadeUpNeighbours(t *testing.T) {
	var d dice = 3
	for range 5000 {
		wantAll(t, d.entropy(), d.neighbours())
	}
}

// A rank above 2^31 is great, and not below 0.
func TestGreatRanksAreGreat(t *testing.T) {
	for _, c := range []struct {
		entropy uint32
		l, want string
	}{{9, "4 5", "5 4"}, {1, "1 24", "1 24"}, {0, "1 8 24", "8 24 1"}} {
		l := ints(c.l)
		great := slices.DeleteFunc(slices.Clone(l), func(n int) bool { return pick.Mix(c.entropy, n) < 1<<31 })
		if len(great) == 0 || len(great) == len(l) {
			t.Fatalf("%d, %v is no case of this", c.entropy, l)
		}
		wantRank(t, c.entropy, l, ints(c.want))
		wantChoose(t, c.entropy, l, ints(c.want)[0])
	}
}

func TestWhatIsNoNeighboursIsRefused(t *testing.T) {
	for _, l := range noNeighbours() {
		for _, entropy := range fewEntropies {
			wantNoChoice(t, entropy, l, api.ErrArg)
			wantNoRank(t, entropy, l)
		}
	}
}

// All short lists of few numbers, right ones and wrong ones.
func TestOfAllShortLists(t *testing.T) {
	numbers := []int{-1, 0, 1, 2, 3, 23, 24, 25, 1<<32 + 1}
	var from func(l []int)
	from = func(l []int) {
		if areNeighbours(l) {
			wantAll(t, 7, l)
			wantSpread(t, l, 6, spreadOf(l, 6))
		} else {
			wantNoChoice(t, 7, l, api.ErrArg)
			wantNoRank(t, 7, l)
			wantNoSpread(t, l, 6, api.ErrArg)
		}
		if len(l) < 4 {
			for _, n := range numbers {
				from(append(slices.Clone(l), n))
			}
		}
	}
	from(nil)
}

// P12.3

func TestSpreadOfTheExamples(t *testing.T) {
	wantSpread(t, ints("1 2 3"), 10, ints("6 0 4"))
	wantSpread(t, ints("3"), 10, ints("10"))
	wantSpread(t, nil, 5, nil)
	wantNoSpread(t, ints("1 2"), 4097, api.ErrLong)
	wantNoSpread(t, ints("1"), -1, api.ErrArg)
}

// The numbers were counted apart from this program.
func TestSpreadOfManyEntropies(t *testing.T) {
	wantSpread(t, upTo(24), 4096, ints("163 182 180 165 179 197 142 160 164 166 166 166 165 168 180 179 172 182 177 173 184 156 168 162"))
	wantSpread(t, upTo(24), 100, ints("3 8 3 1 4 4 4 4 3 6 7 4 5 3 3 5 5 4 5 4 1 8 5 1"))
	wantSpread(t, ints("1 24"), 4096, ints("2064 2032"))
	wantSpread(t, ints("1 24"), 100, ints("55 45"))
	wantSpread(t, ints("1 2 3"), 4096, ints("1389 1339 1368"))
	wantSpread(t, ints("7 8 9 10"), 4096, ints("987 985 1083 1041"))
}

func TestSpreadOfNoEntropy(t *testing.T) {
	for n := range 25 {
		wantSpread(t, upTo(n), 0, make([]int, n))
	}
	wantSpread(t, ints("24"), 0, ints("0"))
	wantSpread(t, ints("1 24"), 0, ints("0 0"))
}

func TestSpreadOfNoNeighbour(t *testing.T) {
	for _, l := range [][]int{nil, {}, ints("2 1")[:0]} {
		for _, n := range []int{0, 1, 2, 24, 4095, 4096} {
			wantSpread(t, l, n, nil)
		}
	}
}

func TestSpreadOfOneNeighbour(t *testing.T) {
	for router := 1; router <= 24; router++ {
		for _, n := range []int{0, 1, 2, 24, 4095, 4096} {
			wantSpread(t, []int{router}, n, []int{n})
		}
	}
}

// One entropy more is one more for the neighbour that it chooses, up to the last one.
func TestSpreadOfEachCount(t *testing.T) {
	for _, l := range [][]int{ints("1 2 3"), ints("1 24"), ints("2 5 9 20"), upTo(24)} {
		want := make([]int, len(l))
		for n := range 4097 {
			wantSpread(t, l, n, want)
			want[slices.Index(l, chosenOf(uint32(n), l))]++
		}
	}
}

func TestSpreadOfMadeUpNeighbours(t *testing.T) {
	var d dice = 8
	for range 300 {
		l, n := d.neighbours(), d.below(200)
		wantSpread(t, l, n, spreadOf(l, n))
	}
	for range 10 {
		l := d.neighbours()
		wantSpread(t, l, 4096, spreadOf(l, 4096))
	}
}

// ErrArg comes ahead of ErrLong.
func TestSpreadRefusesInOrder(t *testing.T) {
	for _, l := range noNeighbours() {
		for _, n := range []int{0, 1, 4096, 4097, -1, math.MaxInt, math.MinInt} {
			wantNoSpread(t, l, n, api.ErrArg)
		}
	}
	for _, l := range [][]int{nil, {}, ints("1"), ints("24"), ints("1 2"), upTo(24)} {
		for _, n := range []int{-1, -2, -4096, -4097, math.MinInt32, -1 << 32, 1 - 1<<32, math.MinInt + 1, math.MinInt} {
			wantNoSpread(t, l, n, api.ErrArg)
		}
		for _, n := range []int{4097, 4098, 5000, 1 << 13, 1<<16 + 5, math.MaxInt32, 1 << 32, 1<<32 + 5, math.MaxInt - 1, math.MaxInt} {
			wantNoSpread(t, l, n, api.ErrLong)
		}
	}
}

// P12.4

// wantWhatFollows holds the calls against one another alone.
func wantWhatFollows(t *testing.T, entropy uint32, l []int) {
	t.Helper()
	ranked, _ := pick.Rank(entropy, l)
	if len(l) > 0 {
		wantChoose(t, entropy, l, ranked[0])
	}
	if sorted := slices.Sorted(slices.Values(ranked)); !slices.Equal(sorted, l) {
		t.Fatalf("Rank(%d, %v) = %v: these are others", entropy, l, ranked)
	}
	for _, n := range l {
		wantRank(t, entropy, without(l, n), without(ranked, n))
		if n != ranked[0] {
			wantChoose(t, entropy, without(l, n), ranked[0])
		}
	}
	for n := 1; n <= 24; n++ {
		if !slices.Contains(l, n) {
			wantOneMore(t, entropy, l, n)
		}
	}
}

// wantOneMore: the same one is chosen, or the one that is new; all others keep their order.
func wantOneMore(t *testing.T, entropy uint32, l []int, more int) {
	t.Helper()
	was, _ := pick.Choose(entropy, l)
	is, e := pick.Choose(entropy, with(l, more))
	if e != api.OK || is != was && is != more {
		t.Fatalf("Choose(%d, %v) = %d; with %d more it is %d, %d", entropy, l, was, more, is, e)
	}
	greater := !slices.ContainsFunc(l, func(n int) bool { return pick.Mix(entropy, n) > pick.Mix(entropy, more) })
	if (is == more) != greater {
		t.Fatalf("Choose(%d, %v), with %d more, = %d", entropy, l, more, is)
	}
	before, _ := pick.Rank(entropy, l)
	behind, _ := pick.Rank(entropy, with(l, more))
	if !slices.Equal(without(behind, more), before) {
		t.Fatalf("Rank(%d, %v) = %v; with %d more it is %v", entropy, l, before, more, behind)
	}
}

func TestWhatFollows(t *testing.T) {
	for _, entropy := range someEntropies {
		for _, l := range [][]int{nil, ints("1"), ints("24"), ints("1 24"), ints("2 3"), ints("1 2 3"), ints("2 5 9 20"), upTo(16), without(upTo(24), 24), upTo(24)} {
			wantWhatFollows(t, entropy, l)
		}
	}
	for entropy := range uint32(40) {
		for set := range uint(1 << 6) {
			wantWhatFollows(t, entropy, subset(ints("1 4 9 13 23 24"), set))
		}
	}
	var d dice = 4
	for range 500 {
		wantWhatFollows(t, d.entropy(), d.neighbours())
	}
}

// One after the other that is not chosen goes, and then the chosen one: it is the next one's turn.
func TestNeighboursGo(t *testing.T) {
	for _, entropy := range someEntropies {
		ranked, _ := pick.Rank(entropy, upTo(24))
		l := upTo(24)
		for _, n := range slices.Backward(ranked[1:]) {
			wantChoose(t, entropy, l, ranked[0])
			l = without(l, n)
		}
		wantChoose(t, entropy, l, ranked[0])
		l = upTo(24)
		for _, n := range ranked {
			wantChoose(t, entropy, l, n)
			l = without(l, n)
		}
		wantNoChoice(t, entropy, l, api.ErrNone)
	}
}

func TestSpreadIsWholeAndOfChoices(t *testing.T) {
	var d dice = 6
	for round := range 300 {
		l, n := d.neighbours(), []int{0, 1, 2, 10, 100}[round%5]
		if round%60 == 0 {
			n = 4096
		}
		counts, e := pick.Spread(l, n)
		if e != api.OK || len(counts) != len(l) || len(l) > 0 && sum(counts) != n {
			t.Fatalf("Spread(%v, %d) = %v, %d", l, n, counts, e)
		}
		for entropy := range uint32(n) {
			if len(l) > 0 {
				chosen, _ := pick.Choose(entropy, l)
				counts[slices.Index(l, chosen)]--
			}
		}
		if slices.ContainsFunc(counts, func(c int) bool { return c != 0 }) {
			t.Fatalf("Spread(%v, %d) is not what Choose says", l, n)
		}
	}
}

// Without a neighbour no other one is chosen less often.
func TestSpreadWithoutANeighbour(t *testing.T) {
	for _, l := range [][]int{ints("1 2"), ints("1 2 3"), ints("2 5 9 20"), upTo(24)} {
		counts, _ := pick.Spread(l, 4096)
		for i, n := range l {
			fewer, e := pick.Spread(without(l, n), 4096)
			if e != api.OK || sum(fewer) != 4096 {
				t.Fatalf("Spread(%v, 4096) = %v, %d", without(l, n), fewer, e)
			}
			for k, c := range slices.Delete(slices.Clone(counts), i, i+1) {
				if fewer[k] < c {
					t.Fatalf("of %v, without %d, %v", counts, n, fewer)
				}
			}
		}
	}
}

// R5: what is handed in stays as it was, the room behind its end too.

const behind = -77

// roomy has room behind its end, filled.
func roomy(l []int) []int {
	return append(slices.Clone(l), behind, behind, behind)[:len(l)]
}

func whole(l []int) []int { return slices.Clone(l[:len(l)+3]) }

// scrawl writes over a list, and over the room behind its end.
func scrawl(l []int) {
	l = l[:cap(l)]
	for i := range l {
		l[i] = -7
	}
}

func TestWhatIsHandedInStays(t *testing.T) {
	lists := [][]int{nil, ints("1"), ints("1 2 3"), upTo(24), ints("2 1"), ints("1 1"), ints("24 25"), ints("3 2 1"), upTo(30)}
	for _, given := range lists {
		l := roomy(given)
		was := whole(l)
		for _, entropy := range someEntropies {
			pick.Choose(entropy, l)
			pick.Rank(entropy, l)
		}
		for _, n := range []int{-1, 0, 10, 4096, 4097} {
			pick.Spread(l, n)
		}
		if !slices.Equal(whole(l), was) {
			t.Fatalf("%v was changed to %v", was, whole(l))
		}
	}
}

func TestWhatIsAnsweredIsNew(t *testing.T) {
	for _, given := range [][]int{nil, ints("7"), ints("1 2 3"), upTo(8), upTo(24)} {
		l := roomy(given)
		was := whole(l)
		for range 2 {
			// At 4 the order of 1 2 3 is the one in which they are handed in.
			for _, entropy := range []uint32{0, 4, top} {
				first, _ := pick.Rank(entropy, l)
				second, _ := pick.Rank(entropy, l)
				want := slices.Clone(first)
				scrawl(first)
				if !slices.Equal(second, want) || !slices.Equal(whole(l), was) {
					t.Fatalf("Rank(%d, %v) shares what it answers", entropy, l)
				}
				wantRank(t, entropy, l, want)
			}
			first, _ := pick.Spread(l, 100)
			second, _ := pick.Spread(l, 100)
			want := slices.Clone(first)
			scrawl(first)
			if !slices.Equal(second, want) || !slices.Equal(whole(l), was) {
				t.Fatalf("Spread(%v, 100) shares what it answers", l)
			}
			wantSpread(t, l, 100, want)
		}
	}
}

// What is answered stays, whatever becomes of what was handed in.
func TestWhatIsHandedInIsNotKept(t *testing.T) {
	l := roomy(ints("1 2 3"))
	ranked, _ := pick.Rank(4, l)
	counts, _ := pick.Spread(l, 10)
	scrawl(l)
	if !slices.Equal(ranked, ints("1 2 3")) || !slices.Equal(counts, ints("6 0 4")) {
		t.Errorf("%v, %v", ranked, counts)
	}
}

// R6: what was asked before has no part in it.
func TestWhatWasAskedBeforeHasNoPart(t *testing.T) {
	for range 3 {
		for _, l := range append(noNeighbours(), nil, ints("1 2 3"), upTo(24)) {
			pick.Choose(7, l)
			pick.Rank(7, l)
			pick.Spread(l, 50)
			wantRank(t, 0, ints("1 2 3"), ints("3 2 1"))
			wantChoose(t, 0, ints("1 2 3"), 3)
			wantSpread(t, ints("1 2 3"), 10, ints("6 0 4"))
			wantMix(t, 9, 5, 0xc71f3556)
		}
	}
}

// Each byte of what is made up is a number of a list, routers' numbers for the most part.
func FuzzPick(f *testing.F) {
	f.Add(uint32(0), 0, []byte{2, 3, 4})
	f.Add(uint32(top), 4096, []byte{2, 25, 26})
	f.Add(uint32(5), -1, []byte{})
	f.Add(uint32(9), math.MinInt, []byte("neighbours are routers, rising"))
	f.Fuzz(func(t *testing.T, entropy uint32, n int, raw []byte) {
		var l []int
		for _, c := range raw {
			l = append(l, int(c%28)-1)
		}
		wantMix(t, entropy, n, rankOf(entropy, n))
		if !areNeighbours(l) {
			wantNoChoice(t, entropy, l, api.ErrArg)
			wantNoRank(t, entropy, l)
			wantNoSpread(t, l, n, api.ErrArg)
			slices.Sort(l)
			l = slices.DeleteFunc(slices.Compact(l), func(n int) bool { return n < 1 || n > 24 })
		}
		wantAll(t, entropy, l)
		wantWhatFollows(t, entropy, l)
		switch {
		case n < 0:
			wantNoSpread(t, l, n, api.ErrArg)
		case n > 4096:
			wantNoSpread(t, l, n, api.ErrLong)
		default:
			wantSpread(t, l, n, spreadOf(l, n))
		}
	})
}
