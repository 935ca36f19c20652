package sets_test

import (
	"math"
	"slices"
	"testing"

	"dandelion/api"
	"dandelion/sets"
)

var widths = []int{8, 16, 32, 64, 128, 256}

// huge are numbers far from all ids, sets and bits, such as are like one in their lowest bits among them.
var huge = []int{
	math.MinInt, math.MinInt + 1, math.MinInt32, math.MaxInt32, math.MaxInt - 1, math.MaxInt,
	1 << 16, 1<<16 + 1, 1 << 32, 1<<32 + 1, -1 << 32, 1 - 1<<32, 1<<61 + 1, 1 << 62,
}

// noWidths are numbers between, below and above the widths, and such as are like one in their lowest bits.
func noWidths() []int {
	l := slices.Clone(huge)
	for n := -600; n <= 1100; n++ {
		if !slices.Contains(widths, n) {
			l = append(l, n)
		}
	}
	for _, w := range widths {
		l = append(l, w+1<<16, w+1<<32, w-1<<32, -w)
	}
	return l
}

// noIds are below 1 or above MaxId.
func noIds() []int {
	l := slices.Clone(huge)
	for n := range 300 {
		l = append(l, -n, 1025+n)
	}
	return append(l, 2048, 1024+256, 1<<16+5, 1<<32+5)
}

// place is found by counting from the id 1 on.
func place(id, width int) (set, bit int) {
	bit = 1
	for range id - 1 {
		bit++
		if bit > width {
			set, bit = set+1, 1
		}
	}
	return set, bit
}

// bitsOf makes a bit string without the packages below.
func bitsOf(l ...int) api.Bits {
	var b api.Bits
	for _, n := range l {
		b[(n-1)/64] |= 1 << ((n - 1) % 64)
	}
	return b
}

func part(set int, l ...int) api.Part { return api.Part{Set: set, Bits: bitsOf(l...)} }

// upTo are the numbers from least to greatest.
func upTo(least, greatest int) []int {
	var l []int
	for n := least; n <= greatest; n++ {
		l = append(l, n)
	}
	return l
}

// rising is l sorted, each once.
func rising(l []int) []int {
	l = slices.Clone(l)
	slices.Sort(l)
	return slices.Compact(l)
}

// split goes through all places, and looks for each one's id among the ids.
func split(ids []int, width int) []api.Part {
	var l []api.Part
	for set := range 1024 / width {
		var found []int
		for bit := 1; bit <= width; bit++ {
			if slices.Contains(ids, set*width+bit) {
				found = append(found, bit)
			}
		}
		if len(found) > 0 {
			l = append(l, part(set, found...))
		}
	}
	return l
}

// dice is a row of numbers that is the same each time.
type dice uint64

func (d *dice) below(n int) int {
	*d = *d*6364136223846793005 + 1442695040888963407
	return int(uint64(*d) >> 33 % uint64(n))
}

// draw takes ids of some sets, in any order, some several times.
func (d *dice) draw(count, sets, width int) []int {
	from := make([]int, sets)
	for i := range from {
		from[i] = d.below(1024 / width)
	}
	var l []int
	for range count {
		l = append(l, from[d.below(sets)]*width+d.below(width)+1)
	}
	if count > 1 {
		l = append(l, l[0], l[count/2])
	}
	return l
}

// lists of ids: of each width's sets, few and many.
func lists() [][]int {
	l := [][]int{
		nil, {}, {1}, {1024}, {1, 1, 1}, {1024, 1}, {9, 1, 3, 1}, {1, 9, 17, 25, 33}, {1, 9, 17, 25}, {33, 25, 17, 9},
		{1, 257, 513, 769}, {769, 513, 257, 1, 1024}, {8, 9}, {16, 17}, {32, 33}, {64, 65}, {128, 129}, {256, 257},
		upTo(1, 1024), upTo(1, 32), upTo(1, 33), upTo(1009, 1024), {1, 33, 65, 97, 129},
	}
	down := upTo(1, 40)
	slices.Reverse(down)
	l = append(l, down)
	d := dice(4)
	for _, w := range widths {
		for n := 1; n <= 6; n++ {
			l = append(l, d.draw(1, n, w), d.draw(n, n, w), d.draw(40, n, w), d.draw(300, n, w))
		}
	}
	return l
}

// guarded is a copy of l with marked room behind its end.
func guarded[T any](l []T, mark T) []T {
	room := append(slices.Clone(l), mark, mark, mark, mark)
	return room[:len(l)]
}

func checkGuarded[T comparable](t *testing.T, l, want []T, mark T) {
	t.Helper()
	if !slices.Equal(l, want) {
		t.Errorf("the list handed in was changed: %v; it was %v", l, want)
	}
	for _, x := range l[:cap(l)][len(l) : len(l)+4] {
		if x != mark {
			t.Errorf("the room behind the list handed in was changed: %v", x)
		}
	}
}

func wantSplit(t *testing.T, ids []int, width int, want []api.Part) {
	t.Helper()
	if l, e := sets.Split(ids, width); !slices.Equal(l, want) || e != api.OK {
		t.Errorf("Split(%v, %d) = %v, %d; asked for: %v", ids, width, l, e, want)
	}
}

func wantNoSplit(t *testing.T, ids []int, width int, want api.Errno) {
	t.Helper()
	if l, e := sets.Split(ids, width); len(l) != 0 || e != want {
		t.Errorf("Split(%v, %d) = %v, %d; asked for: %d", ids, width, l, e, want)
	}
}

func wantJoin(t *testing.T, l []api.Part, width int, want []int) {
	t.Helper()
	if ids, e := sets.Join(l, width); !slices.Equal(ids, want) || e != api.OK {
		t.Errorf("Join(%v, %d) = %v, %d; asked for: %v", l, width, ids, e, want)
	}
}

func wantNoJoin(t *testing.T, l []api.Part, width int, want api.Errno) {
	t.Helper()
	if ids, e := sets.Join(l, width); len(ids) != 0 || e != want {
		t.Errorf("Join(%v, %d) = %v, %d; asked for: %d", l, width, ids, e, want)
	}
}

func wantNoPlace(t *testing.T, id, width int) {
	t.Helper()
	if set, bit, e := sets.Place(id, width); set != 0 || bit != 0 || e != api.ErrArg {
		t.Errorf("Place(%d, %d) = %d, %d, %d", id, width, set, bit, e)
	}
}

func wantNoId(t *testing.T, set, bit, width int, want api.Errno) {
	t.Helper()
	if id, e := sets.Id(set, bit, width); id != 0 || e != want {
		t.Errorf("Id(%d, %d, %d) = %d, %d; asked for: %d", set, bit, width, id, e, want)
	}
}

// P4.1

func TestPlaceOfTheExamples(t *testing.T) {
	for _, x := range []struct{ id, width, set, bit int }{
		{1, 8, 0, 1}, {8, 8, 0, 8}, {9, 8, 1, 1}, {1024, 8, 127, 8}, {1024, 256, 3, 256},
	} {
		if set, bit, e := sets.Place(x.id, x.width); set != x.set || bit != x.bit || e != api.OK {
			t.Errorf("Place(%d, %d) = %d, %d, %d", x.id, x.width, set, bit, e)
		}
	}
	wantNoPlace(t, 0, 8)
	wantNoPlace(t, 1025, 8)
	wantNoPlace(t, 5, 24)
}

func TestPlaceOfEachId(t *testing.T) {
	for _, w := range widths {
		for id := 1; id <= 1024; id++ {
			wantSet, wantBit := place(id, w)
			if set, bit, e := sets.Place(id, w); set != wantSet || bit != wantBit || e != api.OK {
				t.Errorf("Place(%d, %d) = %d, %d, %d", id, w, set, bit, e)
			}
		}
	}
}

func TestPlaceRefuses(t *testing.T) {
	for _, w := range widths {
		for _, id := range noIds() {
			wantNoPlace(t, id, w)
		}
	}
	for _, w := range noWidths() {
		for _, id := range []int{1, 8, 9, 1024, 0, 1025, math.MinInt, math.MaxInt} {
			wantNoPlace(t, id, w)
		}
	}
}

func TestIdOfTheExamples(t *testing.T) {
	for _, x := range []struct{ set, bit, width, id int }{{1, 1, 8, 9}, {3, 256, 256, 1024}} {
		if id, e := sets.Id(x.set, x.bit, x.width); id != x.id || e != api.OK {
			t.Errorf("Id(%d, %d, %d) = %d, %d", x.set, x.bit, x.width, id, e)
		}
	}
	wantNoId(t, 0, 9, 8, api.ErrArg)
	wantNoId(t, 4, 1, 256, api.ErrLong)
}

func TestIdOfEachPlace(t *testing.T) {
	for _, w := range widths {
		next := 1
		for set := range 128 {
			for bit := 1; bit <= w; bit++ {
				if next > 1024 {
					wantNoId(t, set, bit, w, api.ErrLong)
				} else if id, e := sets.Id(set, bit, w); id != next || e != api.OK {
					t.Errorf("Id(%d, %d, %d) = %d, %d; asked for: %d", set, bit, w, id, e, next)
				}
				next++
			}
		}
	}
}

func TestIdAtTheEdgeOfMaxId(t *testing.T) {
	for _, w := range widths {
		last := 1024/w - 1
		for bit, want := range map[int]int{1: 1024 - w + 1, w: 1024} {
			if id, e := sets.Id(last, bit, w); id != want || e != api.OK {
				t.Errorf("Id(%d, %d, %d) = %d, %d", last, bit, w, id, e)
			}
		}
		for _, bit := range []int{1, w} {
			// At the width 8 the set behind the last one is none.
			want := api.ErrLong
			if w == 8 {
				want = api.ErrArg
			}
			wantNoId(t, last+1, bit, w, want)
		}
	}
}

func TestIdRefuses(t *testing.T) {
	noSets := append([]int{-1, -2, -128, 128, 129, 255, 256, 1024}, huge...)
	for _, w := range widths {
		noBits := append([]int{0, -1, -w, w + 1, w + 2, 2 * w, 257, 512}, huge...)
		for _, set := range noSets {
			for _, bit := range []int{1, w} {
				wantNoId(t, set, bit, w, api.ErrArg)
			}
		}
		for _, bit := range noBits {
			// Beyond MaxId a bit that is none is so first of all.
			for _, set := range []int{0, 1, 3, 127} {
				wantNoId(t, set, bit, w, api.ErrArg)
			}
			for _, set := range noSets {
				wantNoId(t, set, bit, w, api.ErrArg)
			}
		}
	}
	for _, w := range noWidths() {
		for _, set := range []int{0, 1, 127, -1, 128, math.MaxInt} {
			for _, bit := range []int{1, 8, 0, -1, 257, math.MaxInt} {
				wantNoId(t, set, bit, w, api.ErrArg)
			}
		}
	}
}

// P4.2

func TestSplitOfTheExamples(t *testing.T) {
	wantSplit(t, []int{9, 1, 3, 1}, 8, []api.Part{part(0, 1, 3), part(1, 1)})
	wantNoSplit(t, []int{1, 9, 17, 25, 33}, 8, api.ErrTooManySets)
	wantSplit(t, []int{1, 9, 17, 25, 33}, 16, []api.Part{part(0, 1, 9), part(1, 1, 9), part(2, 1)})
	wantSplit(t, nil, 8, nil)
}

func TestSplitOfNone(t *testing.T) {
	for _, w := range widths {
		wantSplit(t, nil, w, nil)
		wantSplit(t, []int{}, w, nil)
	}
}

func TestSplitOfOneId(t *testing.T) {
	for _, w := range widths {
		for id := 1; id <= 1024; id++ {
			set, bit := place(id, w)
			wantSplit(t, []int{id}, w, []api.Part{part(set, bit)})
			wantSplit(t, []int{id, id, id}, w, []api.Part{part(set, bit)})
		}
	}
}

func TestSplitInAnyOrder(t *testing.T) {
	want := []api.Part{part(0, 1, 8), part(2, 1), part(127, 7, 8)}
	for _, ids := range [][]int{
		{1, 8, 17, 1023, 1024}, {1024, 1023, 17, 8, 1}, {17, 1, 1024, 8, 1023}, {1024, 17, 17, 1, 8, 1023, 1, 1024},
	} {
		wantSplit(t, ids, 8, want)
	}
}

func TestSplitAndSets(t *testing.T) {
	parted, refused := 0, 0
	for _, w := range widths {
		for _, ids := range lists() {
			want := split(ids, w)
			if n, e := sets.Sets(ids, w); n != len(want) || e != api.OK {
				t.Errorf("Sets(%v, %d) = %d, %d; asked for: %d", ids, w, n, e, len(want))
			}
			if len(want) > 4 {
				wantNoSplit(t, ids, w, api.ErrTooManySets)
				refused++
			} else {
				wantSplit(t, ids, w, want)
				parted++
			}
		}
	}
	if parted < 100 || refused < 20 {
		t.Errorf("too few lists are tried: %d parted, %d refused", parted, refused)
	}
}

func TestSplitAtTheEdgeOfMaxSets(t *testing.T) {
	for _, w := range widths {
		for first := 0; first+4 <= 1024/w; first++ {
			var ids []int
			var want []api.Part
			for set := first; set < first+4; set++ {
				ids = append(ids, set*w+w, set*w+1)
				want = append(want, part(set, 1, w))
			}
			slices.Reverse(ids)
			wantSplit(t, ids, w, want)
			if first > 0 {
				wantNoSplit(t, append(ids, first*w), w, api.ErrTooManySets)
				wantNoSplit(t, append([]int{first * w}, ids...), w, api.ErrTooManySets)
			}
			if behind := (first+4)*w + 1; behind <= 1024 {
				wantNoSplit(t, append(ids, behind), w, api.ErrTooManySets)
				wantNoSplit(t, append([]int{behind}, ids...), w, api.ErrTooManySets)
			}
		}
	}
}

func TestSetsOfAnyNumber(t *testing.T) {
	for _, w := range widths {
		if n, e := sets.Sets(upTo(1, 1024), w); n != 1024/w || e != api.OK {
			t.Errorf("Sets of all ids at %d = %d, %d", w, n, e)
		}
		var ids []int
		for set := range 1024 / w {
			ids = append(ids, set*w+1, set*w+w, set*w+1)
			if n, e := sets.Sets(ids, w); n != set+1 || e != api.OK {
				t.Errorf("Sets(%v, %d) = %d, %d", ids, w, n, e)
			}
		}
		for _, none := range [][]int{nil, {}} {
			if n, e := sets.Sets(none, w); n != 0 || e != api.OK {
				t.Errorf("Sets of none at %d = %d, %d", w, n, e)
			}
		}
	}
}

func wantNoSets(t *testing.T, ids []int, width int) {
	t.Helper()
	if n, e := sets.Sets(ids, width); n != 0 || e != api.ErrArg {
		t.Errorf("Sets(%v, %d) = %d, %d", ids, width, n, e)
	}
}

func TestSplitAndSetsRefuseIds(t *testing.T) {
	for _, w := range widths {
		for _, no := range noIds() {
			for _, ids := range [][]int{
				{no}, {no, 1}, {1, no}, {1, 1024, 7, no}, {1, no, 1024}, {no, no},
				// Five sets and all ids: one that is none comes ahead of too many sets, wherever it stands.
				{1, 9, 17, 25, 33, 41, no}, {no, 1, 9, 17, 25, 33, 41},
			} {
				wantNoSplit(t, ids, w, api.ErrArg)
				wantNoSets(t, ids, w)
			}
		}
		for _, no := range []int{0, 1025} {
			for _, ids := range [][]int{append(upTo(1, 1024), no), append([]int{no}, upTo(1, 1024)...)} {
				wantNoSplit(t, ids, w, api.ErrArg)
				wantNoSets(t, ids, w)
			}
		}
	}
}

func TestSplitAndSetsRefuseWidths(t *testing.T) {
	for _, w := range noWidths() {
		for _, ids := range [][]int{nil, {}, {1}, {1, 2, 3}, {0}, {1025}, {1, 257, 513, 769, 1024}, {1, 9, 17, 25, 33}} {
			wantNoSplit(t, ids, w, api.ErrArg)
			wantNoSets(t, ids, w)
		}
	}
}

func TestSplitLeavesTheIds(t *testing.T) {
	const mark = -77
	for _, w := range widths {
		for _, ids := range append(lists(), []int{5, 3, 0}, []int{1025, 3, 3}) {
			l := guarded(ids, mark)
			parts, _ := sets.Split(l, w)
			sets.Sets(l, w)
			checkGuarded(t, l, ids, mark)
			again, _ := sets.Split(l, w)
			want := slices.Clone(again)
			for i := range parts {
				parts[i] = part(99, 1, 2)
			}
			for i := range l {
				l[i] = 4
			}
			if !slices.Equal(again, want) {
				t.Errorf("Split(%v, %d) shares memory with what it answered ahead, or was handed", ids, w)
			}
		}
	}
}

// P4.3

func TestJoinOfTheExamples(t *testing.T) {
	wantJoin(t, []api.Part{part(1, 1), part(0, 1, 3)}, 8, []int{1, 3, 9})
	wantNoJoin(t, []api.Part{part(0, 1), part(0, 2)}, 8, api.ErrBusy)
	wantNoJoin(t, []api.Part{part(0, 9)}, 8, api.ErrArg)
}

func TestJoinOfNone(t *testing.T) {
	for _, w := range widths {
		wantJoin(t, nil, w, nil)
		wantJoin(t, []api.Part{}, w, nil)
		wantJoin(t, []api.Part{{}}, w, nil)
		// A part without bits has no id that would be above MaxId.
		wantJoin(t, []api.Part{part(127), part(0, 1), part(3), part(100)}, w, []int{1})
	}
}

func TestJoinOfOnePlace(t *testing.T) {
	for _, w := range widths {
		for id := 1; id <= 1024; id++ {
			set, bit := place(id, w)
			wantJoin(t, []api.Part{part(set, bit)}, w, []int{id})
		}
	}
}

func TestJoinInAnyOrder(t *testing.T) {
	want := []int{1, 8, 17, 1023, 1024}
	a, b, c := part(0, 1, 8), part(2, 1), part(127, 7, 8)
	for _, l := range [][]api.Part{{a, b, c}, {a, c, b}, {b, a, c}, {b, c, a}, {c, a, b}, {c, b, a}} {
		wantJoin(t, l, 8, want)
	}
}

func TestJoinOfAllIds(t *testing.T) {
	for _, w := range widths {
		var l []api.Part
		for set := range 1024 / w {
			l = append(l, part(set, upTo(1, w)...))
		}
		wantJoin(t, l, w, upTo(1, 1024))
		slices.Reverse(l)
		wantJoin(t, l, w, upTo(1, 1024))
	}
}

func TestJoinOfMoreThanMaxSets(t *testing.T) {
	wantJoin(t, []api.Part{part(9, 2), part(7, 1), part(5, 8), part(3, 4), part(1, 3), part(2, 6)}, 8, []int{11, 22, 28, 48, 57, 74})
}

func TestJoinRefusesParts(t *testing.T) {
	noSets := append([]int{-1, -128, 128, 129, 256}, huge...)
	for _, w := range widths {
		for _, set := range noSets {
			for _, p := range []api.Part{{Set: set}, part(set, 1), part(set, w)} {
				wantNoJoin(t, []api.Part{p}, w, api.ErrArg)
				wantNoJoin(t, []api.Part{part(0, 1), p}, w, api.ErrArg)
				wantNoJoin(t, []api.Part{p, part(0, 1)}, w, api.ErrArg)
			}
		}
		for bit := w + 1; bit <= 256; bit++ {
			for _, set := range []int{0, 1, 127} {
				for _, p := range []api.Part{part(set, bit), part(set, 1, bit), part(set, w, bit, 256)} {
					wantNoJoin(t, []api.Part{p}, w, api.ErrArg)
					wantNoJoin(t, []api.Part{part(2, 1, w), p}, w, api.ErrArg)
				}
			}
		}
	}
}

func TestJoinRefusesSetsTwice(t *testing.T) {
	for _, w := range widths {
		for set := range 1024 / w {
			other := (set + 1) % (1024 / w)
			for _, l := range [][]api.Part{
				{part(set, 1), part(set, 2)}, {part(set, 1), part(set, 1)}, {part(set, 1), part(other, 1), part(set, w)},
				{part(set), part(set)}, {part(set), part(set, 1)}, {part(set, 1), part(set)}, {part(other), part(set), part(set, 3)},
			} {
				wantNoJoin(t, l, w, api.ErrBusy)
			}
		}
		// Even a set of which no id is.
		wantNoJoin(t, []api.Part{part(127), part(127)}, w, api.ErrBusy)
	}
}

func TestJoinRefusesIdsAboveMaxId(t *testing.T) {
	for _, w := range widths {
		wantJoin(t, []api.Part{part(1024/w-1, 1, w)}, w, []int{1024 - w + 1, 1024})
		for set := 1024 / w; set < 128; set++ {
			for _, bit := range []int{1, 2, w} {
				wantNoJoin(t, []api.Part{part(set, bit)}, w, api.ErrLong)
				wantNoJoin(t, []api.Part{part(0, 1), part(set, 1, bit), part(1, 1)}, w, api.ErrLong)
			}
		}
	}
}

func TestJoinPartByPart(t *testing.T) {
	for _, w := range []int{16, 32, 64, 128} {
		good, busy, long := part(0, 1), part(0, 2), part(120, 1)
		noSet, noBits := part(128, 1), part(0, w+1)
		for _, x := range []struct {
			l    []api.Part
			want api.Errno
		}{
			{[]api.Part{good, busy, long, noSet}, api.ErrBusy},
			{[]api.Part{good, busy, noBits}, api.ErrBusy},
			{[]api.Part{good, long, busy}, api.ErrLong},
			{[]api.Part{good, long, noSet}, api.ErrLong},
			{[]api.Part{good, long, noBits}, api.ErrLong},
			{[]api.Part{good, noSet, busy, long}, api.ErrArg},
			{[]api.Part{good, noBits, busy, long}, api.ErrArg},
			{[]api.Part{good, noBits}, api.ErrArg},
			{[]api.Part{noBits, good, busy}, api.ErrArg},
			{[]api.Part{long, long}, api.ErrLong},
			// Of one part: its bits come ahead of its set's being there, that ahead of its ids.
			{[]api.Part{part(120), part(120, w+1)}, api.ErrArg},
			{[]api.Part{part(120), part(120, 1)}, api.ErrBusy},
			{[]api.Part{part(120, w+1)}, api.ErrArg},
		} {
			wantNoJoin(t, x.l, w, x.want)
		}
	}
}

func TestJoinRefusesWidths(t *testing.T) {
	for _, w := range noWidths() {
		for _, l := range [][]api.Part{
			nil, {}, {{}}, {part(0, 1)}, {part(0, 1), part(1, 1)}, {part(0, 1), part(0, 1)}, {part(127, 256)}, {part(128, 1)},
		} {
			wantNoJoin(t, l, w, api.ErrArg)
		}
	}
}

func TestJoinLeavesTheParts(t *testing.T) {
	mark := part(77, 1, 2, 3)
	for _, w := range widths {
		for _, parts := range [][]api.Part{
			nil, {part(0, 1)}, {part(1, 1, 2), part(0, 3, 8)}, {part(3, 1), part(2), part(1, 8), part(0, 1)}, {part(2, 1), part(1, 1), part(2, 1)},
		} {
			l := guarded(parts, mark)
			ids, _ := sets.Join(l, w)
			checkGuarded(t, l, parts, mark)
			again, _ := sets.Join(l, w)
			want := slices.Clone(again)
			for i := range ids {
				ids[i] = -1
			}
			for i := range l {
				l[i] = mark
			}
			if !slices.Equal(again, want) {
				t.Errorf("Join(%v, %d) shares memory with what it answered ahead, or was handed", parts, w)
			}
		}
	}
}

// P4.4

func TestIdLeadsBackFromPlace(t *testing.T) {
	for _, w := range widths {
		for id := 1; id <= 1024; id++ {
			set, bit, _ := sets.Place(id, w)
			if back, e := sets.Id(set, bit, w); back != id || e != api.OK {
				t.Errorf("Id(Place(%d, %d)) = %d, %d", id, w, back, e)
			}
		}
	}
}

func TestPlaceLeadsBackFromId(t *testing.T) {
	for _, w := range widths {
		back := 0
		for set := range 128 {
			for bit := 1; bit <= w; bit++ {
				id, e := sets.Id(set, bit, w)
				if e != api.OK {
					continue
				}
				back++
				if s, b, e := sets.Place(id, w); s != set || b != bit || e != api.OK {
					t.Errorf("Place(Id(%d, %d, %d)) = %d, %d, %d", set, bit, w, s, b, e)
				}
			}
		}
		if back != 1024 {
			t.Errorf("%d places of the width %d have an id", back, w)
		}
	}
}

func TestJoinOfSplit(t *testing.T) {
	tried := 0
	for _, w := range widths {
		for _, ids := range lists() {
			l, e := sets.Split(ids, w)
			if e == api.ErrTooManySets {
				continue
			}
			tried++
			wantJoin(t, l, w, rising(ids))
			slices.Reverse(l)
			wantJoin(t, l, w, rising(ids))
		}
	}
	if tried < 100 {
		t.Errorf("only %d lists are tried", tried)
	}
}

// Parts of any order that have bits, at most MaxSets of them: Split leads back to them, rising.
func TestSplitOfJoin(t *testing.T) {
	d := dice(7)
	for _, w := range widths {
		for range 200 {
			l := split(d.draw(1+d.below(60), 1+d.below(4), w), w)
			want := slices.Clone(l)
			slices.Reverse(l)
			ids, _ := sets.Join(l, w)
			wantSplit(t, ids, w, want)
		}
	}
}

func TestSplitOfTwoLists(t *testing.T) {
	tried := 0
	for _, w := range widths {
		d := dice(w)
		for range 200 {
			a, b := d.draw(20, 2, w), d.draw(20, 2, w)
			b = slices.DeleteFunc(b, func(id int) bool {
				return slices.ContainsFunc(a, func(other int) bool { return (id-1)/w == (other-1)/w })
			})
			l, _ := sets.Split(a, w)
			more, _ := sets.Split(b, w)
			want := append(l, more...)
			slices.SortFunc(want, func(x, y api.Part) int { return x.Set - y.Set })
			wantSplit(t, append(slices.Clone(a), b...), w, want)
			wantSplit(t, append(slices.Clone(b), a...), w, want)
			if len(more) > 0 {
				tried++
			}
		}
	}
	if tried < 500 {
		t.Errorf("only %d pairs of lists are tried", tried)
	}
}

func TestGreaterWidthMakesNoMoreSets(t *testing.T) {
	for _, ids := range lists() {
		last := 1024
		for _, w := range widths {
			n, e := sets.Sets(ids, w)
			if n > last || e != api.OK {
				t.Errorf("Sets(%v, %d) = %d, %d; at half the width there are %d", ids, w, n, e, last)
			}
			last = n
		}
	}
}

// join is the document's words, one by one.
func join(l []api.Part, width int) ([]int, api.Errno) {
	if !slices.Contains(widths, width) {
		return nil, api.ErrArg
	}
	var ids, had []int
	for _, p := range l {
		if p.Set < 0 || p.Set > 127 {
			return nil, api.ErrArg
		}
		var bits []int
		for n := 1; n <= 256; n++ {
			if p.Bits[(n-1)/64]>>((n-1)%64)&1 == 1 {
				bits = append(bits, n)
			}
		}
		if len(bits) > 0 && slices.Max(bits) > width {
			return nil, api.ErrArg
		}
		if slices.Contains(had, p.Set) {
			return nil, api.ErrBusy
		}
		for _, n := range bits {
			if p.Set*width+n > 1024 {
				return nil, api.ErrLong
			}
			ids = append(ids, p.Set*width+n)
		}
		had = append(had, p.Set)
	}
	return rising(ids), api.OK
}

// FuzzJoin takes four bytes a part: its set, two bits, and whether they are there.
func FuzzJoin(f *testing.F) {
	f.Add(8, "\x01\x00\x00\x01\x00\x00\x02\x03")
	f.Add(8, "\x00\x08\x00\x01")
	f.Add(256, "\x04\x00\x00\x01")
	f.Add(16, "\x00\x00\x00\x00\x00\x00\x00\x00")
	f.Fuzz(func(t *testing.T, width int, s string) {
		var l []api.Part
		for ; len(s) >= 4; s = s[4:] {
			p := api.Part{Set: int(int8(s[0]))}
			if s[3]&1 != 0 {
				p = part(p.Set, int(s[1])+1)
			}
			if s[3]&2 != 0 {
				p.Bits[s[2]/64] |= 1 << (s[2] % 64)
			}
			if s[3]&4 != 0 {
				p.Set += 1 << 32
			}
			l = append(l, p)
		}
		for _, w := range append([]int{width}, widths...) {
			want, wantE := join(l, w)
			if ids, e := sets.Join(l, w); !slices.Equal(ids, want) || e != wantE {
				t.Errorf("Join(%v, %d) = %v, %d; asked for: %v, %d", l, w, ids, e, want, wantE)
			}
		}
	})
}
