package heap_test

import (
	"math"
	"runtime"
	"slices"
	"strings"
	"testing"
	"weak"

	"dandelion/heap"
)

// thing is ordered by its key; its tag tells it from those that are as good.
type thing struct{ key, tag int }

func byKey(a, b thing) bool { return a.key < b.key }

func byTens(a, b int) bool { return a/10 < b/10 }

func below(a, b int) bool { return a < b }

// things have these keys; their tags, from 1 on, tell the places at which they stand.
func things(keys ...int) []thing {
	var l []thing
	for i, key := range keys {
		l = append(l, thing{key, i + 1})
	}
	return l
}

// model keeps things in the order in which they came, and looks at all of them for the least one.
type model[T any] struct {
	less func(a, b T) bool
	in   []T
}

func (m *model[T]) push(v T) { m.in = append(m.in, v) }

func (m *model[T]) least() int {
	best := 0
	for i := range m.in {
		if m.less(m.in[i], m.in[best]) {
			best = i
		}
	}
	return best
}

func (m *model[T]) peek() (v T, ok bool) {
	if len(m.in) == 0 {
		return v, false
	}
	return m.in[m.least()], true
}

func (m *model[T]) pop() (v T, ok bool) {
	if v, ok = m.peek(); ok {
		i := m.least()
		m.in = slices.Delete(m.in, i, i+1)
	}
	return v, ok
}

// sorted is what the model tells of l, one after another.
func sorted[T any](l []T, less func(a, b T) bool) []T {
	m := model[T]{less: less, in: slices.Clone(l)}
	var out []T
	for len(m.in) > 0 {
		v, _ := m.pop()
		out = append(out, v)
	}
	return out
}

// dice is a row of numbers that is the same each time.
type dice uint64

func (d *dice) below(n int) int {
	*d = *d*6364136223846793005 + 1442695040888963407
	return int(uint64(*d) >> 33 % uint64(n))
}

func (d *dice) keys(count, limit int) []int {
	var l []int
	for range count {
		l = append(l, d.below(limit))
	}
	return l
}

func (d *dice) shuffled(l []thing) []thing {
	l = slices.Clone(l)
	for i := len(l) - 1; i > 0; i-- {
		j := d.below(i + 1)
		l[i], l[j] = l[j], l[i]
	}
	return l
}

// eachWord goes through all words of that length, of letters from 0 to letters - 1.
func eachWord(length, letters int, do func(word []int)) {
	word := make([]int, length)
	for {
		do(word)
		i := 0
		for i < length && word[i] == letters-1 {
			word[i] = 0
			i++
		}
		if i == length {
			return
		}
		word[i]++
	}
}

func made[T any](t *testing.T, less func(a, b T) bool, l ...T) *heap.Heap[T] {
	t.Helper()
	h := heap.New(less)
	if h == nil {
		t.Fatal("New with an order is nil")
	}
	for i, v := range l {
		if !h.Push(v) {
			t.Fatalf("Push(%v) is false", v)
		}
		if h.Len() != i+1 {
			t.Fatalf("Len is %d after %d pushes", h.Len(), i+1)
		}
	}
	return h
}

// emptied pops till nothing is left, and looks that Peek and Len go with Pop.
func emptied[T comparable](t *testing.T, h *heap.Heap[T]) []T {
	t.Helper()
	var out []T
	for count := h.Len(); count > 0; count-- {
		p, there := h.Peek()
		if h.Len() != count {
			t.Fatalf("Len is %d after Peek; it was %d", h.Len(), count)
		}
		v, ok := h.Pop()
		if !there || !ok || p != v {
			t.Fatalf("Peek is %v, %v, then Pop %v, %v", p, there, v, ok)
		}
		if h.Len() != count-1 {
			t.Fatalf("Len is %d after Pop; it was %d", h.Len(), count)
		}
		out = append(out, v)
	}
	wantEmpty(t, h)
	return out
}

func wantEmpty[T comparable](t *testing.T, h *heap.Heap[T]) {
	t.Helper()
	var none T
	if v, ok := h.Peek(); v != none || ok {
		t.Fatalf("Peek of an empty heap is %v, %v", v, ok)
	}
	if v, ok := h.Pop(); v != none || ok {
		t.Fatalf("Pop of an empty heap is %v, %v", v, ok)
	}
	if h.Len() != 0 {
		t.Fatalf("Len of an empty heap is %d", h.Len())
	}
}

func wantList[T comparable](t *testing.T, what string, l, want []T) {
	t.Helper()
	if !slices.Equal(l, want) {
		t.Fatalf("%s: %v; it should be %v", what, l, want)
	}
}

// wantSame looks that each thing is there just as many times as it should be.
func wantSame[T comparable](t *testing.T, what string, l, want []T) {
	t.Helper()
	left := map[T]int{}
	for _, v := range want {
		left[v]++
	}
	for _, v := range l {
		left[v]--
	}
	for v, n := range left {
		if n != 0 {
			t.Fatalf("%s: %v: %v is there %d times too few", what, l, v, n)
		}
	}
}

// P5.1

func TestNewWithoutAnOrder(t *testing.T) {
	if heap.New[int](nil) != nil || heap.New[string](nil) != nil || heap.New[[]thing](nil) != nil {
		t.Error("New(nil) is not nil")
	}
	var none func(a, b thing) bool
	if heap.New(none) != nil {
		t.Error("New of a variable without an order is not nil")
	}
}

func TestNewIsEmpty(t *testing.T) {
	wantEmpty(t, made(t, below))
	wantEmpty(t, made(t, byKey))
	wantEmpty(t, made(t, func(a, b string) bool { return a < b }))
}

func TestPushAndLen(t *testing.T) {
	h := made(t, below)
	for n := range 300 {
		if !h.Push(n%7) || h.Len() != n+1 {
			t.Fatalf("Len is %d after %d pushes", h.Len(), n+1)
		}
	}
	for n := range 300 {
		h.Pop()
		if h.Len() != 299-n {
			t.Fatalf("Len is %d after 300 pushes and %d pops", h.Len(), n+1)
		}
	}
}

func TestPushOfZeroThings(t *testing.T) {
	h := made(t, below, 0, 0)
	for range 2 {
		if v, ok := h.Peek(); v != 0 || !ok {
			t.Errorf("Peek is %v, %v", v, ok)
		}
		if v, ok := h.Pop(); v != 0 || !ok {
			t.Errorf("Pop is %v, %v", v, ok)
		}
	}
	wantEmpty(t, h)
}

func wantNotThere[T comparable](t *testing.T, h *heap.Heap[T], v T) {
	t.Helper()
	for range 3 {
		if h.Push(v) {
			t.Errorf("Push(%v) to a heap that is not there is true", v)
		}
		wantEmpty(t, h)
	}
}

func TestHeapsThatAreNotThere(t *testing.T) {
	wantNotThere(t, nil, 7)
	wantNotThere(t, nil, "x")
	wantNotThere(t, nil, thing{1, 2})
	wantNotThere(t, heap.New[int](nil), 7)
	wantNotThere(t, new(heap.Heap[int]), 7)
	wantNotThere(t, &heap.Heap[string]{}, "x")
	var h heap.Heap[thing]
	wantNotThere(t, &h, thing{1, 2})
}

func TestHeapsAreApart(t *testing.T) {
	a, b := made(t, below), made(t, func(a, b int) bool { return a > b })
	for n := range 20 {
		a.Push(n)
		b.Push(n + 100)
	}
	for n := range 20 {
		v, _ := a.Pop()
		w, _ := b.Pop()
		if v != n || w != 119-n {
			t.Fatalf("popped %d and %d", v, w)
		}
	}
}

// P5.2

func TestExamplesOfTheDocument(t *testing.T) {
	h := made(t, byTens, 42, 41, 30, 45)
	wantList(t, "popped", emptied(t, h), []int{30, 42, 41, 45})
	wantEmpty(t, h)
	wantList(t, "Sort", heap.Sort([]int{42, 30, 41, 12}, byTens), []int{12, 30, 42, 41})
	if l := heap.Sort([]int{1}, nil); len(l) != 0 {
		t.Errorf("Sort(1; nil) is %v", l)
	}
}

func TestOneThing(t *testing.T) {
	for _, n := range []int{0, 1, -1, math.MinInt, math.MaxInt} {
		wantList(t, "popped", emptied(t, made(t, below, n)), []int{n})
	}
}

func TestPeekStays(t *testing.T) {
	h := made(t, byTens, 42, 41, 30, 39)
	for range 5 {
		if v, ok := h.Peek(); v != 30 || !ok || h.Len() != 4 {
			t.Fatalf("Peek is %v, %v; Len %d", v, ok, h.Len())
		}
	}
	wantList(t, "popped", emptied(t, h), []int{30, 39, 42, 41})
}

func TestPopWhenItIsEmptyAndPushesAfterIt(t *testing.T) {
	h := made(t, byKey)
	for round := range 20 {
		for range round % 4 {
			wantEmpty(t, h)
		}
		l := things(3, 1, 3, 2, 1, 2, 3)
		for _, v := range l[:round%8] {
			h.Push(v)
		}
		wantList(t, "popped", emptied(t, h), sorted(l[:round%8], byKey))
	}
}

func TestAsGoodComeAsTheyWerePushed(t *testing.T) {
	for count := range 200 {
		l := things(make([]int, count)...)
		wantList(t, "popped", emptied(t, made(t, byKey, l...)), l)
	}
}

// They stay behind those that were pushed ahead of them, whatever went out between.
func TestAsGoodByTurns(t *testing.T) {
	h := made(t, byKey)
	next, out := 0, 0
	push := func() { next++; h.Push(thing{5, next}) }
	pop := func() {
		out++
		if v, ok := h.Pop(); v != (thing{5, out}) || !ok {
			t.Fatalf("Pop is %v, %v; the tag should be %d", v, ok, out)
		}
	}
	for range 10 {
		push()
	}
	for range 500 {
		push()
		push()
		pop()
		h.Push(thing{1, 0})
		if v, _ := h.Pop(); v.key != 1 {
			t.Fatalf("Pop is %v", v)
		}
		pop()
	}
}

// Each word of pushes of three keys, of pops and of peeks, up to a length.
func TestAllShortTurns(t *testing.T) {
	for length := range 8 {
		eachWord(length, 5, func(word []int) {
			h, m := heap.New(byKey), model[thing]{less: byKey}
			for i, letter := range word {
				play(t, h, &m, letter, thing{letter, i + 1})
			}
			wantList(t, "popped", emptied(t, h), sorted(m.in, byKey))
		})
	}
}

// play does the letter 3 as Pop, 4 as Peek, others as a push of v, to both.
func play[T comparable](t *testing.T, h *heap.Heap[T], m *model[T], letter int, v T) {
	t.Helper()
	var got, want T
	var ok, there bool
	switch letter {
	case 3:
		got, ok = h.Pop()
		want, there = m.pop()
	case 4:
		got, ok = h.Peek()
		want, there = m.peek()
	default:
		ok, there = h.Push(v), true
		m.push(v)
	}
	if got != want || ok != there || h.Len() != len(m.in) {
		t.Fatalf("after the letter %d: %v, %v, Len %d; it should be %v, %v, %d", letter, got, ok, h.Len(), want, there, len(m.in))
	}
}

func TestLongTurns(t *testing.T) {
	var d dice = 5
	for _, limit := range []int{1, 2, 10, 1000} {
		h, m := heap.New(byKey), model[thing]{less: byKey}
		for tag := range 6000 {
			// Pushes are more at first, pops at last.
			letter := d.below(3)
			if tag > 1000 {
				letter = 1 + d.below(4)
			}
			play(t, h, &m, letter, thing{d.below(limit), tag})
		}
	}
}

func TestThingsOfSeveralKinds(t *testing.T) {
	words := strings.Fields("the least of all these words comes first and the last one last")
	wantList(t, "words", emptied(t, made(t, func(a, b string) bool { return len(a) < len(b) }, words...)),
		strings.Fields("of the all and the one last last least these words comes first"))
	wantList(t, "numbers", emptied(t, made(t, func(a, b float64) bool { return a < b }, 2.5, -1, math.Inf(1), 0, math.Inf(-1))),
		[]float64{math.Inf(-1), -1, 0, 2.5, math.Inf(1)})
	wantList(t, "bools", emptied(t, made(t, func(a, b bool) bool { return !a && b }, true, false, true, false)),
		[]bool{false, false, true, true})
	wantList(t, "arrays", emptied(t, made(t, func(a, b [2]int8) bool { return a[1] < b[1] }, [2]int8{1, 3}, [2]int8{2, -3}, [2]int8{3, 3})),
		[][2]int8{{2, -3}, {1, 3}, {3, 3}})
	wantList(t, "nothings", emptied(t, made(t, func(a, b struct{}) bool { return false }, struct{}{}, struct{}{})),
		[]struct{}{{}, {}})
	wantList(t, "things of any kind", emptied(t, made(t, func(a, b any) bool { return a == nil && b != nil }, any(7), nil, "x", nil)),
		[]any{nil, nil, 7, "x"})
}

func TestThingsThatAreListsOrPointers(t *testing.T) {
	one, two, three := &thing{1, 1}, &thing{2, 2}, &thing{3, 3}
	wantList(t, "pointers", emptied(t, made(t, func(a, b *thing) bool { return a.key > b.key }, two, one, three, two)),
		[]*thing{three, two, two, one})
	h := made(t, func(a, b []int) bool { return len(a) < len(b) }, []int{1, 2}, []int{}, []int{3}, []int{4, 5, 6}, nil)
	var all []int
	for count := 5; count > 0; count-- {
		l, ok := h.Pop()
		if !ok {
			t.Fatalf("Pop is false with %d things left", count)
		}
		all = append(all, l...)
	}
	wantList(t, "lists, one behind another", all, []int{3, 1, 2, 4, 5, 6})
	if l, ok := h.Pop(); l != nil || ok {
		t.Errorf("Pop of an empty heap is %v, %v", l, ok)
	}
}

func TestNumbersAtTheEnds(t *testing.T) {
	l := []int{math.MaxInt, 0, math.MinInt, -1, math.MaxInt - 1, 1, math.MinInt + 1}
	want := slices.Sorted(slices.Values(l))
	wantList(t, "popped", emptied(t, made(t, below, l...)), want)
	wantList(t, "Sort", heap.Sort(l, below), want)
}

// The order may look into what it is asked of: it is never asked of a thing that is not there.
func TestTheOrderIsAskedOfWhatIsInTheHeap(t *testing.T) {
	var d dice = 77
	in := map[int]int{}
	asked := 0
	h := heap.New(func(a, b int) bool {
		asked++
		if in[a] == 0 || in[b] == 0 {
			t.Fatalf("less(%d, %d) with %v in the heap", a, b, in)
		}
		return a%10 < b%10
	})
	for n := 1; n < 3000; n++ {
		if d.below(5) < 3 {
			in[n]++
			h.Push(n)
			continue
		}
		if v, ok := h.Pop(); ok {
			delete(in, v)
		}
		h.Peek()
	}
	if asked == 0 {
		t.Error("the order is never asked")
	}
}

func TestTheOrderIsAskedOfWhatIsInTheList(t *testing.T) {
	l := []int{5, 3, 9, 3, 7, 1, 8}
	heap.Sort(l, func(a, b int) bool {
		if !slices.Contains(l, a) || !slices.Contains(l, b) {
			t.Errorf("less(%d, %d) of %v", a, b, l)
		}
		return a < b
	})
}

// handed pushes things that nothing else keeps, and pops them all.
func handed(h *heap.Heap[*[64]int], count int) []weak.Pointer[[64]int] {
	var l []weak.Pointer[[64]int]
	for n := range count {
		p := &[64]int{n}
		l = append(l, weak.Make(p))
		h.Push(p)
	}
	for h.Len() > 0 {
		h.Pop()
	}
	return l
}

func TestWhatIsOutIsNotKept(t *testing.T) {
	h := heap.New(func(a, b *[64]int) bool { return a[0] < b[0] })
	// On a stack of its own, which goes with the things that are left there.
	done := make(chan []weak.Pointer[[64]int])
	go func() { done <- handed(h, 100) }()
	l := <-done
	for range 3 {
		runtime.GC()
	}
	for n, p := range l {
		if p.Value() != nil {
			t.Fatalf("the heap keeps the thing %d, which is out of it", n)
		}
	}
	runtime.KeepAlive(h)
}

// P5.3

func TestSortOfNoList(t *testing.T) {
	if l := heap.Sort(nil, below); len(l) != 0 {
		t.Errorf("Sort of no list is %v", l)
	}
	if l := heap.Sort([]int{}, below); len(l) != 0 {
		t.Errorf("Sort of an empty list is %v", l)
	}
	if l := heap.Sort[int](nil, nil); len(l) != 0 {
		t.Errorf("Sort of no list without an order is %v", l)
	}
}

func TestSortWithoutAnOrder(t *testing.T) {
	for count := range 5 {
		if l := heap.Sort(make([]int, count), nil); len(l) != 0 {
			t.Errorf("Sort of %d things without an order is %v", count, l)
		}
	}
}

func TestSortOfAllShortLists(t *testing.T) {
	for length := range 9 {
		eachWord(length, 3, func(word []int) {
			l := things(word...)
			want := slices.Clone(l)
			slices.SortStableFunc(want, func(a, b thing) int { return a.key - b.key })
			wantList(t, "Sort", heap.Sort(l, byKey), want)
			wantList(t, "the model", sorted(l, byKey), want)
		})
	}
}

func TestSortOfLongLists(t *testing.T) {
	var d dice = 11
	for _, limit := range []int{1, 2, 7, 1 << 10, 1 << 30} {
		for _, count := range []int{100, 255, 256, 257, 1 << 16} {
			l := things(d.keys(count, limit)...)
			want := slices.Clone(l)
			slices.SortStableFunc(want, func(a, b thing) int { return a.key - b.key })
			got := heap.Sort(l, byKey)
			if !slices.Equal(got, want) {
				t.Fatalf("Sort of %d things with keys below %d is not right", count, limit)
			}
			if again := heap.Sort(got, byKey); !slices.Equal(again, want) {
				t.Fatalf("Sort of %d sorted things is not right", count)
			}
			slices.Reverse(want)
			if fall := heap.Sort(want, byKey); !slices.IsSortedFunc(fall, func(a, b thing) int { return a.key - b.key }) {
				t.Fatalf("Sort of %d falling things is not right", count)
			}
		}
	}
}

func TestSortOfThingsOfSeveralKinds(t *testing.T) {
	wantList(t, "words", heap.Sort(strings.Fields("b a c a"), func(a, b string) bool { return a > b }), strings.Fields("c b a a"))
	wantList(t, "nothings", heap.Sort(make([]struct{}, 3), func(a, b struct{}) bool { return false }), make([]struct{}, 3))
	lists := heap.Sort([][]int{{1, 2}, nil, {3}}, func(a, b []int) bool { return len(a) < len(b) })
	if len(lists) != 3 || len(lists[0]) != 0 || !slices.Equal(lists[1], []int{3}) || !slices.Equal(lists[2], []int{1, 2}) {
		t.Errorf("Sort of lists is %v", lists)
	}
}

// guarded is a copy of l with marked room behind its end.
func guarded[T any](l []T, mark T) []T {
	room := append(slices.Clone(l), mark, mark, mark, mark)
	return room[:len(l)]
}

func TestSortLeavesItsList(t *testing.T) {
	mark := thing{-9, -9}
	orders := []func(a, b thing) bool{
		nil, byKey,
		func(a, b thing) bool { return a.key > b.key },
		func(a, b thing) bool { return true },
		func(a, b thing) bool { return false },
	}
	for _, want := range [][]thing{nil, things(4), things(1, 2), things(2, 1), things(3, 1, 2, 3, 1, 2), things(9, 8, 7, 6, 5, 4, 3, 2, 1)} {
		for _, less := range orders {
			l := guarded(want, mark)
			heap.Sort(l, less)
			wantList(t, "the list that was handed in", l, want)
			wantList(t, "the room behind it", l[:len(l)+4][len(l):], []thing{mark, mark, mark, mark})
		}
	}
}

func TestSortAnswersNewMemory(t *testing.T) {
	for _, handed := range [][]thing{things(4), things(1, 2), things(3, 1, 2)} {
		l := slices.Clone(handed)
		first, again := heap.Sort(l, byKey), heap.Sort(l, byKey)
		want := slices.Clone(again)
		for i := range first {
			first[i] = thing{-1, -1}
		}
		wantList(t, "the list, after its answer was changed", l, handed)
		clear(l)
		clear(first[:cap(first)])
		wantList(t, "an answer, after its list and another answer were changed", again, want)
	}
}

// P5.4

// wrongOrders are made anew for each use: some of them count how often they were asked.
func wrongOrders() map[string]func(a, b thing) bool {
	turn, d, asked := false, dice(3), 0
	return map[string]func(a, b thing) bool{
		"always true":         func(a, b thing) bool { return true },
		"always false":        func(a, b thing) bool { return false },
		"otherwise by turns":  func(a, b thing) bool { turn = !turn; return turn },
		"otherwise by chance": func(a, b thing) bool { return d.below(2) == 0 },
		"true at first":       func(a, b thing) bool { asked++; return asked < 40 },
		"at most":             func(a, b thing) bool { return a.key <= b.key },
		"in a circle":         func(a, b thing) bool { return (b.key-a.key+3)%3 == 1 },
		"unlike":              func(a, b thing) bool { return a.key != b.key },
		"by the first one":    func(a, b thing) bool { return a.key%2 == 0 },
		"by the second one":   func(a, b thing) bool { return b.tag%3 == 0 },
		"at most one less":    func(a, b thing) bool { return a.key < b.key-1 },
	}
}

func TestWrongOrdersPopped(t *testing.T) {
	var d dice = 21
	for _, count := range []int{0, 1, 2, 3, 7, 8, 9, 100, 1000} {
		l := things(d.keys(count, 9)...)
		for name, less := range wrongOrders() {
			h := made(t, less, l...)
			out := emptied(t, h)
			wantSame(t, name, out, l)
			h.Push(thing{1, 1})
			wantList(t, name+", one pushed after all", emptied(t, h), things(1))
		}
	}
}

func TestWrongOrdersByTurns(t *testing.T) {
	for name, less := range wrongOrders() {
		var d dice = 22
		h := made(t, less)
		var in, out []thing
		for tag := range 3000 {
			if d.below(5) < 3 {
				v := thing{d.below(9), tag}
				in = append(in, v)
				h.Push(v)
			} else if p, there := h.Peek(); there {
				v, ok := h.Pop()
				if v != p || !ok {
					t.Fatalf("%s: Peek is %v, then Pop %v, %v", name, p, v, ok)
				}
				out = append(out, v)
			}
			if h.Len() != len(in)-len(out) {
				t.Fatalf("%s: Len is %d after %d pushes and %d pops", name, h.Len(), len(in), len(out))
			}
		}
		wantSame(t, name, append(out, emptied(t, h)...), in)
	}
}

func TestWrongOrdersSorted(t *testing.T) {
	var d dice = 23
	for _, count := range []int{0, 1, 2, 3, 7, 8, 9, 100, 1000} {
		// Things that are there several times come out as many times.
		l := things(d.keys(count, 9)...)
		for i := range l {
			l[i].tag %= 4
		}
		for name, less := range wrongOrders() {
			out := heap.Sort(l, less)
			if len(out) != count {
				t.Fatalf("%s: Sort has %d things of %d", name, len(out), count)
			}
			wantSame(t, name, out, l)
		}
	}
}

// Floats have one that is not less, not more, and as good as none.
func TestNumbersThatAreNone(t *testing.T) {
	none := math.NaN()
	l := []float64{2, none, 1, none, 3, none, 0}
	for _, out := range [][]float64{
		heap.Sort(l, func(a, b float64) bool { return a < b }),
		heap.Sort(l, func(a, b float64) bool { return !(a >= b) }),
	} {
		count := 0
		var rest []float64
		for _, f := range out {
			if f != f {
				count++
			} else {
				rest = append(rest, f)
			}
		}
		slices.Sort(rest)
		if count != 3 || !slices.Equal(rest, []float64{0, 1, 2, 3}) {
			t.Errorf("Sort is %v", out)
		}
	}
}

// relation is an order of keys below a limit, right or not: a bit for each two.
type relation struct {
	bits  uint64
	limit int
}

func (r relation) has(a, b int) bool { return r.bits>>(a*r.limit+b)&1 == 1 }

func (r relation) less(a, b thing) bool { return r.has(a.key, b.key) }

// right goes through the document's words of a right order.
func (r relation) right() bool {
	for a := range r.limit {
		for b := range r.limit {
			if r.has(a, b) && (a == b || r.has(b, a)) {
				return false
			}
			good := !r.has(a, b) && !r.has(b, a)
			for c := range r.limit {
				if r.has(a, b) && r.has(b, c) && !r.has(a, c) {
					return false
				}
				if good && (r.has(a, c) != r.has(b, c) || r.has(c, a) != r.has(c, b)) {
					return false
				}
			}
		}
	}
	return true
}

// check plays pushes of the keys, with pops between them where pops has the key's place, and holds what comes out against the promises.
func (r relation) check(t *testing.T, keys []int, pops func(i int) bool) {
	t.Helper()
	h, m, right := made(t, r.less), model[thing]{less: r.less}, r.right()
	l := things(keys...)
	var out []thing
	for i, v := range l {
		h.Push(v)
		m.push(v)
		if !pops(i) {
			continue
		}
		got, ok := h.Pop()
		if !ok {
			t.Fatal("Pop is false after a push")
		}
		out = append(out, got)
		if want, _ := m.pop(); right && got != want {
			t.Fatalf("order %v, keys %v: Pop is %v; it should be %v", r, keys, got, want)
		}
	}
	rest := emptied(t, h)
	wantSame(t, "all that came out", append(out, rest...), l)
	wantSame(t, "Sort", heap.Sort(l, r.less), l)
	wantList(t, "Sort again", heap.Sort(l, r.less), heap.Sort(l, r.less))
	if right {
		wantList(t, "the rest", rest, sorted(m.in, r.less))
		wantList(t, "Sort by a right order", heap.Sort(l, r.less), sorted(l, r.less))
	}
}

func TestAllOrdersOfThreeKeys(t *testing.T) {
	rights := 0
	for bits := range uint64(512) {
		r := relation{bits, 3}
		if r.right() {
			rights++
		}
		for length := range 6 {
			eachWord(length, 3, func(word []int) {
				r.check(t, word, func(i int) bool { return i%3 == 2 })
			})
		}
	}
	if rights != 13 {
		t.Errorf("%d right orders of three keys: there are 13", rights)
	}
}

func FuzzHeap(f *testing.F) {
	f.Add(uint64(0), []byte{1, 2, 3})
	f.Add(^uint64(0), []byte{3, 2, 0x81, 7, 0x85})
	f.Add(uint64(0x0080c0e0f0f8fcfe), []byte("the keys are their lowest three bits"))
	f.Fuzz(func(t *testing.T, bits uint64, raw []byte) {
		var keys []int
		for _, c := range raw {
			keys = append(keys, int(c&7))
		}
		relation{bits, 8}.check(t, keys, func(i int) bool { return raw[i] >= 0x80 })
	})
}

// P5.5

// Where no two are as good, the order of the pushes is not to be seen.
func TestPushedInAnyOrder(t *testing.T) {
	var d dice = 31
	for count := range 120 {
		var l []thing
		for n := range count {
			l = append(l, thing{3*n - 50, n})
		}
		want := heap.Sort(l, byKey)
		wantList(t, "Sort", want, l)
		for range 8 {
			l = d.shuffled(l)
			wantList(t, "popped", emptied(t, made(t, byKey, l...)), want)
			wantList(t, "Sort", heap.Sort(l, byKey), want)
		}
	}
}

func TestAllOrdersOfSixThings(t *testing.T) {
	want := things(10, 20, 30, 40, 50, 60)
	eachWord(6, 6, func(word []int) {
		var l []thing
		for _, n := range word {
			l = append(l, want[n])
		}
		out := emptied(t, made(t, byKey, l...))
		wantList(t, "popped", out, heap.Sort(l, byKey))
		if len(slices.Compact(slices.Clone(out))) == 6 {
			wantList(t, "popped, each once", out, want)
		}
	})
}

// Where some are as good, they come out as Sort tells them in the order of the pushes.
func TestPoppedAsSortTells(t *testing.T) {
	var d dice = 32
	for _, limit := range []int{1, 2, 5, 50} {
		for count := range 150 {
			l := d.shuffled(things(d.keys(count, limit)...))
			wantList(t, "popped", emptied(t, made(t, byKey, l...)), heap.Sort(l, byKey))
		}
	}
}

func TestPoppedIsNeverMoreThanWhatIsIn(t *testing.T) {
	var d dice = 33
	h := made(t, byKey)
	in := map[thing]int{}
	for tag := range 5000 {
		if d.below(7) < 4 {
			v := thing{d.below(40), tag}
			in[v]++
			h.Push(v)
			continue
		}
		v, ok := h.Pop()
		if ok != (len(in) > 0) || ok && in[v] == 0 {
			t.Fatalf("Pop is %v, %v with %d things in the heap", v, ok, len(in))
		}
		delete(in, v)
		for w := range in {
			if byKey(w, v) {
				t.Fatalf("Pop is %v while %v is in the heap", v, w)
			}
		}
	}
}

func TestManyThings(t *testing.T) {
	const many = 1 << 18
	for name, key := range map[string]func(n int) int{
		"rising":  func(n int) int { return n },
		"falling": func(n int) int { return -n },
		"as good": func(n int) int { return 0 },
		"mixed":   func(n int) int { return n * 7919 % 10007 },
	} {
		h := heap.New(byKey)
		for n := range many {
			h.Push(thing{key(n), n})
		}
		last := thing{math.MinInt, 0}
		for range many {
			v, ok := h.Pop()
			if !ok || v.key < last.key || v.key == last.key && v.tag <= last.tag {
				t.Fatalf("%s: Pop is %v, %v behind %v", name, v, ok, last)
			}
			last = v
		}
		wantEmpty(t, h)
	}
}
