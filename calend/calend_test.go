package calend_test

import (
	"errors"
	"math"
	"runtime"
	"slices"
	"strconv"
	"testing"
	"weak"

	"dandelion/calend"
)

const end = math.MaxUint64

// atEnds has ticks that come out in another order where they are taken for numbers with a sign, for shorter ones, or for floats.
var atEnds = []uint64{0, 1, 2, math.MaxInt32, 1 << 31, math.MaxUint32, 1 << 32, 1<<32 + 1, 1 << 40, 1 << 53, 1<<53 + 1, math.MaxInt64, 1 << 63, 1<<63 + 1, end - 2, end - 1, end}

// item is what a model has: a thing, its tick, its ticket.
type item[T any] struct {
	at     uint64
	ticket int
	thing  T
}

func (a item[T]) ahead(b item[T]) bool {
	if a.at != b.at {
		return a.at < b.at
	}
	return a.ticket < b.ticket
}

// model keeps items in the order in which they were put, and looks through all of them.
type model[T any] struct {
	given int
	in    []item[T]
}

func (m *model[T]) put(at uint64, v T) int {
	m.given++
	m.in = append(m.in, item[T]{at, m.given, v})
	return m.given
}

func (m *model[T]) drop(ticket int) bool {
	for i, x := range m.in {
		if x.ticket == ticket {
			m.in = slices.Delete(m.in, i, i+1)
			return true
		}
	}
	return false
}

// first is asked of a model that has something.
func (m *model[T]) first() item[T] {
	best := m.in[0]
	for _, x := range m.in {
		if x.ahead(best) {
			best = x
		}
	}
	return best
}

func (m *model[T]) take(now uint64) []T {
	var l []T
	for len(m.in) > 0 && m.first().at <= now {
		l = append(l, m.first().thing)
		m.drop(m.first().ticket)
	}
	return l
}

func (m *model[T]) next() (uint64, bool) {
	if len(m.in) == 0 {
		return 0, false
	}
	return m.first().at, true
}

// sift also tells of what keep was asked.
func (m *model[T]) sift(keep func(v T) bool) (gone int, asked []T) {
	for _, x := range m.ordered() {
		asked = append(asked, x.thing)
		if !keep(x.thing) {
			m.drop(x.ticket)
			gone++
		}
	}
	return gone, asked
}

func (m *model[T]) ordered() []item[T] {
	c := m.copied()
	var l []item[T]
	for len(c.in) > 0 {
		l = append(l, c.first())
		c.drop(c.first().ticket)
	}
	return l
}

func (m *model[T]) copied() *model[T] {
	return &model[T]{given: m.given, in: slices.Clone(m.in)}
}

// both are a calendar, and the model of what it should be.
type both[T comparable] struct {
	c *calend.Calendar[T]
	m *model[T]
}

func fresh[T comparable](t *testing.T) both[T] {
	t.Helper()
	b := both[T]{calend.New[T](), &model[T]{}}
	if b.c == nil {
		t.Fatal("New is nil")
	}
	b.look(t)
	return b
}

func (b both[T]) look(t *testing.T) {
	t.Helper()
	if n := b.c.Len(); n != len(b.m.in) {
		t.Fatalf("Len is %d; it should be %d", n, len(b.m.in))
	}
	at, ok := b.c.Next()
	if want, is := b.m.next(); at != want || ok != is {
		t.Fatalf("Next is %d, %t; it should be %d, %t", at, ok, want, is)
	}
}

func (b both[T]) put(t *testing.T, at uint64, v T) int {
	t.Helper()
	n := b.c.Put(at, v)
	if want := b.m.put(at, v); n != want {
		t.Fatalf("Put(%d, %v) is %d; it should be %d", at, v, n, want)
	}
	b.look(t)
	return n
}

func (b both[T]) drop(t *testing.T, ticket int) bool {
	t.Helper()
	was := b.c.Drop(ticket)
	if want := b.m.drop(ticket); was != want {
		t.Fatalf("Drop(%d) is %t; it should be %t", ticket, was, want)
	}
	b.look(t)
	return was
}

func (b both[T]) take(t *testing.T, now uint64) []T {
	t.Helper()
	l := b.c.Take(now)
	wantList(t, "Take("+strconv.FormatUint(now, 10)+")", l, b.m.take(now))
	b.look(t)
	return l
}

func (b both[T]) sift(t *testing.T, keep func(v T) bool) int {
	t.Helper()
	var asked []T
	n := b.c.Sift(func(v T) bool { asked = append(asked, v); return keep(v) })
	want, order := b.m.sift(keep)
	if n != want {
		t.Fatalf("Sift is %d; it should be %d", n, want)
	}
	wantList(t, "keep was asked of", asked, order)
	b.look(t)
	return n
}

func (b both[T]) copied(t *testing.T) both[T] {
	t.Helper()
	c := both[T]{b.c.Copy(), b.m.copied()}
	if c.c == nil || c.c == b.c {
		t.Fatalf("Copy is %p of %p", c.c, b.c)
	}
	c.look(t)
	b.look(t)
	return c
}

// whole looks at what is in the calendar, with its ticks and tickets, by copies of it: by what is taken of each tick, by what each ticket drops, and by the ticket that comes then.
func (b both[T]) whole(t *testing.T) {
	t.Helper()
	c := b.copied(t)
	for _, x := range b.m.ordered() {
		c.copied(t).take(t, x.at)
		c.drop(t, x.ticket)
	}
	wantEmpty(t, c.c)
	c.put(t, 0, *new(T))
	b.copied(t).take(t, end)
	b.look(t)
}

func wantList[T comparable](t *testing.T, what string, l, want []T) {
	t.Helper()
	if !slices.Equal(l, want) {
		t.Fatalf("%s: %v; it should be %v", what, l, want)
	}
}

func wantEmpty[T any](t *testing.T, c *calend.Calendar[T]) {
	t.Helper()
	for _, now := range atEnds {
		if l := c.Take(now); len(l) != 0 {
			t.Fatalf("Take(%d) has %d things", now, len(l))
		}
	}
	if at, ok := c.Next(); at != 0 || ok {
		t.Fatalf("Next is %d, %t", at, ok)
	}
	if n := c.Len(); n != 0 {
		t.Fatalf("Len is %d", n)
	}
	if n := c.Sift(func(T) bool { t.Error("keep is asked"); return false }); n != 0 {
		t.Fatalf("Sift is %d", n)
	}
	if n := c.Sift(nil); n != 0 {
		t.Fatalf("Sift(nil) is %d", n)
	}
}

// dice is a row of numbers that is the same each time.
type dice uint64

func (d *dice) below(n int) int {
	*d = *d*6364136223846793005 + 1442695040888963407
	return int(uint64(*d) >> 33 % uint64(n))
}

// tick is one of the first few, or one at the ends.
func (d *dice) tick(few int) uint64 {
	if d.below(5) == 0 {
		return atEnds[d.below(len(atEnds))]
	}
	return uint64(d.below(few))
}

// eachWord goes through all words of that length, of letters from 0 to letters - 1.
func eachWord(length, letters int, do func(word []int)) {
	word := make([]int, length)
	for {
		do(word)
		i := 0
		for i < length && word[i] == letters-1 {
			word[i] = 0
			i++
		}
		if i == length {
			return
		}
		word[i]++
	}
}

func all(int) bool  { return true }
func none(int) bool { return false }
func odd(v int) bool {
	return v%2 != 0
}

func TestAsTheExamplesTell(t *testing.T) {
	c := calend.New[string]()
	if a, b, d := c.Put(5, "a"), c.Put(3, "b"), c.Put(5, "c"); a != 1 || b != 2 || d != 3 {
		t.Errorf("tickets %d, %d, %d", a, b, d)
	}
	if at, ok := c.Next(); at != 3 || !ok || c.Len() != 3 {
		t.Errorf("Next %d, %t; Len %d", at, ok, c.Len())
	}
	wantList(t, "Take(4)", c.Take(4), []string{"b"})
	wantList(t, "Take(5)", c.Take(5), []string{"a", "c"})
	wantList(t, "Take(9)", c.Take(9), nil)
	if at, ok := c.Next(); at != 0 || ok {
		t.Errorf("Next %d, %t", at, ok)
	}
	if x, y := c.Put(1, "x"), c.Put(1, "y"); x != 4 || y != 5 {
		t.Errorf("tickets %d, %d", x, y)
	}
	if !c.Drop(4) || c.Drop(4) {
		t.Error("Drop(4), Drop(4)")
	}
	wantList(t, "Take(1)", c.Take(1), []string{"y"})
	if p, q := c.Put(7, "p"), c.Put(7, "q"); p != 6 || q != 7 {
		t.Errorf("tickets %d, %d", p, q)
	}
	if n := c.Sift(func(v string) bool { return v == "p" }); n != 1 {
		t.Errorf("Sift: %d", n)
	}
	wantList(t, "Take(7)", c.Take(7), []string{"p"})
}

// P16.1

func TestNewIsEmpty(t *testing.T) {
	wantEmpty(t, calend.New[int]())
	wantEmpty(t, calend.New[string]())
	wantEmpty(t, calend.New[[]int]())
	wantEmpty(t, calend.New[func()]())
	wantEmpty(t, calend.New[struct{}]())
}

func TestTicketsAreCounted(t *testing.T) {
	var d dice = 3
	c := calend.New[int]()
	for n := 1; n <= 5000; n++ {
		if got := c.Put(d.tick(50), n); got != n {
			t.Fatalf("the ticket %d; it should be %d", got, n)
		}
		switch d.below(6) {
		case 0:
			c.Take(d.tick(50))
		case 1:
			c.Drop(n)
		case 2:
			c.Sift(odd)
		case 3:
			if twin := c.Copy().Put(0, 0); twin != n+1 {
				t.Fatalf("the copy's ticket %d; it should be %d", twin, n+1)
			}
		}
	}
}

func TestCalendarsAreApart(t *testing.T) {
	a, b := fresh[int](t), fresh[int](t)
	a.put(t, 3, 10)
	a.put(t, 1, 20)
	b.look(t)
	b.put(t, 2, 30)
	a.whole(t)
	b.drop(t, 1)
	b.drop(t, 2)
	a.take(t, 2)
	a.whole(t)
	b.whole(t)
	wantEmpty(t, calend.New[int]())
}

func TestDropTakesOneThing(t *testing.T) {
	for many := range 40 {
		for ticket := 1; ticket <= many; ticket++ {
			for _, step := range []int{0, 1, 7, 39} {
				b := fresh[int](t)
				for n := range many {
					b.put(t, uint64(n*step%40), n)
				}
				if !b.drop(t, ticket) || b.drop(t, ticket) {
					t.Fatalf("Drop(%d) of %d things, twice", ticket, many)
				}
				b.take(t, end)
			}
		}
	}
}

// Whatever goes out first, all that stay come in order.
func TestDropInAllOrders(t *testing.T) {
	for many := range 6 {
		eachWord(many, 5, func(word []int) {
			b := fresh[int](t)
			for n := range 5 {
				b.put(t, uint64(n*3%5), n)
			}
			for _, n := range word {
				b.drop(t, n+1)
			}
			b.take(t, end)
		})
	}
}

// Where the place that is left is filled from the end of a tree, what comes there may belong above it or below it.
func TestDropAmongMany(t *testing.T) {
	var d dice = 4
	for range 300 {
		b := fresh[int](t)
		for n := range 60 {
			b.put(t, d.tick(90), n)
		}
		for range 45 {
			b.drop(t, 1+d.below(60))
			b.put(t, d.tick(90), -1)
		}
		b.take(t, end)
	}
}

func TestDropOfTicketsThatAreNone(t *testing.T) {
	none := []int{0, -1, -2, -3, 4, 5, 99, math.MinInt, math.MinInt + 1, math.MinInt + 2, math.MaxInt, math.MaxInt - 1, 1 << 32, 1<<32 + 1, 1<<32 + 2, 1<<16 + 1, 1<<8 + 1, 1 - 1<<32, 2 - 1<<8}
	b := fresh[int](t)
	for _, ticket := range append(none, 1, 2, 3) {
		if b.drop(t, ticket) {
			t.Errorf("Drop(%d) of an empty calendar", ticket)
		}
	}
	for n := range 3 {
		b.put(t, 5, n)
	}
	for _, ticket := range none {
		if b.drop(t, ticket) {
			t.Errorf("Drop(%d) of three things", ticket)
		}
	}
	b.whole(t)
	if n := b.put(t, 5, 9); n != 4 || !b.drop(t, 4) {
		t.Errorf("the ticket %d: it was asked of before it was given", n)
	}
	b.whole(t)
}

func TestDropOfWhatIsOut(t *testing.T) {
	b := fresh[int](t)
	for n := range 12 {
		b.put(t, uint64(n%3), n)
	}
	b.take(t, 0)
	b.drop(t, 2)
	b.sift(t, func(v int) bool { return v != 4 && v != 5 })
	for _, ticket := range []int{1, 4, 7, 10, 2, 2, 5, 6} {
		if b.drop(t, ticket) {
			t.Errorf("Drop(%d): it is out", ticket)
		}
	}
	b.whole(t)
	for _, ticket := range []int{3, 8, 9, 11, 12} {
		if !b.drop(t, ticket) || b.drop(t, ticket) {
			t.Errorf("Drop(%d), twice", ticket)
		}
	}
	wantEmpty(t, b.c)
}

func wantNotThere[T any](t *testing.T, c *calend.Calendar[T], v T) {
	t.Helper()
	for range 3 {
		for _, at := range atEnds {
			if n := c.Put(at, v); n != 0 {
				t.Errorf("Put is %d", n)
			}
		}
		for _, ticket := range []int{math.MinInt, -1, 0, 1, 2, math.MaxInt} {
			if c.Drop(ticket) {
				t.Errorf("Drop(%d) is true", ticket)
			}
		}
		wantEmpty(t, c)
		if c.Copy() != nil {
			t.Error("Copy is not nil")
		}
	}
}

func TestCalendarsThatAreNotThere(t *testing.T) {
	wantNotThere(t, nil, 7)
	wantNotThere(t, nil, "x")
	wantNotThere(t, nil, []int{1})
	wantNotThere(t, (*calend.Calendar[int])(nil).Copy(), 7)
	wantNotThere(t, new(calend.Calendar[int]), 7)
	wantNotThere(t, &calend.Calendar[string]{}, "x")
	var c calend.Calendar[struct{}]
	wantNotThere(t, &c, struct{}{})
	wantNotThere(t, new(calend.Calendar[int]).Copy(), 7)
}

// What is assigned as a value comes from no call: it has nothing, and does nothing to the first one.
func TestCalendarsThatAreAssigned(t *testing.T) {
	b := fresh[int](t)
	b.put(t, 5, 10)
	b.put(t, 3, 20)
	second := *b.c
	wantNotThere(t, &second, 7)
	b.whole(t)
	b.take(t, 4)
	wantNotThere(t, &second, 7)
	b.take(t, end)
	wantNotThere(t, &second, 7)
}

func TestThingsOfSeveralTypes(t *testing.T) {
	inOut(t, "the", "", "tenth", "word", "", "\x00\xff")
	inOut(t, 0, -1, math.MaxInt, math.MinInt, 0)
	inOut(t, 0.5, math.Inf(-1), 0, 3)
	inOut(t, true, false, false, true)
	inOut(t, [3]uint8{1, 2, 3}, [3]uint8{}, [3]uint8{255})
	inOut(t, struct{}{}, struct{}{}, struct{}{})
	inOut(t, struct {
		a int
		b string
	}{1, "x"})
	inOut(t, new(int), nil, new(int))
	inOut[any](t, 7, nil, "x", 7, nil)
	inOut[error](t, nil, errors.ErrUnsupported)
	inOut(t, make(chan int), nil)
}

// inOut puts things at one tick, at rising ones, at falling ones.
func inOut[T comparable](t *testing.T, l ...T) {
	t.Helper()
	same, rise, fall := fresh[T](t), fresh[T](t), fresh[T](t)
	for i, v := range l {
		same.put(t, 9, v)
		rise.put(t, uint64(i), v)
		fall.put(t, uint64(99-i), v)
	}
	wantList(t, "of one tick", same.take(t, end), l)
	wantList(t, "of rising ticks", rise.take(t, end), l)
	back := slices.Clone(l)
	slices.Reverse(back)
	wantList(t, "of falling ticks", fall.take(t, end), back)
}

func TestThingsThatAreNotCompared(t *testing.T) {
	c := calend.New[func() int]()
	c.Put(2, func() int { return 20 })
	c.Put(1, func() int { return 10 })
	c.Put(2, nil)
	l := c.Take(2)
	if len(l) != 3 || l[0]() != 10 || l[1]() != 20 || l[2] != nil {
		t.Errorf("%d functions", len(l))
	}
	// One that is not like itself is a thing too.
	f := calend.New[float64]()
	f.Put(1, math.NaN())
	if n := f.Put(0, math.NaN()); n != 2 || !f.Drop(2) || f.Len() != 1 || !math.IsNaN(f.Take(1)[0]) {
		t.Error("numbers that are none")
	}
	m := calend.New[map[string]int]()
	m.Put(1, map[string]int{"x": 3})
	m.Put(1, nil)
	if n := m.Sift(func(v map[string]int) bool { return v["x"] == 3 }); n != 1 || m.Take(1)[0]["x"] != 3 {
		t.Error("maps")
	}
}

// P16.2

func TestTakeAtTheEdges(t *testing.T) {
	for _, x := range []struct {
		now  uint64
		want []int
	}{{0, nil}, {4, nil}, {5, []int{2, 4}}, {6, []int{2, 4}}, {7, []int{2, 4, 1, 3}}, {8, []int{2, 4, 1, 3}}, {9, []int{2, 4, 1, 3, 5}}, {10, []int{2, 4, 1, 3, 5}}, {end, []int{2, 4, 1, 3, 5}}} {
		b := fresh[int](t)
		for i, at := range []uint64{7, 5, 7, 5, 9} {
			b.put(t, at, i+1)
		}
		wantList(t, "Take", b.take(t, x.now), x.want)
		wantList(t, "Take again", b.take(t, x.now), nil)
		b.whole(t)
	}
}

// Each two ticks, each way round, taken at each tick.
func TestTicksAtTheEnds(t *testing.T) {
	for i, x := range atEnds {
		for j, y := range atEnds {
			for _, now := range atEnds {
				b := fresh[int](t)
				b.put(t, x, i)
				b.put(t, y, j)
				b.put(t, x, i)
				b.take(t, now)
				b.take(t, end)
			}
		}
	}
}

func TestTheFirstAndTheLastTick(t *testing.T) {
	b := fresh[int](t)
	b.put(t, end, 1)
	b.put(t, 0, 2)
	b.put(t, end, 3)
	b.put(t, 0, 4)
	wantList(t, "Take(0)", b.take(t, 0), []int{2, 4})
	wantList(t, "Take(0)", b.take(t, 0), nil)
	wantList(t, "Take(2^64 - 2)", b.take(t, end-1), nil)
	if at, ok := b.c.Next(); at != end || !ok {
		t.Errorf("Next is %d, %t", at, ok)
	}
	b.drop(t, 1)
	wantList(t, "Take(2^64 - 1)", b.take(t, end), []int{3})
	// Next of a thing at the tick 0 is told from that of none by the true alone.
	b.put(t, 0, 5)
	if at, ok := b.c.Next(); at != 0 || !ok {
		t.Errorf("Next is %d, %t", at, ok)
	}
	b.take(t, 0)
	if at, ok := b.c.Next(); at != 0 || ok {
		t.Errorf("Next is %d, %t", at, ok)
	}
}

// A calendar knows no tick of its own: what is put behind a Take may be earlier.
func TestPutBehindATake(t *testing.T) {
	b := fresh[int](t)
	b.put(t, 10, 1)
	b.take(t, 20)
	b.put(t, 3, 2)
	b.put(t, 15, 3)
	wantList(t, "Take(2)", b.take(t, 2), nil)
	wantList(t, "Take(3)", b.take(t, 3), []int{2})
	b.take(t, end)
	b.put(t, 0, 4)
	wantList(t, "Take(0)", b.take(t, 0), []int{4})
}

func TestNextGoesWithWhatIsThere(t *testing.T) {
	b := fresh[int](t)
	for _, at := range []uint64{50, 40, 60, 30, 30, 20, end, 0} {
		b.put(t, at, 0)
	}
	for _, ticket := range []int{8, 6, 4, 1, 5, 2, 3, 7} {
		b.drop(t, ticket)
	}
	wantEmpty(t, b.c)
}

func TestNextAndLenChangeNothing(t *testing.T) {
	b := fresh[int](t)
	for n := range 9 {
		b.put(t, uint64(n*5%9), n)
	}
	for range 5 {
		b.look(t)
	}
	b.whole(t)
}

func TestLenOfMany(t *testing.T) {
	b := fresh[int](t)
	for n := range 300 {
		b.put(t, uint64(n%7), n)
	}
	for n := range 7 {
		b.take(t, uint64(n))
	}
	wantEmpty(t, b.c)
}

// P16.3

// keeps are all the ways to keep some of six things.
func keeps(do func(keep func(v int) bool)) {
	for set := range 64 {
		do(func(v int) bool { return set>>v&1 == 1 })
	}
}

func TestSiftKeepsSome(t *testing.T) {
	eachWord(6, 3, func(word []int) {
		keeps(func(keep func(v int) bool) {
			b := fresh[int](t)
			for i, at := range word {
				b.put(t, uint64(at), i)
			}
			b.sift(t, keep)
			b.put(t, 1, 9)
			b.take(t, 1)
			b.take(t, end)
		})
	})
}

func TestSiftOfMany(t *testing.T) {
	var d dice = 6
	for many := range 120 {
		for _, third := range []int{1, 2, 3, 7} {
			b := fresh[int](t)
			for n := range many {
				b.put(t, d.tick(30), n)
			}
			b.sift(t, func(v int) bool { return v%third == 0 })
			b.take(t, end)
		}
	}
}

func TestSiftOfAllAndNone(t *testing.T) {
	b := fresh[int](t)
	for n := range 20 {
		b.put(t, uint64(n*7%11), n)
	}
	if n := b.sift(t, all); n != 0 || b.c.Len() != 20 {
		t.Errorf("%d went, %d are left", n, b.c.Len())
	}
	b.whole(t)
	if n := b.sift(t, none); n != 20 {
		t.Errorf("%d went", n)
	}
	wantEmpty(t, b.c)
	for ticket := range 22 {
		b.drop(t, ticket)
	}
	if n := b.put(t, 4, 1); n != 21 {
		t.Errorf("the ticket %d", n)
	}
	b.whole(t)
}

func TestSiftByNoKeep(t *testing.T) {
	b := fresh[int](t)
	wantEmpty(t, b.c)
	for n := range 20 {
		b.put(t, uint64(n*7%11), n)
	}
	var keep func(v int) bool
	for _, n := range []int{b.c.Sift(nil), b.c.Sift(keep)} {
		if n != 0 {
			t.Errorf("%d went", n)
		}
	}
	b.whole(t)
	b.take(t, end)
}

func TestSiftOfOneThing(t *testing.T) {
	for _, at := range atEnds {
		b := fresh[int](t)
		b.put(t, at, 1)
		b.sift(t, odd)
		b.put(t, at, 2)
		b.sift(t, odd)
		b.whole(t)
		b.sift(t, none)
		wantEmpty(t, b.c)
	}
}

// keep may answer by turns: each thing is asked of once, so the answers are those of the turns.
func TestSiftByTurns(t *testing.T) {
	b := fresh[int](t)
	for n := range 10 {
		b.put(t, uint64(10-n), n)
	}
	turn := 0
	if n := b.c.Sift(func(int) bool { turn++; return turn%3 == 0 }); n != 7 || turn != 10 {
		t.Errorf("%d went, keep was asked %d times", n, turn)
	}
	wantList(t, "Take", b.c.Take(end), []int{7, 4, 1})
}

func TestSiftAgain(t *testing.T) {
	b := fresh[int](t)
	for n := range 60 {
		b.put(t, uint64(n*17%23), n)
	}
	for _, keep := range []func(v int) bool{
		func(v int) bool { return v%5 != 0 },
		func(v int) bool { return v%5 != 0 },
		odd,
		func(v int) bool { return v > 30 },
		all,
	} {
		b.sift(t, keep)
		b.whole(t)
	}
	b.take(t, end)
}

// No call panics, so none does for a keep that does: then nothing has changed.
func TestSiftByAKeepThatPanics(t *testing.T) {
	b := fresh[int](t)
	for n := range 10 {
		b.put(t, uint64(n%4), n)
	}
	var nothing *int
	for when := range 10 {
		for _, what := range []func(){
			func() { panic("keep") },
			func() { panic(nil) },
			func() { panic(errors.ErrUnsupported) },
			func() { *nothing = 1 },
		} {
			asked := 0
			n := b.c.Sift(func(int) bool {
				if asked == when {
					what()
				}
				asked++
				return false
			})
			if n != 0 || asked != when {
				t.Fatalf("%d went; keep was asked %d times and once", n, asked)
			}
			b.whole(t)
		}
	}
	b.sift(t, odd)
	b.whole(t)
}

// P16.4

func filled(t *testing.T, many int) both[int] {
	t.Helper()
	b := fresh[int](t)
	for n := range many {
		b.put(t, uint64(n*11%13), n)
	}
	return b
}

// parts are calls that change a calendar.
func parts() []func(t *testing.T, b both[int]) {
	return []func(t *testing.T, b both[int]){
		func(t *testing.T, b both[int]) { b.put(t, 4, -1) },
		func(t *testing.T, b both[int]) { b.put(t, end, -2) },
		func(t *testing.T, b both[int]) { b.put(t, 0, -3) },
		func(t *testing.T, b both[int]) { b.drop(t, 1) },
		func(t *testing.T, b both[int]) { b.drop(t, 2) },
		func(t *testing.T, b both[int]) { b.drop(t, b.m.given) },
		func(t *testing.T, b both[int]) { b.take(t, 3) },
		func(t *testing.T, b both[int]) { b.take(t, 8) },
		func(t *testing.T, b both[int]) { b.take(t, end) },
		func(t *testing.T, b both[int]) { b.sift(t, odd) },
		func(t *testing.T, b both[int]) { b.sift(t, none) },
	}
}

func TestCopyIsTheSame(t *testing.T) {
	for many := range 30 {
		b := filled(t, many)
		b.copied(t).whole(t)
		b.copied(t).copied(t).whole(t)
		b.whole(t)
		b.copied(t).take(t, end)
		b.copied(t).sift(t, odd)
		b.whole(t)
	}
}

// The ones are done to the one, the others to the other; then each is what it is of its own.
func TestCopyGoesItsOwnWay(t *testing.T) {
	for _, many := range []int{0, 1, 2, 3, 20} {
		for _, x := range parts() {
			for _, y := range parts() {
				for _, z := range parts() {
					b := filled(t, many)
					c := b.copied(t)
					x(t, b)
					y(t, c)
					z(t, b)
					z(t, c)
					b.take(t, end)
					c.take(t, end)
				}
			}
		}
	}
}

func TestCopyGivesTheSameTickets(t *testing.T) {
	b := filled(t, 5)
	b.drop(t, 5)
	b.take(t, 3)
	b.sift(t, none)
	c := b.copied(t)
	d := c.copied(t)
	for n := 6; n < 20; n++ {
		if x, y := b.put(t, 1, n), c.put(t, 2, n); x != n || y != n {
			t.Errorf("the tickets %d and %d; they should be %d", x, y, n)
		}
	}
	if n := d.put(t, 1, 1); n != 6 {
		t.Errorf("the ticket %d", n)
	}
	if !b.drop(t, 7) || !c.drop(t, 7) || d.drop(t, 7) {
		t.Error("the ticket 7")
	}
	for _, x := range []both[int]{b, c, d} {
		x.whole(t)
	}
}

func TestCopiesOfEmptyOnes(t *testing.T) {
	b := fresh[int](t)
	c := b.copied(t)
	b.put(t, 1, 1)
	wantEmpty(t, c.c)
	c.put(t, 2, 2)
	b.take(t, end)
	d := b.copied(t)
	wantEmpty(t, d.c)
	if n := d.put(t, 3, 3); n != 2 {
		t.Errorf("the ticket %d", n)
	}
	c.whole(t)
}

// P16.5

// play does a letter to the calendar, or to one of its copies.
func play(t *testing.T, l []both[int], letter, v int) []both[int] {
	t.Helper()
	b := l[v%len(l)]
	switch letter {
	case 0, 1, 2:
		b.put(t, uint64(letter), v)
	case 3:
		b.take(t, 0)
	case 4:
		b.take(t, 1)
	case 5:
		b.drop(t, 1+v/2)
	case 6:
		b.sift(t, odd)
	case 7:
		return append(l, b.copied(t))
	}
	return l
}

// Each word of all calls, up to a length.
func TestAllShortTurns(t *testing.T) {
	for length := range 7 {
		eachWord(length, 8, func(word []int) {
			l := []both[int]{fresh[int](t)}
			for i, letter := range word {
				l = play(t, l, letter, i)
			}
			for _, b := range l {
				b.take(t, end)
			}
		})
	}
}

func TestLongTurns(t *testing.T) {
	var d dice = 5
	for _, few := range []int{1, 3, 40, 1 << 30} {
		b := fresh[int](t)
		for n := range 4000 {
			letter := d.below(10)
			// Puts are more at first, what takes out at last.
			if n > 2500 {
				letter = 2 + d.below(9)
			}
			switch letter {
			case 0, 1, 2, 3, 4, 5:
				b.put(t, d.tick(few), n)
			case 6, 7, 8:
				b.drop(t, d.below(b.m.given+3))
			case 9:
				b.take(t, d.tick(few)/8)
			case 10:
				rest := d.below(9)
				b.sift(t, func(v int) bool { return v%9 != rest })
			}
			if d.below(200) == 0 {
				b = b.copied(t)
			}
		}
		b.take(t, end)
	}
}

func FuzzCalendar(f *testing.F) {
	f.Add([]byte{0, 1, 2, 3, 4, 5, 6, 7})
	f.Add([]byte("any bytes are calls, in the order in which they stand"))
	f.Add([]byte{0x80, 0xff, 0x40, 3, 0x23, 0x85, 0x1f, 0x2d, 0x55, 0x66})
	f.Fuzz(func(t *testing.T, raw []byte) {
		b := fresh[int](t)
		// The model looks through all that it has again and again: more would take too long.
		for i, c := range raw[:min(len(raw), 300)] {
			some := int(c >> 3)
			switch c & 7 {
			case 0, 1, 2:
				b.put(t, uint64(some), i)
			case 3:
				b.put(t, atEnds[some%len(atEnds)], i)
			case 4:
				b.take(t, uint64(some/3))
			case 5:
				b.drop(t, some)
			case 6:
				b.sift(t, func(v int) bool { return v%(some+2) != 0 })
			case 7:
				b = b.copied(t)
			}
		}
		b.take(t, end)
	})
}

// Whatever is done between, all that is put comes out once: taken, dropped or sifted out.
func TestAllComesOutOnce(t *testing.T) {
	var d dice = 9
	for _, few := range []int{1, 5, 1000} {
		c := calend.New[int]()
		out := map[int]int{}
		for n := 1; n <= 20000; n++ {
			c.Put(d.tick(few), n)
			if ticket := 1 + d.below(n); d.below(3) == 0 && c.Drop(ticket) {
				out[ticket]++
			}
			if d.below(500) == 0 {
				for _, v := range c.Take(uint64(d.below(few + 1))) {
					out[v]++
				}
			}
			if d.below(3000) == 0 {
				c.Sift(func(v int) bool {
					if v%4 == 0 {
						out[v]++
					}
					return v%4 != 0
				})
			}
		}
		for _, v := range c.Take(end) {
			out[v]++
		}
		for n := 1; n <= 20000; n++ {
			if out[n] != 1 {
				t.Fatalf("the thing %d came out %d times", n, out[n])
			}
		}
		if len(out) != 20000 {
			t.Fatalf("%d things came out", len(out))
		}
		wantEmpty(t, c)
	}
}

// Each way to part six ticks.
func TestTakenInPieces(t *testing.T) {
	var d dice = 10
	for pieces := range 1 << 6 {
		for range 8 {
			b := fresh[int](t)
			for n := range 25 {
				b.put(t, uint64(d.below(6)), n)
			}
			once := b.copied(t).take(t, 5)
			var l []int
			for now := range uint64(6) {
				if pieces>>now&1 == 1 {
					l = append(l, b.take(t, now)...)
				}
			}
			wantList(t, "in pieces", append(l, b.take(t, 5)...), once)
		}
	}
}

// What is put between, and is not earlier than what was taken, comes as if it had been there.
func TestTakenInPiecesWithPutsBetween(t *testing.T) {
	var d dice = 11
	for range 300 {
		pieces, once := fresh[int](t), fresh[int](t)
		var l []int
		for now := range uint64(20) {
			for range d.below(6) {
				at, v := now+uint64(d.below(9)), d.below(1000)
				pieces.put(t, at, v)
				once.put(t, at, v)
			}
			l = append(l, pieces.take(t, now)...)
		}
		wantList(t, "in pieces", append(l, pieces.take(t, end)...), once.take(t, end))
	}
}

func TestOfOneTickInTheOrderOfPuts(t *testing.T) {
	for many := range 200 {
		for _, at := range []uint64{0, 7, end} {
			c := calend.New[int]()
			var want []int
			for n := range many {
				ticket := c.Put(at, n)
				if n%3 == 1 {
					c.Drop(ticket)
				} else {
					want = append(want, n)
				}
			}
			wantList(t, "of one tick", c.Take(at), want)
		}
	}
}

// Of one tick they also come in that order while others come and go.
func TestOfOneTickByTurns(t *testing.T) {
	c := calend.New[int]()
	for n := range 2000 {
		c.Put(500, n)
		c.Put(uint64(n%400), -1)
		c.Put(900, -2)
		if n%5 == 0 {
			c.Take(uint64(n % 450))
		}
	}
	c.Sift(func(v int) bool { return v != -1 })
	l := c.Copy().Take(500)
	if len(l) != 2000 || !slices.IsSorted(l) {
		t.Errorf("%d of the tick 500: %v", len(l), l)
	}
	wantList(t, "of the copied", c.Take(500), l)
}

func TestManyThings(t *testing.T) {
	const many = 1 << 17
	for name, at := range map[string]func(n int) uint64{
		"rising":  func(n int) uint64 { return uint64(n) },
		"falling": func(n int) uint64 { return end - uint64(n) },
		"of one":  func(n int) uint64 { return 1 << 63 },
		"mixed":   func(n int) uint64 { return uint64(n * 7919 % 10007) },
	} {
		c := calend.New[int]()
		for n := range many {
			if got := c.Put(at(n), n); got != n+1 {
				t.Fatalf("%s: the ticket %d", name, got)
			}
		}
		// Every fourth one goes by its ticket, every other of the rest by Sift.
		for n := 0; n < many; n += 4 {
			if !c.Drop(n + 1) {
				t.Fatalf("%s: Drop(%d)", name, n+1)
			}
		}
		if n := c.Sift(odd); n != many/4 {
			t.Fatalf("%s: %d were sifted out", name, n)
		}
		l := c.Take(end)
		if len(l) != many/2 || c.Len() != 0 {
			t.Fatalf("%s: %d were taken, %d are left", name, len(l), c.Len())
		}
		for i, v := range l[1:] {
			u := l[i]
			if at(u) > at(v) || at(u) == at(v) && u >= v {
				t.Fatalf("%s: %d ahead of %d", name, u, v)
			}
		}
	}
}

// R5

// guarded is a copy of l with marked room behind its end.
func guarded(l ...int) []int {
	room := append(slices.Clone(l), -9, -9, -9, -9)
	return room[:len(l)]
}

func TestWhatIsHandedInStays(t *testing.T) {
	lists := [][]int{guarded(3, 1, 2), guarded(), guarded(7), guarded(1, 2, 3, 4, 5)}
	want := [][]int{{3, 1, 2}, {}, {7}, {1, 2, 3, 4, 5}}
	c := calend.New[[]int]()
	for i, l := range lists {
		c.Put(uint64(9-i), l)
	}
	d := c.Copy()
	c.Drop(2)
	d.Sift(func(v []int) bool { return len(v) != 1 })
	d.Put(4, nil)
	c.Take(7)
	d.Take(end)
	c.Take(end)
	for i, l := range lists {
		wantList(t, "a list that was handed in", l, want[i])
		wantList(t, "the room behind it", l[:len(l)+4][len(l):], []int{-9, -9, -9, -9})
	}
}

// spoil changes a list, and the room behind it.
func spoil(l []int) {
	l = l[:cap(l)]
	for i := range l {
		l[i] = -7
	}
}

func TestWhatIsAnsweredIsNew(t *testing.T) {
	for many := range 40 {
		b := filled(t, many)
		c := b.copied(t)
		first := b.take(t, 4)
		second, again := b.c.Take(8), c.c.Take(4)
		b.m.take(8)
		c.m.take(4)
		want := slices.Clone(again)
		l := slices.Clone(second)
		spoil(first)
		wantList(t, "another answer", second, l)
		wantList(t, "the copy's answer", again, want)
		b.put(t, 2, 90)
		b.put(t, 3, 91)
		spoil(second)
		b.whole(t)
		wantList(t, "the copy's answer", again, want)
		c.whole(t)
		b.take(t, end)
		c.take(t, end)
	}
}

// An answer stays as it was, whatever is done to the calendar behind it.
func TestAnAnswerStays(t *testing.T) {
	for many := range 40 {
		b := filled(t, many)
		l := b.take(t, 6)
		want := slices.Clone(l)
		for n := range 40 {
			b.put(t, uint64(n%9), 1000+n)
		}
		b.sift(t, odd)
		b.take(t, end)
		wantList(t, "an answer", l, want)
	}
}

// R6

func TestTheSameCallsAnswerTheSame(t *testing.T) {
	var first []int
	for round := range 20 {
		var d dice = 12
		c, l := calend.New[int](), []int{}
		for n := range 300 {
			c.Put(d.tick(20), n)
			c.Drop(d.below(300))
		}
		c.Sift(func(v int) bool { l = append(l, v); return v%3 != 0 })
		l = append(l, c.Copy().Take(end)...)
		l = append(l, c.Take(end)...)
		if round == 0 {
			first = l
		}
		wantList(t, "the same calls", l, first)
	}
}

// handed puts things that nothing else keeps, and gets them all out: dropped, sifted out, taken.
func handed(c *calend.Calendar[*[64]int], many int) []weak.Pointer[[64]int] {
	var l []weak.Pointer[[64]int]
	for n := range many {
		p := &[64]int{n}
		l = append(l, weak.Make(p))
		c.Put(uint64(n*7%20), p)
	}
	for n := 0; n < many; n += 3 {
		c.Drop(n + 1)
	}
	c.Sift(func(v *[64]int) bool { return v[0]%3 == 1 })
	c.Take(end)
	return l
}

func TestWhatIsOutIsNotKept(t *testing.T) {
	c := calend.New[*[64]int]()
	// On a stack of its own, which goes with the things that are left there.
	done := make(chan []weak.Pointer[[64]int])
	go func() { done <- handed(c, 100) }()
	l := <-done
	for range 3 {
		runtime.GC()
	}
	for n, p := range l {
		if p.Value() != nil {
			t.Fatalf("the calendar keeps the thing %d, which is out of it", n)
		}
	}
	runtime.KeepAlive(c)
}
