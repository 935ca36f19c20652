package tally_test

import (
	"math"
	"math/big"
	"reflect"
	"slices"
	"testing"

	"dandelion/api"
	"dandelion/tally"
)

const top = math.MaxUint64

// noRouters has numbers that are like a router's in their lowest bits among them.
var noRouters = []int{
	0, -1, -2, -3, -23, -24, -25, 25, 26, 27, 32, 48, 255, 1<<8 + 1, 1<<16 + 1, 1<<16 + 24, 1 << 32, 1<<32 + 1, 1<<32 + 3, 1<<32 + 24,
	1 - 1<<8, 24 - 1<<16, -1 << 32, 1 - 1<<32, 24 - 1<<32, 1<<62 + 2, math.MinInt, math.MinInt + 1, math.MinInt + 24, math.MinInt32, math.MaxInt32, math.MaxInt - 1, math.MaxInt,
}

// the fields of counts, in the order of row.
var fieldNames = [6]string{"Got", "Local", "Copies", "Lost", "Expired", "Bad"}

type row [6]uint64

func rowOf(c api.Counts) row {
	return row{c.Got, c.Local, c.Copies, c.Lost, c.Expired, c.Bad}
}

func (r row) counts() api.Counts {
	return api.Counts{Got: r[0], Local: r[1], Copies: r[2], Lost: r[3], Expired: r[4], Bad: r[5]}
}

// total adds in numbers without an end, and cuts what is too great at last.
func total(l ...api.Counts) api.Counts {
	var out row
	for i := range out {
		sum := new(big.Int)
		for _, c := range l {
			sum.Add(sum, new(big.Int).SetUint64(rowOf(c)[i]))
		}
		out[i] = top
		if sum.IsUint64() {
			out[i] = sum.Uint64()
		}
	}
	return out.counts()
}

func laid(l ...int) api.Bits {
	var b api.Bits
	for _, n := range l {
		b[(n-1)/64] |= 1 << ((n - 1) % 64)
	}
	return b
}

func every() api.Bits { return api.Bits{top, top, top, top} }

func howMany(b api.Bits) uint64 {
	count := uint64(0)
	for n := range 256 {
		count += b[n/64] >> (n % 64) & 1
	}
	return count
}

// countsOf goes by the document's words one by one.
func countsOf(d api.Done) api.Counts {
	r := row{1, 0, 0, howMany(d.Lost), howMany(d.Expired), 0}
	if d.Local {
		r[1] = 1
	}
	for range d.Copies {
		r[2]++
	}
	return r.counts()
}

func copies(n int) []api.Copy { return make([]api.Copy, n) }

// steps deliver or don't, with no copy, one, several, and no bit, one, all of them, lost or expired.
func steps() []api.Done {
	var l []api.Done
	some := []api.Bits{{}, laid(1), laid(64), laid(65), laid(256), laid(1, 9), laid(1, 64, 65, 128, 129, 192, 193, 256), {top}, {0, 0, 0, top}, every()}
	for _, local := range []bool{false, true} {
		for _, n := range []int{0, 1, 2, 16, 24, 300} {
			for _, lost := range some {
				for _, expired := range some {
					l = append(l, api.Done{Local: local, Copies: copies(n), Lost: lost, Expired: expired})
				}
			}
		}
	}
	return l
}

// example is the step of the chapter's examples.
func example() api.Done {
	return api.Done{Local: true, Copies: copies(2), Lost: laid(1, 9)}
}

// dice is a row of numbers that is the same each time.
type dice uint64

func (d *dice) below(n int) int {
	*d = *d*6364136223846793005 + 1442695040888963407
	return int(uint64(*d) >> 33 % uint64(n))
}

func (d *dice) bits() api.Bits {
	var b api.Bits
	for range d.below(5) * d.below(20) {
		n := d.below(256)
		b[n/64] |= 1 << (n % 64)
	}
	return b
}

func (d *dice) step() api.Done {
	return api.Done{Local: d.below(2) == 0, Copies: copies(d.below(6)), Lost: d.bits(), Expired: d.bits()}
}

// near is a count that is small, at the top, or next to it.
func (d *dice) near() uint64 {
	n := uint64(d.below(8))
	if d.below(2) == 0 {
		return top - n
	}
	return n
}

func (d *dice) counts() api.Counts {
	var r row
	for i := range r {
		r[i] = d.near()
	}
	return r.counts()
}

type kind int

const (
	note kind = iota
	bad
	wipe
)

type call struct {
	kind   kind
	router int
	d      api.Done
}

func (c call) on(x *tally.Tally) api.Errno {
	switch c.kind {
	case note:
		return x.Note(c.router, c.d)
	case bad:
		return x.Bad(c.router)
	}
	return x.Clear(c.router)
}

func (d *dice) call(routers int) call {
	return call{kind: kind(d.below(2)), router: 1 + d.below(routers), d: d.step()}
}

// model keeps all that was counted of each router since it was cleared, one by one.
type model [25][]api.Counts

func (m *model) take(c call) {
	switch c.kind {
	case note:
		m[c.router] = append(m[c.router], countsOf(c.d))
	case bad:
		m[c.router] = append(m[c.router], api.Counts{Got: 1, Bad: 1})
	case wipe:
		m[c.router] = nil
	}
}

func (m *model) copied() *model {
	out := new(model)
	for n, l := range m {
		out[n] = slices.Clone(l)
	}
	return out
}

func (m *model) all() api.Counts { return total(slices.Concat(m[:]...)...) }

// filled is a tally whose routers have these counts, and a model of it.
func filled(l ...api.Counts) (*tally.Tally, *model) {
	m := new(model)
	for i, c := range l {
		m[i+1] = []api.Counts{c}
	}
	return tally.Filled(l...), m
}

// unlike has other counts for each router, and in each field.
func unlike() []api.Counts {
	var l []api.Counts
	for n := uint64(1); n <= 24; n++ {
		l = append(l, row{n * 1000, n*1000 + 1, n*1000 + 2, n*1000 + 3, n*1000 + 4, n*1000 + 5}.counts())
	}
	return l
}

func run(t *testing.T, x *tally.Tally, m *model, l ...call) {
	t.Helper()
	for _, c := range l {
		if e := c.on(x); e != api.OK {
			t.Fatalf("%v: %d", c, e)
		}
		m.take(c)
	}
}

func wantAt(t *testing.T, x *tally.Tally, router int, want api.Counts) {
	t.Helper()
	if c, e := x.At(router); c != want || e != api.OK {
		t.Fatalf("At(%d) = %+v, %d, not %+v", router, c, e, want)
	}
}

func wantAll(t *testing.T, x *tally.Tally, want api.Counts) {
	t.Helper()
	if c := x.All(); c != want {
		t.Fatalf("All() = %+v, not %+v", c, want)
	}
}

func wantState(t *testing.T, x *tally.Tally, m *model) {
	t.Helper()
	for n := 1; n <= 24; n++ {
		wantAt(t, x, n, total(m[n]...))
	}
	wantAll(t, x, m.all())
}

func wantRefused(t *testing.T, x *tally.Tally, router int, want api.Errno) {
	t.Helper()
	if c, e := x.At(router); c != (api.Counts{}) || e != want {
		t.Fatalf("At(%d) = %+v, %d, not %d", router, c, e, want)
	}
	for _, d := range []api.Done{{}, example(), {Expired: every()}} {
		if e := x.Note(router, d); e != want {
			t.Fatalf("Note(%d, ..) = %d, not %d", router, e, want)
		}
	}
	if e := x.Bad(router); e != want {
		t.Fatalf("Bad(%d) = %d, not %d", router, e, want)
	}
	if e := x.Clear(router); e != want {
		t.Fatalf("Clear(%d) = %d, not %d", router, e, want)
	}
}

func TestAsTheExamplesTell(t *testing.T) {
	d, x := example(), tally.New()
	if c := tally.Of(d); c != (api.Counts{Got: 1, Local: 1, Copies: 2, Lost: 2}) {
		t.Errorf("Of(d) = %+v", c)
	}
	for _, e := range []api.Errno{x.Note(3, d), x.Note(3, d), x.Bad(3)} {
		if e != api.OK {
			t.Errorf("Note, Note, Bad: %d", e)
		}
	}
	wantAt(t, x, 3, api.Counts{Got: 3, Local: 2, Copies: 4, Lost: 4, Bad: 1})
	if e := x.Note(0, d); e != api.ErrArg {
		t.Errorf("Note(0, d) = %d", e)
	}
	if c, e := x.At(25); c != (api.Counts{}) || e != api.ErrArg {
		t.Errorf("At(25) = %+v, %d", c, e)
	}
	if e := x.Clear(3); e != api.OK {
		t.Errorf("Clear(3) = %d", e)
	}
	wantAt(t, x, 3, api.Counts{})
	wantAll(t, x, api.Counts{})
}

// P15.1

func TestNewCountsNothing(t *testing.T) {
	wantState(t, tally.New(), new(model))
}

func TestTalliesAreApart(t *testing.T) {
	x, y := tally.New(), tally.New()
	m, n := new(model), new(model)
	run(t, x, m, call{kind: note, router: 3, d: example()}, call{kind: bad, router: 24})
	wantState(t, y, n)
	run(t, y, n, call{kind: bad, router: 3}, call{kind: wipe, router: 24})
	wantState(t, x, m)
	wantState(t, y, n)
	wantState(t, tally.New(), new(model))
}

func TestOfSteps(t *testing.T) {
	for _, d := range steps() {
		if c := tally.Of(d); c != countsOf(d) {
			t.Fatalf("Of(%v, %d copies, %x, %x) = %+v", d.Local, len(d.Copies), d.Lost, d.Expired, c)
		}
	}
	if c := tally.Of(api.Done{}); c != (api.Counts{Got: 1}) {
		t.Errorf("Of of nothing = %+v", c)
	}
	if c := tally.Of(api.Done{Lost: every(), Expired: every()}); c != (api.Counts{Got: 1, Lost: 256, Expired: 256}) {
		t.Errorf("Of of all bits = %+v", c)
	}
}

func TestOfEachBit(t *testing.T) {
	for n := 1; n <= 256; n++ {
		but := every()
		but[(n-1)/64] &^= 1 << ((n - 1) % 64)
		for _, c := range []struct {
			d    api.Done
			want api.Counts
		}{
			{api.Done{Lost: laid(n)}, api.Counts{Got: 1, Lost: 1}},
			{api.Done{Expired: laid(n)}, api.Counts{Got: 1, Expired: 1}},
			{api.Done{Lost: but, Expired: laid(n)}, api.Counts{Got: 1, Lost: 255, Expired: 1}},
			{api.Done{Lost: laid(n), Expired: laid(n)}, api.Counts{Got: 1, Lost: 1, Expired: 1}},
		} {
			if got := tally.Of(c.d); got != c.want {
				t.Fatalf("Of(%x, %x) = %+v", c.d.Lost, c.d.Expired, got)
			}
		}
	}
}

// odd are copies that no step makes: two for one neighbour, for nobody, without bits, with bits in common.
func odd() []api.Copy {
	return []api.Copy{{}, {}, {To: 2}, {To: 2}, {To: -1}, {To: math.MaxInt}, {To: 3, Header: api.Header{Width: 8, Hops: -5, Bits: every()}}, {To: 3, Header: api.Header{Width: 7, Bits: every()}}}
}

func TestOfWhateverStandsInItsCopies(t *testing.T) {
	for n := range len(odd()) + 1 {
		for _, local := range []bool{false, true} {
			d := api.Done{Local: local, Copies: odd()[:n], Lost: every(), Expired: laid(1)}
			if c := tally.Of(d); c != countsOf(d) || c.Copies != uint64(n) {
				t.Errorf("Of with %d copies = %+v", n, c)
			}
		}
	}
	for _, n := range []int{255, 256, 257, 1<<16 - 1, 1 << 16, 1<<16 + 1} {
		if c := tally.Of(api.Done{Copies: copies(n)}); c != (api.Counts{Got: 1, Copies: uint64(n)}) {
			t.Errorf("Of with %d copies = %+v", n, c)
		}
	}
	if c := tally.Of(api.Done{Copies: []api.Copy{}}); c != (api.Counts{Got: 1}) {
		t.Errorf("Of with an empty list = %+v", c)
	}
}

func TestCopyHasTheSameCounts(t *testing.T) {
	wantState(t, tally.New().Copy(), new(model))
	x, m := filled(unlike()...)
	wantState(t, x.Copy(), m)
	wantState(t, x.Copy().Copy(), m)
	wantState(t, x, m)
	full := slices.Repeat([]api.Counts{{Got: top, Local: top - 1, Copies: top, Lost: top, Expired: top, Bad: top}}, 24)
	x, m = filled(full...)
	wantState(t, x.Copy(), m)
}

func TestACopyGoesOnByItself(t *testing.T) {
	for n := 1; n <= 24; n++ {
		x, m := filled(unlike()...)
		y, k := x.Copy(), m.copied()
		run(t, x, m, call{kind: note, router: n, d: example()})
		wantState(t, y, k)
		run(t, y, k, call{kind: bad, router: n}, call{kind: bad, router: n})
		wantState(t, x, m)
		run(t, x, m, call{kind: wipe, router: n})
		wantState(t, y, k)
		run(t, y, k, call{kind: wipe, router: 25 - n}, call{kind: note, router: n, d: api.Done{Expired: every()}})
		wantState(t, x, m)
		wantState(t, y, k)
	}
}

func TestTheCopyOfACopyGoesOnByItself(t *testing.T) {
	var d dice = 5
	x, m := filled(unlike()...)
	tallies, models := []*tally.Tally{x}, []*model{m}
	for range 6 {
		last := len(tallies) - 1
		tallies, models = append(tallies, tallies[last].Copy()), append(models, models[last].copied())
		for i := range tallies {
			run(t, tallies[i], models[i], d.call(24), d.call(24), call{kind: wipe, router: 1 + d.below(24)})
		}
		for i := range tallies {
			wantState(t, tallies[i], models[i])
		}
	}
}

// P15.2

func TestNoteOfEachRouter(t *testing.T) {
	for n := 1; n <= 24; n++ {
		x, m := tally.New(), new(model)
		for i, d := range []api.Done{example(), {}, {Local: true}, {Copies: copies(1)}, {Lost: every()}, {Expired: laid(256)}, {Copies: odd(), Expired: every()}} {
			run(t, x, m, call{kind: note, router: n, d: d})
			if c, _ := x.At(n); c.Got != uint64(i)+1 {
				t.Fatalf("behind %d steps At(%d) = %+v", i+1, n, c)
			}
			wantState(t, x, m)
		}
	}
}

func TestNoteAddsEachStep(t *testing.T) {
	x, m := tally.New(), new(model)
	sum := api.Counts{}
	for i, d := range steps() {
		run(t, x, m, call{kind: note, router: 7, d: d})
		sum = total(sum, countsOf(d))
		wantAt(t, x, 7, sum)
		if i%100 == 0 {
			wantState(t, x, m)
		}
	}
	wantState(t, x, m)
}

func TestBadOfEachRouter(t *testing.T) {
	x, m := tally.New(), new(model)
	for n := 1; n <= 24; n++ {
		for range n {
			run(t, x, m, call{kind: bad, router: n})
		}
		wantAt(t, x, n, api.Counts{Got: uint64(n), Bad: uint64(n)})
		wantState(t, x, m)
	}
	wantAll(t, x, api.Counts{Got: 300, Bad: 300})
}

func TestAtAsksAlone(t *testing.T) {
	x, m := filled(unlike()...)
	for range 3 {
		for n := 1; n <= 24; n++ {
			wantAt(t, x, n, unlike()[n-1])
		}
		wantState(t, x, m)
	}
}

func TestClearOfEachRouter(t *testing.T) {
	for n := 1; n <= 24; n++ {
		x, m := filled(unlike()...)
		for range 2 { // the second time there is nothing left
			run(t, x, m, call{kind: wipe, router: n})
			wantAt(t, x, n, api.Counts{})
			wantState(t, x, m)
		}
		run(t, x, m, call{kind: note, router: n, d: example()}, call{kind: bad, router: n})
		wantAt(t, x, n, api.Counts{Got: 2, Local: 1, Copies: 2, Lost: 2, Bad: 1})
		wantState(t, x, m)
	}
}

func TestClearOfOneThatHasNoCounts(t *testing.T) {
	x, m := tally.New(), new(model)
	for n := 1; n <= 24; n++ {
		run(t, x, m, call{kind: wipe, router: n})
	}
	wantState(t, x, m)
	run(t, x, m, call{kind: bad, router: 5}, call{kind: wipe, router: 4}, call{kind: wipe, router: 6})
	wantState(t, x, m)
}

func TestClearOfAllLeavesNothing(t *testing.T) {
	x, m := filled(slices.Repeat([]api.Counts{{Got: top, Local: top, Copies: top, Lost: top, Expired: top, Bad: top}}, 24)...)
	for n := 1; n <= 24; n++ {
		run(t, x, m, call{kind: wipe, router: n})
		wantState(t, x, m)
	}
	wantAll(t, x, api.Counts{})
}

func TestWhatIsNoRouterIsRefused(t *testing.T) {
	for _, n := range noRouters {
		x, m := filled(unlike()...)
		wantRefused(t, x, n, api.ErrArg)
		wantState(t, x, m)
		wantRefused(t, x.Copy(), n, api.ErrArg)
		wantRefused(t, tally.New(), n, api.ErrArg)
	}
}

func TestWhatWasRefusedLeavesNothing(t *testing.T) {
	x, m := tally.New(), new(model)
	for _, n := range noRouters {
		wantRefused(t, x, n, api.ErrArg)
	}
	wantState(t, x, m)
	wantState(t, x.Copy(), m)
}

// ErrNil comes ahead of ErrArg.
func TestTalliesThatAreNotThere(t *testing.T) {
	var none *tally.Tally
	for _, x := range []*tally.Tally{none, new(tally.Tally), {}} {
		for range 2 { // nothing makes one of it
			for n := 1; n <= 24; n++ {
				wantRefused(t, x, n, api.ErrNil)
			}
			for _, n := range noRouters {
				wantRefused(t, x, n, api.ErrNil)
			}
			wantAll(t, x, api.Counts{})
			if c := x.Copy(); c != nil {
				t.Fatalf("Copy() = %v", c)
			}
		}
	}
	wantRefused(t, none.Copy(), 1, api.ErrNil)
}

// Counts at the top, and next to it.

// one is a step that adds to just this field, and to Got.
func one(field, n int) api.Done {
	switch fieldNames[field] {
	case "Local":
		return api.Done{Local: n > 0}
	case "Copies":
		return api.Done{Copies: copies(n)}
	case "Lost":
		return api.Done{Lost: firstBits(n)}
	case "Expired":
		return api.Done{Expired: firstBits(n)}
	}
	return api.Done{}
}

func firstBits(n int) api.Bits {
	var b api.Bits
	for i := range n {
		b[i/64] |= 1 << (i % 64)
	}
	return b
}

func TestNoteAtTheTopOfEachField(t *testing.T) {
	for field := range fieldNames {
		for short := range uint64(5) {
			for n := range 6 {
				var r row
				r[field] = top - short
				x, m := filled(row{5, 5, 5, 5, 5, 5}.counts(), r.counts())
				run(t, x, m, call{kind: note, router: 2, d: one(field, n)})
				wantState(t, x, m)
				c, _ := x.At(2)
				if plus := rowOf(countsOf(one(field, n)))[field]; rowOf(c)[field] != top-short+min(plus, short) {
					t.Fatalf("%s 2^64 - 1 - %d and %d is %d", fieldNames[field], short, plus, rowOf(c)[field])
				}
				run(t, x, m, call{kind: note, router: 2, d: example()}, call{kind: note, router: 2, d: api.Done{Lost: every(), Expired: every()}})
				wantState(t, x, m)
			}
		}
	}
}

func TestWhatIsAtTheTopStaysThere(t *testing.T) {
	full := row{top, top, top, top, top, top}.counts()
	for n := 1; n <= 24; n++ {
		l := make([]api.Counts, 24)
		l[n-1] = full
		x, m := filled(l...)
		for _, d := range []api.Done{{}, example(), {Local: true, Copies: copies(300), Lost: every(), Expired: every()}} {
			run(t, x, m, call{kind: note, router: n, d: d}, call{kind: bad, router: n})
			wantAt(t, x, n, full)
			wantState(t, x, m)
		}
		run(t, x, m, call{kind: wipe, router: n})
		wantAt(t, x, n, api.Counts{})
		run(t, x, m, call{kind: bad, router: n})
		wantState(t, x, m)
	}
}

func TestAllBitsNextToTheTop(t *testing.T) {
	d := api.Done{Local: true, Copies: copies(256), Lost: every(), Expired: every()}
	for _, c := range []struct{ had, has uint64 }{{top - 257, top - 1}, {top - 256, top}, {top - 255, top}, {top - 1, top}, {top, top}, {0, 256}, {1 << 63, 1<<63 + 256}, {1<<32 - 1, 1<<32 + 255}} {
		x, m := filled(api.Counts{Copies: c.had, Lost: c.had, Expired: c.had})
		run(t, x, m, call{kind: note, router: 1, d: d})
		wantAt(t, x, 1, api.Counts{Got: 1, Local: 1, Copies: c.has, Lost: c.has, Expired: c.has})
		wantState(t, x, m)
	}
}

func TestBadAtTheTopOfEachField(t *testing.T) {
	for short := range uint64(4) {
		for field := range fieldNames {
			var r row
			r[field] = top - short
			x, m := filled(api.Counts{}, api.Counts{}, r.counts())
			for range 5 {
				run(t, x, m, call{kind: bad, router: 3})
				wantState(t, x, m)
			}
		}
	}
	for _, c := range []struct{ got, bad, gotThen, badThen uint64 }{
		{top, 0, top, 1}, {top - 1, 0, top, 1}, {top - 2, 0, top - 1, 1}, {0, top, 1, top}, {0, top - 1, 1, top}, {0, top - 2, 1, top - 1}, {top, top, top, top}, {top, top - 2, top, top - 1},
	} {
		x, _ := filled(api.Counts{Got: c.got, Bad: c.bad, Lost: 7})
		if e := x.Bad(1); e != api.OK {
			t.Fatalf("Bad(1) = %d", e)
		}
		wantAt(t, x, 1, api.Counts{Got: c.gotThen, Bad: c.badThen, Lost: 7})
	}
}

// P15.3

func TestAllAddsEachRouter(t *testing.T) {
	for n := 1; n <= 24; n++ {
		l := make([]api.Counts, 24)
		l[n-1] = row{1, 2, 3, 4, 5, 6}.counts()
		x, _ := filled(l...)
		wantAll(t, x, l[n-1])
	}
	x, m := filled(unlike()...)
	wantAll(t, x, row{300000, 300024, 300048, 300072, 300096, 300120}.counts())
	wantState(t, x, m)
}

func TestAllAtTheTopOfEachField(t *testing.T) {
	for field := range fieldNames {
		for _, l := range [][]uint64{
			{top}, {top, 0}, {0, top}, {top, 1}, {1, top}, {top, top}, {top - 1, 0}, {top - 1, 1}, {1, top - 1}, {top - 1, 2}, {2, top - 1}, {top - 2, 1}, {top - 1, 1, 1}, {1, 1, top - 2}, {1, 1, top - 3},
			{1 << 63, 1 << 63}, {1 << 63, 1<<63 - 1}, {1 << 63, 1<<63 - 2}, {1 << 63, 1<<63 - 1, 1}, {1 << 63, 1 << 63, 1 << 63, 1 << 63}, slices.Repeat([]uint64{top}, 24), slices.Repeat([]uint64{top / 24}, 24), slices.Repeat([]uint64{top/24 + 1}, 24),
		} {
			var counts []api.Counts
			for _, n := range l {
				var r row
				r[field] = n
				counts = append(counts, r.counts())
			}
			x, m := filled(counts...)
			wantState(t, x, m)
			slices.Reverse(counts)
			x, m = filled(append(make([]api.Counts, 24-len(l)), counts...)...)
			wantState(t, x, m)
		}
	}
}

// A field that is full takes no part of another one with it.
func TestFieldsAreApart(t *testing.T) {
	for set := range 1 << len(fieldNames) {
		var r row
		for i := range r {
			r[i] = uint64(i) + 3
			if set>>i&1 == 1 {
				r[i] = top
			}
		}
		x, m := filled(r.counts(), r.counts())
		wantState(t, x, m)
		run(t, x, m, call{kind: note, router: 1, d: example()}, call{kind: bad, router: 2}, call{kind: note, router: 2, d: api.Done{Expired: laid(3)}})
		wantState(t, x, m)
	}
}

func TestAllOfMadeUpCounts(t *testing.T) {
	var d dice = 9
	for range 500 {
		var l []api.Counts
		for range d.below(25) {
			l = append(l, d.counts())
		}
		x, m := filled(l...)
		wantState(t, x, m)
	}
}

func TestAllChangesNothing(t *testing.T) {
	x, m := filled(unlike()...)
	for range 3 {
		wantAll(t, x, m.all())
	}
	wantState(t, x, m)
}

// P15.4

func shuffled[T any](d *dice, l []T) []T {
	l = slices.Clone(l)
	for i := len(l) - 1; i > 0; i-- {
		k := d.below(i + 1)
		l[i], l[k] = l[k], l[i]
	}
	return l
}

// eachOrder goes through all orders of l.
func eachOrder[T any](l []T, do func(l []T)) {
	var from func(at int)
	from = func(at int) {
		if at == len(l) {
			do(slices.Clone(l))
			return
		}
		for i := at; i < len(l); i++ {
			l[at], l[i] = l[i], l[at]
			from(at + 1)
			l[at], l[i] = l[i], l[at]
		}
	}
	from(0)
}

// told is all that a tally tells.
func told(x *tally.Tally) []api.Counts {
	l := []api.Counts{x.All()}
	for n := 1; n <= 24; n++ {
		c, _ := x.At(n)
		l = append(l, c)
	}
	return l
}

func TestEachOrderOfFewSteps(t *testing.T) {
	l := []call{
		{kind: note, router: 1, d: example()}, {kind: bad, router: 1}, {kind: note, router: 1, d: api.Done{Expired: every()}},
		{kind: note, router: 24, d: api.Done{Copies: copies(3)}}, {kind: bad, router: 24}, {kind: note, router: 1, d: api.Done{Local: true}},
	}
	for _, start := range [][]api.Counts{nil, unlike(), {row{top - 3, top - 1, top - 1, top - 1, top - 255, top - 1}.counts()}, {row{top - 4, top - 2, top - 2, top - 2, top - 256, top}.counts()}} {
		first, m := filled(start...)
		run(t, first, m, l...)
		wantState(t, first, m)
		eachOrder(l, func(l []call) {
			x, m := filled(start...)
			run(t, x, m, l...)
			if !slices.Equal(told(x), told(first)) {
				t.Fatalf("in the order %v: %v, not %v", l, told(x), told(first))
			}
		})
	}
}

func TestLongRowsInSeveralOrders(t *testing.T) {
	var d dice = 15
	for range 20 {
		var start []api.Counts
		for range d.below(25) {
			start = append(start, d.counts())
		}
		var l []call
		for range 200 {
			l = append(l, d.call(24))
		}
		first, m := filled(start...)
		run(t, first, m, l...)
		wantState(t, first, m)
		for range 5 {
			x, m := filled(start...)
			run(t, x, m, shuffled(&d, l)...)
			if !slices.Equal(told(x), told(first)) {
				t.Fatalf("%v, not %v", told(x), told(first))
			}
		}
	}
}

// wantAllOfEach holds All against what each At tells.
func wantAllOfEach(t *testing.T, x *tally.Tally) {
	t.Helper()
	l := told(x)
	wantAll(t, x, total(l[1:]...))
}

func TestAllIsWhatEachAtTells(t *testing.T) {
	var d dice = 21
	for range 40 {
		var start []api.Counts
		for range d.below(25) {
			start = append(start, d.counts())
		}
		x, m := filled(start...)
		for range 50 {
			c := d.call(24)
			if d.below(8) == 0 {
				c.kind = wipe
			}
			run(t, x, m, c)
			wantAllOfEach(t, x)
		}
		wantState(t, x, m)
	}
}

func TestOneRouterChangesNoOther(t *testing.T) {
	for n := 1; n <= 24; n++ {
		for _, c := range []call{{kind: note, router: n, d: example()}, {kind: note, router: n, d: api.Done{Copies: odd(), Expired: every()}}, {kind: bad, router: n}, {kind: wipe, router: n}} {
			for _, start := range [][]api.Counts{nil, unlike(), slices.Repeat([]api.Counts{row{top, top - 1, top, top, top - 1, top}.counts()}, 24)} {
				x, m := filled(start...)
				before := told(x)
				run(t, x, m, c)
				for k, was := range before[1:] {
					if k+1 != n {
						wantAt(t, x, k+1, was)
					}
				}
				wantState(t, x, m)
			}
		}
	}
}

// R5: what is handed in stays as it was, the room behind its end too, and is not kept.

func mark() api.Copy { return api.Copy{To: -9, Header: api.Header{Width: -9, Bits: every()}} }

// roomy has room behind its end, filled.
func roomy(l []api.Copy) []api.Copy {
	return append(slices.Clone(l), mark(), mark(), mark())[:len(l)]
}

func TestWhatIsHandedInStays(t *testing.T) {
	for _, l := range [][]api.Copy{nil, copies(1), copies(24), odd()} {
		d := api.Done{Local: true, Copies: roomy(l), Lost: laid(1, 9), Expired: every()}
		was := api.Done{Local: true, Copies: slices.Clone(d.Copies), Lost: laid(1, 9), Expired: every()}
		x := tally.New()
		var none *tally.Tally
		tally.Of(d)
		for _, n := range []int{1, 24, 0, 25} {
			x.Note(n, d)
			x.Copy().Note(n, d)
			none.Note(n, d)
		}
		behind := d.Copies[:len(l)+3][len(l):]
		if len(d.Copies) != len(l) || !slices.Equal(d.Copies, was.Copies) || !slices.Equal(behind, []api.Copy{mark(), mark(), mark()}) {
			t.Errorf("%v became %v, and behind it %v", was.Copies, d.Copies, behind)
		}
		if d.Copies, was.Copies = nil, nil; !reflect.DeepEqual(d, was) {
			t.Errorf("%v became %v", was, d)
		}
	}
}

func TestWhatIsHandedInIsNotKept(t *testing.T) {
	d := api.Done{Local: true, Copies: roomy(odd()), Lost: laid(1, 9)}
	x := tally.New()
	x.Note(3, d)
	clear(d.Copies[:cap(d.Copies)])
	d.Copies, d.Local, d.Lost = d.Copies[:1], false, every()
	want := api.Counts{Got: 1, Local: 1, Copies: uint64(len(odd())), Lost: 2}
	wantAt(t, x, 3, want)
	wantAll(t, x, want)
}

// R6: what was asked before has no part in it.
func TestOfHangsOnItsStepAlone(t *testing.T) {
	x := tally.New()
	for _, d := range steps()[:200] {
		x.Note(1, d)
		tally.Of(d)
		if c := tally.Of(example()); c != (api.Counts{Got: 1, Local: 1, Copies: 2, Lost: 2}) {
			t.Fatalf("Of = %+v", c)
		}
	}
}

// Each two bytes of what is made up are a call; a copy is taken along from time to time, and goes on in the place of the first one.
func FuzzTally(f *testing.F) {
	f.Add(uint64(1), []byte{0, 3, 1, 3, 2, 3})
	f.Add(uint64(9), []byte{0, 0, 1, 25, 2, 26, 3, 3, 0, 24})
	f.Add(uint64(top), []byte("packets that came, bits that were lost"))
	f.Fuzz(func(t *testing.T, seed uint64, raw []byte) {
		d := dice(seed)
		x, m := filled(d.counts(), d.counts(), d.counts())
		for ; len(raw) >= 2; raw = raw[2:] {
			c := call{kind: kind(raw[0] % 3), router: int(raw[1]%28) - 1, d: d.step()}
			if raw[0]%8 == 3 {
				old, was := x, told(x)
				x = x.Copy()
				old.Note(1, c.d)
				old.Clear(2)
				if !slices.Equal(told(x), was) {
					t.Fatalf("a copy: %v, not %v", told(x), was)
				}
			}
			if c.router < 1 || c.router > 24 {
				wantRefused(t, x, c.router, api.ErrArg)
				continue
			}
			run(t, x, m, c)
		}
		wantState(t, x, m)
		wantAllOfEach(t, x)
	})
}
