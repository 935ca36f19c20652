package table_test

import (
	"fmt"
	"maps"
	"math"
	"reflect"
	"slices"
	"strings"
	"testing"

	"dandelion/api"
	"dandelion/bits"
	"dandelion/graph"
	"dandelion/paths"
	"dandelion/pick"
	"dandelion/sets"
	"dandelion/table"
)

const top = math.MaxUint32

// far are numbers far from all routers, ids, sets and widths, such as are like one in their lowest bits among them.
var far = []int{
	math.MinInt, math.MinInt + 1, math.MinInt + 8, math.MinInt32, math.MinInt32 + 1, math.MaxInt32, math.MaxInt - 1, math.MaxInt,
	1<<16 + 1, 1<<16 + 8, 1 << 32, 1<<32 + 1, 1<<32 + 2, 1<<32 + 8, 1<<32 + 24, 1<<32 + 256,
	1 - 1<<16, 8 - 1<<16, -1 << 32, 1 - 1<<32, 2 - 1<<32, 8 - 1<<32, 24 - 1<<32, 1<<61 + 1, 1 << 62, 1<<62 + 8,
}

var (
	widths        = []int{8, 16, 32, 64, 128, 256}
	noRouters     = append([]int{0, -1, -2, -24, -25, 25, 26, 31, 32, 33, 48, 64, 255, 257}, far...)
	noIds         = append([]int{-1, -2, -8, -1023, -1024, -1025, 1025, 1026, 1032, 2047, 2048, 2049}, far...)
	noSets        = append([]int{-1, -2, -127, -128, 128, 129, 255, 256, 257, 1024}, far...)
	noWidths      = append([]int{-256, -8, -1, 0, 1, 2, 4, 7, 9, 12, 15, 17, 24, 31, 33, 40, 48, 63, 65, 96, 127, 129, 192, 255, 257, 264, 512, 1024}, far...)
	someIds       = []int{1, 2, 7, 8, 9, 16, 17, 24, 25, 63, 64, 65, 127, 128, 129, 255, 256, 257, 511, 512, 513, 1016, 1017, 1023, 1024}
	someEntropies = []uint32{0, 1, 2, 3, 4, 5, 9, 77, 4095, 65535, 65536, 1<<31 - 1, 1 << 31, top - 1, top, 0x9e3779b1}
)

// ints reads "1 3".
func ints(text string) []int {
	var l []int
	for _, s := range strings.Fields(text) {
		var n int
		fmt.Sscan(s, &n)
		l = append(l, n)
	}
	return l
}

// upTo are the numbers from 1 to n.
func upTo(n int) []int {
	var l []int
	for i := 1; i <= n; i++ {
		l = append(l, i)
	}
	return l
}

func without(l []int, n int) []int {
	return slices.DeleteFunc(slices.Clone(l), func(m int) bool { return m == n })
}

func rec(origin, id int, adjs ...api.Adj) api.Record {
	return api.Record{Origin: origin, Epoch: 1, Seq: 1, Claim: id, Adjs: adjs}
}

// recs reads each one as in the document: "1 (0): 2/1 3/1, 2 (9): 1/1".
func recs(text string) []api.Record {
	var l []api.Record
	for _, s := range strings.Split(text, ",") {
		head, rest, _ := strings.Cut(s, ":")
		var r api.Record
		if n, _ := fmt.Sscanf(strings.TrimSpace(head), "%d (%d)", &r.Origin, &r.Claim); n != 2 {
			panic(text)
		}
		r.Epoch, r.Seq = 1, 1
		for _, s := range strings.Fields(rest) {
			var a api.Adj
			fmt.Sscanf(s, "%d/%d", &a.To, &a.Cost)
			r.Adjs = append(r.Adjs, a)
		}
		l = append(l, r)
	}
	return l
}

// entries reads each one as in the document: "0.1 of 4 by 2 3, 1.1 of 2 by 2".
func entries(text string) []api.Entry {
	var l []api.Entry
	for _, s := range strings.Split(text, ",") {
		if head, rest, ok := strings.Cut(s, " by"); ok {
			var x api.Entry
			fmt.Sscanf(strings.TrimSpace(head), "%d.%d of %d", &x.Set, &x.Bit, &x.Owner)
			x.Next = ints(rest)
			l = append(l, x)
		}
	}
	return l
}

func tab(self, width, own int, text string) api.Table {
	return api.Table{Self: self, Width: width, Own: own, Entries: entries(text)}
}

func four() []api.Record {
	return recs("1 (0): 2/1 3/1, 2 (9): 1/1 4/1, 3 (3): 1/1 4/1, 4 (1): 2/1 3/1")
}

func first() api.Table { return tab(1, 8, 0, "0.1 of 4 by 2 3, 0.3 of 3 by 3, 1.1 of 2 by 2") }

func at(set, bit int) api.Entry { return api.Entry{Set: set, Bit: bit, Owner: 2, Next: []int{2}} }

func holding(x ...api.Entry) api.Table { return api.Table{Self: 1, Width: 8, Entries: x} }

// cloned shares nothing with t.
func cloned(t api.Table) api.Table {
	t.Entries = slices.Clone(t.Entries)
	for i := range t.Entries {
		t.Entries[i].Next = slices.Clone(t.Entries[i].Next)
	}
	return t
}

func clonedRecords(l []api.Record) []api.Record {
	l = slices.Clone(l)
	for i := range l {
		l[i].Adjs = slices.Clone(l[i].Adjs)
	}
	return l
}

// Dice.

// dice is a row of numbers that is the same each time.
type dice uint64

func (d *dice) below(n int) int {
	*d = *d*6364136223846793005 + 1442695040888963407
	return int(uint64(*d) >> 33 % uint64(n))
}

func (d *dice) entropy() uint32 { return uint32(d.below(1<<16))<<16 | uint32(d.below(1<<16)) }

func (d *dice) width() int { return widths[d.below(len(widths))] }

// some are at most so many of l, in its order.
func (d *dice) some(l []int, most int) []int {
	l = slices.Clone(l)
	for keep := d.below(most + 1); len(l) > keep; {
		at := d.below(len(l))
		l = slices.Delete(l, at, at+1)
	}
	return l
}

// records are of unlike routers: their claims are of few ids, so that some are claimed by several; costs are few, so that several ways cost the same; some neighbours are told by one side alone, or have no record.
func (d *dice) records() []api.Record {
	var l []api.Record
	most, costs, ids := 1+d.below(24), 1+d.below(4), []int{5, 30, 300, 1024}[d.below(4)]
	for _, origin := range d.some(upTo(24), most) {
		r := api.Record{Origin: origin, Epoch: uint32(1 + d.below(9)), Seq: uint32(1 + d.below(9)), Ingress: d.below(2) == 0}
		r.Claim = d.below(ids + 1)
		l = append(l, r)
	}
	thin := 1 + d.below(8)
	for i := range l {
		for k := range l {
			if i != k && (i+k)*7%thin < 2 && d.below(4) > 0 && len(l[i].Adjs) < api.MaxAdjs {
				l[i].Adjs = append(l[i].Adjs, api.Adj{To: l[k].Origin, Cost: 1 + d.below(costs)})
			}
		}
	}
	return shuffled(d, l)
}

// table is one that may be, and that no records need make.
func (d *dice) table() api.Table {
	t := api.Table{Self: 1 + d.below(24), Width: d.width()}
	if d.below(3) > 0 {
		t.Own = 1 + d.below(1024)
	}
	others := without(upTo(24), t.Self)
	room := (1 + d.below(128)) * t.Width
	places := map[int]bool{}
	for range d.below(25) {
		places[d.below(room)] = true
	}
	delete(places, t.Own-1)
	for _, p := range slices.Sorted(maps.Keys(places)) {
		next := d.some(others, 16)
		if len(next) == 0 {
			next = others[:1]
		}
		t.Entries = append(t.Entries, api.Entry{Set: p / t.Width, Bit: p%t.Width + 1, Owner: others[d.below(23)], Next: slices.Clone(next)})
	}
	return t
}

// number is near an edge, or any.
func (d *dice) number() int {
	edges := []int{-1, 0, 1, 2, 7, 8, 9, 16, 17, 23, 24, 25, 127, 128, 129, 255, 256, 257, 1023, 1024, 1025, math.MinInt, math.MaxInt}
	return edges[d.below(len(edges))]
}

// spoilt has one thing of t changed: it may be a table still.
func (d *dice) spoilt(t api.Table) api.Table {
	t = cloned(t)
	if len(t.Entries) == 0 || d.below(5) == 0 {
		*[]*int{&t.Self, &t.Width, &t.Own}[d.below(3)] = d.number()
		return t
	}
	i, k := d.below(len(t.Entries)), d.below(len(t.Entries))
	x := &t.Entries[i]
	switch d.below(9) {
	case 0:
		x.Set = d.number()
	case 1:
		x.Bit = d.number()
	case 2:
		x.Owner = []int{d.number(), t.Self}[d.below(2)]
	case 3:
		x.Next[d.below(len(x.Next))] = []int{d.number(), t.Self}[d.below(2)]
	case 4:
		x.Next = append(x.Next, d.number())
	case 5:
		x.Next = x.Next[1:]
	case 6:
		t.Entries[i], t.Entries[k] = t.Entries[k], t.Entries[i]
	case 7:
		t.Entries = slices.Insert(t.Entries, i, t.Entries[k])
	case 8:
		t.Own = x.Set*t.Width + x.Bit
	}
	return t
}

func shuffled[T any](d *dice, l []T) []T {
	l = slices.Clone(l)
	for i := len(l) - 1; i > 0; i-- {
		k := d.below(i + 1)
		l[i], l[k] = l[k], l[i]
	}
	return l
}

// eachOrder goes through all orders of l.
func eachOrder[T any](l []T, do func(l []T)) {
	var from func(at int)
	from = func(at int) {
		if at == len(l) {
			do(slices.Clone(l))
			return
		}
		for i := at; i < len(l); i++ {
			l[at], l[i] = l[i], l[at]
			from(at + 1)
			l[at], l[i] = l[i], l[at]
		}
	}
	from(0)
}

// eachRow goes through all rows of at most so many of these.
func eachRow[T any](of []T, most int, do func(l []T)) {
	var from func(l []T)
	from = func(l []T) {
		do(slices.Clone(l))
		if len(l) < most {
			for _, x := range of {
				from(append(slices.Clone(l), x))
			}
		}
	}
	from(nil)
}

// What is asked for, in the document's words.

func within(n, least, greatest int) bool { return least <= n && n <= greatest }

func mayBe(t api.Table) bool {
	if !within(t.Self, 1, 24) || !slices.Contains(widths, t.Width) || !within(t.Own, 0, 1024) || len(t.Entries) > 24 {
		return false
	}
	for i, x := range t.Entries {
		if !within(x.Set, 0, 127) || !within(x.Bit, 1, t.Width) || !within(x.Owner, 1, 24) || x.Owner == t.Self || !within(len(x.Next), 1, 16) {
			return false
		}
		for k, n := range x.Next {
			if !within(n, 1, 24) || n == t.Self || k > 0 && x.Next[k-1] >= n {
				return false
			}
		}
		for _, y := range t.Entries[:i] {
			if y.Set*1000+y.Bit >= x.Set*1000+x.Bit {
				return false
			}
		}
		if t.Own > 0 && x.Set == (t.Own-1)/t.Width && x.Bit == (t.Own-1)%t.Width+1 {
			return false
		}
	}
	return true
}

func recordMayBe(r api.Record) bool {
	if !within(r.Origin, 1, 24) || r.Epoch == 0 || r.Seq == 0 || !within(r.Claim, 0, 1024) || len(r.Adjs) > 16 {
		return false
	}
	for i, a := range r.Adjs {
		if !within(a.To, 1, 24) || a.To == r.Origin || i > 0 && r.Adjs[i-1].To >= a.To || !within(a.Cost, 1, 1000) {
			return false
		}
	}
	return true
}

func recordsMayBe(l []api.Record) bool {
	for i, r := range l {
		if !recordMayBe(r) || slices.ContainsFunc(l[:i], func(o api.Record) bool { return o.Origin == r.Origin }) {
			return false
		}
	}
	return true
}

const endless = 1 << 20

type costs [25][25]int

// told is what each router's neighbours cost it, of those that say the same of it.
func told(l []api.Record) costs {
	var says, both costs
	for _, r := range l {
		for _, a := range r.Adjs {
			says[r.Origin][a.To] = a.Cost
		}
	}
	for a := range both {
		for b := range both {
			both[a][b] = endless
			if says[a][b] > 0 && says[b][a] > 0 {
				both[a][b] = says[a][b]
			}
		}
	}
	return both
}

// least is what each least-cost way costs.
func least(edges costs) costs {
	c := edges
	routers := upTo(24)
	for _, n := range routers {
		c[n][n] = 0
	}
	for _, by := range routers {
		for _, a := range routers {
			for _, b := range routers {
				c[a][b] = min(c[a][b], c[a][by]+c[by][b])
			}
		}
	}
	return c
}

// nextOf holds each neighbour against what least-cost ways cost.
func nextOf(edges, c costs, self, owner int) []int {
	var l []int
	for _, n := range without(upTo(24), self) {
		if edges[self][n] < endless && edges[self][n]+c[n][owner] == c[self][owner] {
			l = append(l, n)
		}
	}
	return l
}

// liveOf are the records that self comes to; it needs one of its own.
func liveOf(self int, l []api.Record) []api.Record {
	if !slices.ContainsFunc(l, func(r api.Record) bool { return r.Origin == self }) {
		return nil
	}
	c := least(told(l))
	return slices.DeleteFunc(slices.Clone(l), func(r api.Record) bool { return c[self][r.Origin] >= endless })
}

// builtOf goes through all ids, and for each one through all records.
func builtOf(self, width int, l []api.Record) api.Table {
	t := api.Table{Self: self, Width: width}
	edges, live := told(l), liveOf(self, l)
	c := least(edges)
	for id := 1; id <= 1024; id++ {
		by := slices.DeleteFunc(slices.Clone(live), func(r api.Record) bool { return r.Claim != id })
		if len(by) != 1 {
			continue
		}
		if owner := by[0].Origin; owner == self {
			t.Own = id
		} else {
			t.Entries = append(t.Entries, api.Entry{Set: (id - 1) / width, Bit: (id-1)%width + 1, Owner: owner, Next: nextOf(edges, c, self, owner)})
		}
	}
	return t
}

func foundOf(t api.Table, set, bit int) (api.Entry, bool) {
	if mayBe(t) {
		for _, x := range t.Entries {
			if x.Set == set && x.Bit == bit {
				return x, true
			}
		}
	}
	return api.Entry{}, false
}

// takenOf is the neighbour of the greatest rank.
func takenOf(x api.Entry, entropy uint32) int {
	taken := x.Next[0]
	for _, n := range x.Next {
		if pick.Mix(entropy, n) > pick.Mix(entropy, taken) {
			taken = n
		}
	}
	return taken
}

func maskOf(t api.Table, set int, entropy uint32, to int) api.Bits {
	var b api.Bits
	for _, x := range t.Entries {
		if x.Set == set && takenOf(x, entropy) == to {
			b[(x.Bit-1)/64] |= 1 << ((x.Bit - 1) % 64)
		}
	}
	return b
}

func neighboursOf(t api.Table, set int, entropy uint32) []int {
	var l []int
	for n := 1; n <= 24; n++ {
		if maskOf(t, set, entropy, n) != (api.Bits{}) {
			l = append(l, n)
		}
	}
	return l
}

func like(a, b api.Entry) bool {
	return a.Set == b.Set && a.Bit == b.Bit && a.Owner == b.Owner && slices.Equal(a.Next, b.Next)
}

// alike holds tables against each other; an empty list is like none.
func alike(a, b api.Table) bool {
	return a.Self == b.Self && a.Width == b.Width && a.Own == b.Own && slices.EqualFunc(a.Entries, b.Entries, like)
}

func isZero(x api.Entry) bool { return x.Set == 0 && x.Bit == 0 && x.Owner == 0 && len(x.Next) == 0 }

// Wanted.

func wantCheck(t *testing.T, x api.Table, want api.Errno) {
	t.Helper()
	if e := table.Check(x); e != want {
		t.Fatalf("Check(%v) = %d; it should be %d", x, e, want)
	}
}

// wantNoTable: no call takes it.
func wantNoTable(t *testing.T, x api.Table) {
	t.Helper()
	wantCheck(t, x, api.ErrArg)
	for _, p := range [][2]int{{0, 1}, {0, 2}, {1, 1}, {127, 8}} {
		wantFound(t, x, p[0], p[1], api.Entry{}, false)
		if n, ok := table.Next(x, p[0], p[1], 0); n != 0 || ok {
			t.Fatalf("Next(%v, %v) = %d, %v", x, p, n, ok)
		}
	}
	wantNoMask(t, x, 0, 2)
	wantNoNeighbours(t, x, 0)
}

func wantBuild(t *testing.T, self, width int, l []api.Record, want api.Table) {
	t.Helper()
	if x, e := table.Build(self, width, l); e != api.OK || !alike(x, want) {
		t.Fatalf("Build(%d, %d, %v)\n= %v, %d; it should be\n%v", self, width, l, x, e, want)
	}
}

func wantNoBuild(t *testing.T, self, width int, l []api.Record) {
	t.Helper()
	if x, e := table.Build(self, width, l); e != api.ErrArg || x.Self != 0 || x.Width != 0 || x.Own != 0 || len(x.Entries) != 0 {
		t.Fatalf("Build(%d, %d, %v) = %v, %d; it should be ErrArg", self, width, l, x, e)
	}
}

func wantFound(t *testing.T, x api.Table, set, bit int, want api.Entry, there bool) {
	t.Helper()
	if y, ok := table.Find(x, set, bit); ok != there || !like(y, want) {
		t.Fatalf("Find(%v, %d, %d) = %v, %v; it should be %v, %v", x, set, bit, y, ok, want, there)
	}
}

func wantNext(t *testing.T, x api.Table, set, bit int, entropy uint32, want int, there bool) {
	t.Helper()
	if n, ok := table.Next(x, set, bit, entropy); n != want || ok != there {
		t.Fatalf("Next(%v, %d, %d, %d) = %d, %v; it should be %d, %v", x, set, bit, entropy, n, ok, want, there)
	}
}

func wantMask(t *testing.T, x api.Table, set int, entropy uint32, to int, want api.Bits) {
	t.Helper()
	if b, e := table.Mask(x, set, entropy, to); b != want || e != api.OK {
		t.Fatalf("Mask(%v, %d, %d, %d) = %s, %d; it should be %s", x, set, entropy, to, bits.Text(b), e, bits.Text(want))
	}
}

func wantNoMask(t *testing.T, x api.Table, set, to int) {
	t.Helper()
	if b, e := table.Mask(x, set, 0, to); b != (api.Bits{}) || e != api.ErrArg {
		t.Fatalf("Mask(%v, %d, 0, %d) = %v, %d; it should be ErrArg", x, set, to, b, e)
	}
}

func wantNeighbours(t *testing.T, x api.Table, set int, entropy uint32, want []int) {
	t.Helper()
	if l, e := table.Neighbours(x, set, entropy); !slices.Equal(l, want) || e != api.OK {
		t.Fatalf("Neighbours(%v, %d, %d) = %v, %d; it should be %v", x, set, entropy, l, e, want)
	}
}

func wantNoNeighbours(t *testing.T, x api.Table, set int) {
	t.Helper()
	if l, e := table.Neighbours(x, set, 0); len(l) != 0 || e != api.ErrArg {
		t.Fatalf("Neighbours(%v, %d, 0) = %v, %d; it should be ErrArg", x, set, l, e)
	}
}

func wantSame(t *testing.T, a, b api.Table, want bool) {
	t.Helper()
	if table.Same(a, b) != want || table.Same(b, a) != want {
		t.Fatalf("Same(%v, %v) = %v, and %v the other way round; it should be %v", a, b, table.Same(a, b), table.Same(b, a), want)
	}
}

// P13.1

func TestCheckOfTablesThatMayBe(t *testing.T) {
	wantCheck(t, first(), api.OK)
	wantCheck(t, api.Table{Self: 1, Width: 8, Entries: []api.Entry{}}, api.OK)
	for _, width := range widths {
		greatest := without(upTo(24), 1)[7:]
		for _, own := range append([]int{0}, someIds...) {
			wantCheck(t, tab(1, width, own, ""), api.OK)
			wantCheck(t, tab(24, width, own, ""), api.OK)
		}
		for _, set := range []int{0, 1, 3, 126, 127} {
			for _, bit := range []int{1, 2, width - 1, width} {
				for _, self := range []int{1, 2, 23, 24} {
					for _, owner := range without(upTo(24), self) {
						wantCheck(t, api.Table{Self: self, Width: width, Entries: []api.Entry{{Set: set, Bit: bit, Owner: owner, Next: []int{owner}}}}, api.OK)
					}
				}
				wantCheck(t, api.Table{Self: 1, Width: width, Entries: []api.Entry{{Set: set, Bit: bit, Owner: 2, Next: upTo(17)[1:]}}}, api.OK)
				wantCheck(t, api.Table{Self: 1, Width: width, Entries: []api.Entry{{Set: set, Bit: bit, Owner: 2, Next: greatest}}}, api.OK)
			}
		}
	}
}

func TestCheckOfEachSelfAndWidth(t *testing.T) {
	for n := -1100; n <= 1100; n++ {
		for _, x := range []api.Table{{Self: n, Width: 8}, {Self: 1, Width: n}, {Self: 1, Width: 8, Own: n}} {
			want := api.OK
			if !mayBe(x) {
				want = api.ErrArg
			}
			wantCheck(t, x, want)
		}
	}
}

func TestCheckRefusesSelfWidthAndOwn(t *testing.T) {
	wantNoTable(t, api.Table{})
	for _, text := range []string{"", "0.2 of 2 by 2"} {
		for _, n := range noRouters {
			wantNoTable(t, tab(n, 8, 0, text))
		}
		for _, n := range noWidths {
			wantNoTable(t, tab(1, n, 0, text))
			wantNoTable(t, tab(1, n, 1, text))
		}
		for _, n := range noIds {
			wantNoTable(t, tab(1, 8, n, text))
			wantNoTable(t, tab(1, 256, n, text))
		}
	}
}

func TestCheckRefusesEntries(t *testing.T) {
	good := at(1, 2)
	wantCheck(t, holding(good), api.OK)
	refused := func(x api.Entry) {
		t.Helper()
		wantNoTable(t, holding(x))
		wantNoTable(t, holding(at(0, 1), x))
		wantNoTable(t, holding(x, at(2, 1)))
	}
	for _, n := range noSets {
		x := good
		x.Set = n
		refused(x)
	}
	for _, n := range append([]int{0, -1, -8, 9, 10, 16, 256, 257}, far...) {
		x := good
		x.Bit = n
		refused(x)
	}
	for _, n := range append(noRouters, 1) {
		x := good
		x.Owner = n
		refused(x)
		for _, next := range [][]int{{n}, {n, 2}, {2, n}, {2, n, 24}, {2, 24, n}} {
			x := good
			x.Next = next
			refused(x)
		}
	}
	for _, next := range []string{"", "3 2", "2 2", "2 3 3", "24 2", "2 4 3", "3 4 2", "2 3 2"} {
		x := good
		x.Next = ints(next)
		refused(x)
	}
	x := good
	x.Next = []int{}
	refused(x)
}

// The bits go up to the width, and no further.
func TestCheckOfBitsAtEachWidth(t *testing.T) {
	for _, width := range widths {
		for bit := -2; bit <= 300; bit++ {
			x := holding(at(0, bit))
			x.Width = width
			want := api.ErrArg
			if bit >= 1 && bit <= width {
				want = api.OK
			}
			wantCheck(t, x, want)
		}
	}
}

func TestCheckOfManyNext(t *testing.T) {
	others := without(upTo(24), 5)
	for n := range len(others) + 1 {
		x := api.Table{Self: 5, Width: 8, Entries: []api.Entry{{Bit: 1, Owner: 1, Next: others[:n]}}}
		y := api.Table{Self: 5, Width: 8, Entries: []api.Entry{at(0, 1), {Bit: 2, Owner: 1, Next: others[len(others)-n:]}}}
		if n >= 1 && n <= 16 {
			wantCheck(t, x, api.OK)
			wantCheck(t, y, api.OK)
		} else {
			wantNoTable(t, x)
			wantNoTable(t, y)
		}
	}
	wantNoTable(t, holding(api.Entry{Bit: 1, Owner: 2, Next: make([]int, 100000)}))
}

func TestCheckOfManyEntries(t *testing.T) {
	for n := range 40 {
		var x, y api.Table
		x.Self, x.Width, y.Self, y.Width = 1, 8, 1, 256
		for i := range n {
			x.Entries = append(x.Entries, at(i, 1))
			y.Entries = append(y.Entries, at(3, i+1))
		}
		if n <= 24 {
			wantCheck(t, x, api.OK)
			wantCheck(t, y, api.OK)
		} else {
			wantNoTable(t, x)
			wantNoTable(t, y)
		}
	}
	wantNoTable(t, holding(make([]api.Entry, 100000)...))
}

func TestCheckOfOrder(t *testing.T) {
	for _, c := range []struct{ up, down api.Entry }{
		{at(0, 1), at(0, 2)}, {at(0, 1), at(1, 1)}, {at(0, 8), at(1, 1)}, {at(0, 7), at(0, 8)}, {at(5, 8), at(6, 2)},
		{at(126, 8), at(127, 1)}, {at(0, 1), at(127, 8)}, {at(0, 8), at(127, 1)},
	} {
		wantCheck(t, holding(c.up, c.down), api.OK)
		wantNoTable(t, holding(c.down, c.up))
		wantNoTable(t, holding(c.up, c.up))
		wantNoTable(t, holding(c.down, c.down))
		other := c.up
		other.Owner, other.Next = 3, []int{3, 4}
		wantNoTable(t, holding(c.up, other))
		wantNoTable(t, holding(other, c.up, c.down))
		wantNoTable(t, holding(c.up, c.down, other))
	}
	// The order of Owners and of Next has no part in it.
	wantCheck(t, tab(1, 8, 0, "0.1 of 9 by 9, 0.2 of 2 by 2, 0.3 of 2 by 2, 1.1 of 9 by 3 9"), api.OK)
}

func TestCheckOfTheOwnPlace(t *testing.T) {
	for _, width := range widths {
		for _, own := range someIds {
			set, bit, _ := sets.Place(own, width)
			mine := holding(at(set, bit))
			mine.Width, mine.Own = width, own
			wantNoTable(t, mine)
			mine.Own = 0
			wantCheck(t, mine, api.OK)
			for _, other := range someIds {
				set, bit, _ := sets.Place(other, width)
				x := holding(at(set, bit))
				x.Width, x.Own = width, own
				if other != own {
					wantCheck(t, x, api.OK)
				}
			}
		}
	}
	for _, own := range []int{1, 3, 9} {
		x := first()
		x.Own = own
		wantNoTable(t, x)
	}
	for _, own := range []int{0, 2, 4, 8, 10, 11, 17, 1024} {
		x := first()
		x.Own = own
		wantCheck(t, x, api.OK)
	}
	// A set that is above all ids has places, but no Own is there.
	wantCheck(t, tab(1, 256, 1024, "3.255 of 2 by 2, 4.256 of 2 by 2, 127.256 of 2 by 2"), api.OK)
	wantNoTable(t, tab(1, 256, 1024, "3.255 of 2 by 2, 3.256 of 2 by 2"))
}

func TestCheckOfAllShortTables(t *testing.T) {
	of := entries("0.1 of 2 by 2, 0.8 of 2 by 2 3, 1.1 of 3 by 2, 0.2 of 1 by 2, 0.2 of 2 by 1, 0.9 of 2 by 2, 128.1 of 2 by 2, 127.8 of 24 by 23 24, 0.3 of 2 by 3 2")
	eachRow(of, 4, func(l []api.Entry) {
		for _, own := range []int{0, 1, 1024} {
			x := api.Table{Self: 1, Width: 8, Own: own, Entries: l}
			if mayBe(x) {
				wantCheck(t, x, api.OK)
			} else {
				wantCheck(t, x, api.ErrArg)
			}
		}
	})
}

func TestCheckOfMadeUpTables(t *testing.T) {
	var d dice = 13
	wrong := 0
	for range 20000 {
		x := d.table()
		wantCheck(t, x, api.OK)
		y := d.spoilt(x)
		if mayBe(y) {
			wantCheck(t, y, api.OK)
		} else {
			wrong++
			wantNoTable(t, y)
		}
	}
	if wrong < 5000 || wrong > 19000 {
		t.Errorf("%d of them may not be: these are no cases of this", wrong)
	}
}

func TestSameOfTablesThatAreTheSame(t *testing.T) {
	wantSame(t, api.Table{}, api.Table{}, true)
	wantSame(t, api.Table{}, api.Table{Entries: []api.Entry{}}, true)
	wantSame(t, holding(api.Entry{}), holding(api.Entry{Next: []int{}}), true)
	wantSame(t, first(), first(), true)
	built, _ := table.Build(1, 8, four())
	wantSame(t, built, first(), true)
	// What is in the room behind their ends has no part in it.
	x, y := first(), first()
	x.Entries = append(x.Entries, at(5, 5))[:3]
	y.Entries[0].Next = append(y.Entries[0].Next, 7)[:2]
	wantSame(t, x, y, true)
}

func TestSameOfEachField(t *testing.T) {
	for _, change := range []func(x *api.Table){
		func(x *api.Table) { x.Self = 5 }, func(x *api.Table) { x.Self = 1<<32 + 1 }, func(x *api.Table) { x.Self = -1 },
		func(x *api.Table) { x.Width = 16 }, func(x *api.Table) { x.Width = 1<<32 + 8 },
		func(x *api.Table) { x.Own = 4 }, func(x *api.Table) { x.Own = -1 }, func(x *api.Table) { x.Own = 1 << 32 },
		func(x *api.Table) { x.Entries = nil }, func(x *api.Table) { x.Entries = x.Entries[1:] }, func(x *api.Table) { x.Entries = x.Entries[:2] },
		func(x *api.Table) { x.Entries = append(x.Entries, at(2, 1)) }, func(x *api.Table) { x.Entries = append(x.Entries, api.Entry{}) },
		func(x *api.Table) { x.Entries[0], x.Entries[1] = x.Entries[1], x.Entries[0] },
		func(x *api.Table) { x.Entries[1], x.Entries[2] = x.Entries[2], x.Entries[1] },
		func(x *api.Table) { x.Entries[1] = x.Entries[0] },
	} {
		x := first()
		change(&x)
		wantSame(t, x, first(), false)
	}
	for i := range first().Entries {
		for _, change := range []func(x *api.Entry){
			func(x *api.Entry) { x.Set++ }, func(x *api.Entry) { x.Set += 1 << 32 }, func(x *api.Entry) { x.Bit++ }, func(x *api.Entry) { x.Bit = -x.Bit },
			func(x *api.Entry) { x.Owner++ }, func(x *api.Entry) { x.Owner = 0 },
			func(x *api.Entry) { x.Next = nil }, func(x *api.Entry) { x.Next[0]++ }, func(x *api.Entry) { x.Next[len(x.Next)-1] = 24 },
			func(x *api.Entry) { x.Next = append(x.Next, 24) }, func(x *api.Entry) { x.Next = x.Next[1:] }, func(x *api.Entry) { x.Next = x.Next[:len(x.Next)-1] },
		} {
			x := first()
			change(&x.Entries[i])
			wantSame(t, x, first(), false)
		}
	}
}

// Same is asked of all tables, such as may not be among them.
func TestSameOfMadeUpTables(t *testing.T) {
	var d dice = 31
	for range 5000 {
		x := d.table()
		y := d.spoilt(x)
		wantSame(t, x, cloned(x), true)
		wantSame(t, y, cloned(y), true)
		wantSame(t, x, y, alike(x, y))
		wantSame(t, y, d.table(), false)
	}
}

// P13.2

func TestBuildOfTheExamples(t *testing.T) {
	wantBuild(t, 1, 8, four(), first())
	l := four()
	l[2].Claim = 1
	wantBuild(t, 1, 8, l, tab(1, 8, 0, "1.1 of 2 by 2"))
	wantBuild(t, 5, 8, four(), tab(5, 8, 0, ""))
	wantNoBuild(t, 0, 8, nil)
	wantNoBuild(t, 1, 24, nil)
	wantBuild(t, 4, 16, four(), tab(4, 16, 1, "0.3 of 3 by 3, 0.9 of 2 by 2"))
}

func TestBuildOfNoRecord(t *testing.T) {
	for self := 1; self <= 24; self++ {
		for _, width := range widths {
			wantBuild(t, self, width, nil, tab(self, width, 0, ""))
			wantBuild(t, self, width, []api.Record{}, tab(self, width, 0, ""))
		}
	}
}

func TestBuildOfOneRecord(t *testing.T) {
	for origin := 1; origin <= 24; origin++ {
		for _, width := range widths {
			for _, id := range append([]int{0}, someIds...) {
				wantBuild(t, origin, width, []api.Record{rec(origin, id)}, tab(origin, width, id, ""))
				other := origin%24 + 1
				wantBuild(t, origin, width, []api.Record{rec(origin, id, api.Adj{To: other, Cost: 1})}, tab(origin, width, id, ""))
				// It is another one's, and self has none.
				wantBuild(t, other, width, []api.Record{rec(origin, id)}, tab(other, width, 0, ""))
				wantBuild(t, other, width, []api.Record{rec(origin, id, api.Adj{To: other, Cost: 1})}, tab(other, width, 0, ""))
			}
		}
	}
}

// Each id at each width, as the own one and as a neighbour's.
func TestBuildOfEachId(t *testing.T) {
	for _, width := range widths {
		for id := 1; id <= 1024; id++ {
			l := []api.Record{rec(1, 0, api.Adj{To: 2, Cost: 1}), rec(2, id, api.Adj{To: 1, Cost: 1})}
			want := holding(at((id-1)/width, (id-1)%width+1))
			want.Width = width
			wantBuild(t, 1, width, l, want)
			wantBuild(t, 2, width, l, tab(2, width, id, ""))
		}
	}
}

func TestBuildOfSelfWithoutARecord(t *testing.T) {
	l := four()
	for i := range l {
		l[i].Adjs = append(l[i].Adjs, api.Adj{To: 5, Cost: 1})
	}
	for _, width := range widths {
		for self := 5; self <= 24; self++ {
			wantBuild(t, self, width, l, tab(self, width, 0, ""))
		}
	}
	wantBuild(t, 5, 8, append(l, rec(5, 3)), tab(5, 8, 3, ""))
	wantBuild(t, 5, 8, append(l, rec(5, 30, api.Adj{To: 4, Cost: 1})), tab(5, 8, 30, "0.1 of 4 by 4, 0.3 of 3 by 4, 1.1 of 2 by 4"))
}

func TestBuildOfOwn(t *testing.T) {
	for _, c := range []struct {
		text string
		own  int
		want string
	}{
		{"1 (0): 2/1, 2 (5): 1/1", 0, "0.5 of 2 by 2"},
		{"1 (5): 2/1, 2 (0): 1/1", 5, ""},
		{"1 (5): 2/1, 2 (6): 1/1", 5, "0.6 of 2 by 2"},
		{"1 (5): 2/1, 2 (5): 1/1", 0, ""},
		{"1 (5): 2/1, 2 (13): 1/1", 5, "1.5 of 2 by 2"},
		// Who claims it too is not live.
		{"1 (5): 2/1, 2 (5):", 5, ""},
		{"1 (5):, 2 (5): 1/1", 5, ""},
		{"1 (5):, 2 (5):", 5, ""},
		// It is live, and far.
		{"1 (5): 2/1, 2 (0): 1/1 3/1, 3 (5): 2/1", 0, ""},
		{"1 (5): 2/1, 2 (7): 1/1 3/1, 3 (5): 2/1", 0, "0.7 of 2 by 2"},
		{"1 (5): 2/1, 2 (7): 1/1 3/1, 3 (7): 2/1", 5, ""},
		{"1 (7): 2/1, 2 (7): 1/1 3/1, 3 (7): 2/1", 0, ""},
		{"1 (1024): 2/1, 2 (1): 1/1 3/1, 3 (1023): 2/1", 1024, "0.1 of 2 by 2, 127.7 of 3 by 2"},
	} {
		wantBuild(t, 1, 8, recs(c.text), tab(1, 8, c.own, c.want))
	}
}

// Claims of 0 are no claims: any number of routers may have them.
func TestBuildOfNoClaims(t *testing.T) {
	wantBuild(t, 1, 8, recs("1 (0): 2/1 3/1, 2 (0): 1/1, 3 (0): 1/1"), tab(1, 8, 0, ""))
	wantBuild(t, 1, 8, recs("1 (1): 2/1 3/1, 2 (0): 1/1, 3 (0): 1/1"), tab(1, 8, 1, ""))
	wantBuild(t, 2, 8, recs("1 (1): 2/1 3/1, 2 (0): 1/1, 3 (0): 1/1"), tab(2, 8, 0, "0.1 of 1 by 1"))
}

func TestBuildGoesByCosts(t *testing.T) {
	for _, c := range []struct{ text, want string }{
		// The straight edge is dear, cheap, as good.
		{"1 (0): 2/3 3/1, 2 (2): 1/1 3/1, 3 (3): 1/1 2/1", "0.2 of 2 by 3, 0.3 of 3 by 3"},
		{"1 (0): 2/1 3/1, 2 (2): 1/1 3/1, 3 (3): 1/1 2/1", "0.2 of 2 by 2, 0.3 of 3 by 3"},
		{"1 (0): 2/2 3/1, 2 (2): 1/1 3/1, 3 (3): 1/1 2/1", "0.2 of 2 by 2 3, 0.3 of 3 by 3"},
		// It is the one that goes there which tells the cost.
		{"1 (0): 2/1 3/1, 2 (2): 1/1000 3/1000, 3 (3): 1/1000 2/1", "0.2 of 2 by 2, 0.3 of 3 by 3"},
		{"1 (0): 2/1000 3/999, 2 (2): 1/1 3/1, 3 (3): 1/1 2/1", "0.2 of 2 by 2 3, 0.3 of 3 by 3"},
		{"1 (0): 2/1000 3/1, 2 (2): 1/1 3/1, 3 (3): 1/1 2/1000", "0.2 of 2 by 2, 0.3 of 3 by 3"},
		{"1 (0): 2/1000 3/1, 2 (2): 1/1 3/1, 3 (3): 1/1 2/998", "0.2 of 2 by 3, 0.3 of 3 by 3"},
		// One side alone says that they are neighbours.
		{"1 (0): 2/2 3/1, 2 (2): 1/1, 3 (3): 1/1 2/1", "0.2 of 2 by 2, 0.3 of 3 by 3"},
		{"1 (0): 3/1, 2 (2): 1/1 3/1, 3 (3): 1/1 2/1", "0.2 of 2 by 3, 0.3 of 3 by 3"},
		{"1 (0): 2/1 3/1, 2 (2): 3/1, 3 (3): 1/1 2/9", "0.2 of 2 by 3, 0.3 of 3 by 3"},
		{"1 (0): 2/1 3/1, 2 (2): 3/1, 3 (3): 2/9", ""},
		{"1 (0):, 2 (2): 1/1 3/1, 3 (3): 1/1 2/9", ""},
		{"1 (0): 2/1 3/1, 2 (2): 1/1 3/1", "0.2 of 2 by 2"},
	} {
		wantBuild(t, 1, 8, recs(c.text), tab(1, 8, 0, c.want))
	}
}

// row has all 24 routers one behind the other.
func row(claims func(n int) int) []api.Record {
	var l []api.Record
	for n := 1; n <= 24; n++ {
		r := rec(n, claims(n))
		for _, m := range []int{n - 1, n + 1} {
			if within(m, 1, 24) {
				r.Adjs = append(r.Adjs, api.Adj{To: m, Cost: n})
			}
		}
		l = append(l, r)
	}
	return l
}

func TestBuildOfARow(t *testing.T) {
	for _, width := range widths {
		l := row(func(n int) int { return n * 40 })
		for self := 1; self <= 24; self++ {
			want := api.Table{Self: self, Width: width, Own: self * 40}
			for _, n := range without(upTo(24), self) {
				next := self + 1
				if n < self {
					next = self - 1
				}
				want.Entries = append(want.Entries, api.Entry{Set: (n*40 - 1) / width, Bit: (n*40-1)%width + 1, Owner: n, Next: []int{next}})
			}
			wantBuild(t, self, width, l, want)
		}
		all := row(func(int) int { return 7 })
		for self := 1; self <= 24; self++ {
			wantBuild(t, self, width, all, tab(self, width, 0, ""))
		}
	}
}

// Entries stand by their places, not by their Owners.
func TestBuildPutsEntriesIntoOrder(t *testing.T) {
	wantBuild(t, 1, 8, recs("1 (4): 2/1, 2 (1024): 1/1 3/1, 3 (1): 2/1 4/1, 4 (17): 3/1 5/1, 5 (16): 4/1 6/1, 6 (2): 5/1"),
		tab(1, 8, 4, "0.1 of 3 by 2, 0.2 of 6 by 2, 1.8 of 5 by 2, 2.1 of 4 by 2, 127.8 of 2 by 2"))
	down := row(func(n int) int { return 25 - n })
	for _, width := range widths {
		wantBuild(t, 1, width, down, builtOf(1, width, down))
		x, _ := table.Build(24, width, down)
		for i, y := range x.Entries {
			if y.Owner != 23-i {
				t.Fatalf("width %d: %v", width, x)
			}
		}
	}
}

// wide has as many least-cost ways from 1 to 18 as a record has room for neighbours; the routers behind are come to by 18 alone.
func wide() []api.Record {
	l := []api.Record{rec(1, 100)}
	far := rec(18, 118)
	for n := 2; n <= 17; n++ {
		l[0].Adjs = append(l[0].Adjs, api.Adj{To: n, Cost: 500})
		far.Adjs = append(far.Adjs, api.Adj{To: n, Cost: 1000})
		l = append(l, rec(n, 100+n, api.Adj{To: 1, Cost: 1}, api.Adj{To: 18, Cost: 500}))
	}
	return append(l, far)
}

func TestBuildOfManyNext(t *testing.T) {
	for _, width := range widths {
		x, e := table.Build(1, width, wide())
		if e != api.OK || x.Own != 100 || len(x.Entries) != 17 || !slices.Equal(x.Entries[16].Next, upTo(17)[1:]) || table.Check(x) != api.OK {
			t.Fatalf("%v, %d", x, e)
		}
		for self := 1; self <= 24; self++ {
			wantBuild(t, self, width, wide(), builtOf(self, width, wide()))
		}
	}
}

// Of a record its Origin, Claim and Adjs alone have a part in it.
func TestBuildGoesByNoStamp(t *testing.T) {
	var d dice = 5
	for range 200 {
		l := d.records()
		self, width := 1+d.below(24), d.width()
		want, _ := table.Build(self, width, l)
		for i := range l {
			l[i].Epoch, l[i].Seq, l[i].Ingress = 1+d.entropy()>>1, 1+d.entropy()>>1, !l[i].Ingress
		}
		wantBuild(t, self, width, l, want)
	}
}

func TestBuildOfMadeUpRecords(t *testing.T) {
	var d dice = 2
	rows, several, conflicts := 0, 0, 0
	for range 1500 {
		l := d.records()
		width := d.width()
		for range 3 {
			self := 1 + d.below(24)
			want := builtOf(self, width, l)
			wantBuild(t, self, width, l, want)
			wantCheck(t, want, api.OK)
			rows += len(want.Entries)
			for _, x := range want.Entries {
				if len(x.Next) > 1 {
					several++
				}
			}
			if i := slices.IndexFunc(l, func(r api.Record) bool { return r.Origin == self }); i >= 0 && l[i].Claim != want.Own {
				conflicts++
			}
		}
	}
	if rows < 3000 || several < 500 || conflicts < 200 {
		t.Errorf("%d entries, %d with several Next, %d conflicts: these are no cases of this", rows, several, conflicts)
	}
}

func TestBuildRefusesSelfAndWidth(t *testing.T) {
	for _, l := range [][]api.Record{nil, {}, {rec(1, 1)}, four(), wide()} {
		for _, n := range noRouters {
			wantNoBuild(t, n, 8, l)
			wantNoBuild(t, n, 24, l)
		}
		for _, n := range noWidths {
			wantNoBuild(t, 1, n, l)
			wantNoBuild(t, 24, n, l)
		}
	}
	for n := -300; n <= 600; n++ {
		if !slices.Contains(widths, n) {
			wantNoBuild(t, 1, n, four())
		}
	}
}

// badRecords may not be, each for one reason.
func badRecords() []api.Record {
	var l []api.Record
	bad := func(change func(r *api.Record)) {
		r := recs("2 (9): 1/1 4/1")[0]
		change(&r)
		l = append(l, r)
	}
	for _, n := range noRouters {
		bad(func(r *api.Record) { r.Origin = n })
		bad(func(r *api.Record) { r.Adjs[0].To = n })
		bad(func(r *api.Record) { r.Adjs[1].To = n })
	}
	for _, n := range noIds {
		bad(func(r *api.Record) { r.Claim = n })
	}
	for _, n := range append([]int{0, -1, -1000, 1001, 1002, 2000}, math.MinInt, math.MaxInt, 1<<32+1, 1-1<<32) {
		bad(func(r *api.Record) { r.Adjs[0].Cost = n })
		bad(func(r *api.Record) { r.Adjs[1].Cost = n })
	}
	bad(func(r *api.Record) { r.Epoch = 0 })
	bad(func(r *api.Record) { r.Seq = 0 })
	bad(func(r *api.Record) { r.Adjs[1].To = 2 })
	bad(func(r *api.Record) { r.Adjs[1].To = 1 })
	bad(func(r *api.Record) { r.Adjs[0], r.Adjs[1] = r.Adjs[1], r.Adjs[0] })
	bad(func(r *api.Record) {
		r.Adjs = nil
		for n := 3; n <= 19; n++ {
			r.Adjs = append(r.Adjs, api.Adj{To: n, Cost: 1})
		}
	})
	bad(func(r *api.Record) { r.Adjs = make([]api.Adj, 100000) })
	return append(l, api.Record{})
}

func TestBuildRefusesRecords(t *testing.T) {
	others := slices.Delete(four(), 1, 2)
	for _, r := range badRecords() {
		wantNoBuild(t, 1, 8, []api.Record{r})
		wantNoBuild(t, 2, 8, []api.Record{r})
		for i := range len(others) + 1 {
			l := slices.Insert(slices.Clone(others), i, r)
			wantNoBuild(t, 1, 8, l)
			wantNoBuild(t, 2, 256, l)
			// Self has no record, and it is refused for all that.
			wantNoBuild(t, 7, 8, l)
		}
	}
}

func TestBuildRefusesTwoOfOneOrigin(t *testing.T) {
	for i, r := range four() {
		for k := range 5 {
			for self := 1; self <= 5; self++ {
				wantNoBuild(t, self, 8, slices.Insert(four(), k, r))
				// Nor does it help that one is newer, or claims nothing, or is not live.
				newer := r
				newer.Epoch, newer.Seq = 2, 5
				wantNoBuild(t, self, 8, slices.Insert(four(), k, newer))
				wantNoBuild(t, self, 8, slices.Insert(four(), k, rec(i+1, 0)))
			}
		}
	}
	for n := 1; n <= 24; n++ {
		l := row(func(n int) int { return n })
		wantBuild(t, n, 8, l, builtOf(n, 8, l))
		wantNoBuild(t, n, 8, append(l, rec(n, n)))
		wantNoBuild(t, n, 8, append(l, rec(25-n, 0)))
		wantNoBuild(t, n, 8, append(l, rec(25, 25)))
	}
	wantNoBuild(t, 1, 8, slices.Repeat(four(), 25000))
}

// P13.3

func TestFindAndNextOfTheExamples(t *testing.T) {
	wantFound(t, first(), 0, 3, entries("0.3 of 3 by 3")[0], true)
	wantFound(t, first(), 0, 1, entries("0.1 of 4 by 2 3")[0], true)
	wantFound(t, first(), 1, 1, entries("1.1 of 2 by 2")[0], true)
	wantFound(t, first(), 0, 2, api.Entry{}, false)
	wantNext(t, first(), 0, 3, 77, 3, true)
	wantNext(t, first(), 1, 1, 77, 2, true)
	wantNext(t, first(), 0, 2, 77, 0, false)
	// DOC.md: at the entropy 0 the neighbour 3 is chosen of 2 and 3.
	wantNext(t, first(), 0, 1, 0, 3, true)
}

// The neighbours were reckoned apart from this program.
func TestNextOfManyNeighbours(t *testing.T) {
	x := tab(24, 8, 0, "0.1 of 1 by 1 2 3, 0.2 of 1 by 1 2 3 4 5 6 7 8 9 10 11 12 13 14 15 16, 0.3 of 1 by 16 17 18 19 20 21 22 23, 0.4 of 1 by 1 24")
	wantNoTable(t, x)
	x.Entries = x.Entries[:3]
	for entropy, want := range ints("3 1 3 1 1 3 1 1 1 3") {
		wantNext(t, x, 0, 1, uint32(entropy), want, true)
	}
	wantNext(t, x, 0, 2, 0, 8, true)
	wantNext(t, x, 0, 2, 1, 13, true)
	wantNext(t, x, 0, 2, top, 11, true)
	wantNext(t, x, 0, 3, 0, 21, true)
	wantNext(t, x, 0, 3, 1, 22, true)
	wantNext(t, x, 0, 3, top, 23, true)
}

// wantPlaces asks for all places of all sets, and for some beside.
func wantPlaces(t *testing.T, x api.Table, entropy uint32) {
	t.Helper()
	for set := -1; set <= 129; set++ {
		for bit := -1; bit <= 258; bit++ {
			want, there := foundOf(x, set, bit)
			if y, ok := table.Find(x, set, bit); ok != there || !like(y, want) {
				t.Fatalf("Find(%v, %d, %d) = %v, %v", x, set, bit, y, ok)
			}
			next := 0
			if there {
				next = takenOf(want, entropy)
			}
			wantNext(t, x, set, bit, entropy, next, there)
		}
	}
}

func TestFindOfEachPlace(t *testing.T) {
	wantPlaces(t, first(), 0)
	wantPlaces(t, tab(24, 256, 1, "0.2 of 1 by 1 2, 0.256 of 2 by 1 2, 1.1 of 3 by 3, 127.256 of 23 by 20 21 22 23"), 9)
	var d dice = 7
	for range 3 {
		wantPlaces(t, d.table(), d.entropy())
	}
}

func TestFindOfMadeUpTables(t *testing.T) {
	var d dice = 17
	for range 2000 {
		x := d.table()
		if d.below(4) == 0 {
			x = d.spoilt(x)
		}
		entropy := d.entropy()
		for _, y := range x.Entries {
			for _, p := range [][2]int{{y.Set, y.Bit}, {y.Set, y.Bit + 1}, {y.Set + 1, y.Bit}, {y.Bit, y.Set}, {d.number(), y.Bit}, {y.Set, d.number()}} {
				want, there := foundOf(x, p[0], p[1])
				wantFound(t, x, p[0], p[1], want, there)
				next := 0
				if there {
					next = takenOf(want, entropy)
				}
				wantNext(t, x, p[0], p[1], entropy, next, there)
			}
		}
	}
}

func TestFindOfNoPlace(t *testing.T) {
	for _, x := range []api.Table{tab(1, 8, 0, ""), tab(1, 8, 1, ""), first(), {}} {
		for _, n := range append(noSets, 0, 1, 2) {
			for _, m := range append(noRouters, 5, 8, 9) {
				wantFound(t, x, n, m, api.Entry{}, false)
				wantNext(t, x, n, m, 3, 0, false)
			}
		}
	}
	// The own place is no entry's.
	wantFound(t, tab(1, 8, 1, "0.2 of 2 by 2"), 0, 1, api.Entry{}, false)
}

// The entry that is asked for is as it should be, and another one is not.
func TestNothingOfTablesThatMayNotBe(t *testing.T) {
	for _, text := range []string{"0.1 of 2 by 2, 0.2 of 1 by 2", "0.1 of 2 by 2, 0.2 of 2 by 1", "0.1 of 2 by 2, 0.9 of 2 by 2", "0.1 of 2 by 2, 128.1 of 2 by 2", "0.1 of 2 by 2, 0.2 of 3 by 3 2", "1.1 of 2 by 2, 0.1 of 2 by 2"} {
		wantNoTable(t, tab(1, 8, 0, text))
		wantFound(t, tab(1, 8, 0, text), 0, 1, api.Entry{}, false)
		wantNext(t, tab(1, 8, 0, text), 0, 1, 0, 0, false)
	}
	wantNoTable(t, tab(1, 8, 2, "0.1 of 2 by 2, 0.2 of 2 by 2"))
	wantNoTable(t, tab(1, 8, 1025, "0.1 of 2 by 2"))
	wantNoTable(t, tab(0, 8, 0, "0.1 of 2 by 2"))
	wantNoTable(t, tab(1, 24, 0, "0.1 of 2 by 2"))
}

// P13.4

func TestMaskAndNeighboursOfTheExamples(t *testing.T) {
	seen := map[int]int{}
	for entropy := range uint32(100) {
		taken, _ := pick.Choose(entropy, []int{2, 3})
		seen[taken]++
		two, three := api.Bits{}, api.Bits{5}
		if taken == 2 {
			two, three = api.Bits{1}, api.Bits{4}
		}
		wantMask(t, first(), 0, entropy, 2, two)
		wantMask(t, first(), 0, entropy, 3, three)
		wantNeighbours(t, first(), 0, entropy, map[int][]int{2: {2, 3}, 3: {3}}[taken])
	}
	if seen[2] < 20 || seen[3] < 20 {
		t.Errorf("the choices are %v", seen)
	}
	wantNeighbours(t, first(), 1, 0, []int{2})
	wantNeighbours(t, first(), 5, 0, nil)
	wantNoMask(t, first(), 0, 25)
}

// DOC.md's fourth example.
func TestMasksOfTheWholesExample(t *testing.T) {
	x := tab(1, 8, 1, "0.2 of 2 by 2, 0.3 of 4 by 2 3, 0.4 of 3 by 3")
	wantMask(t, x, 0, 0, 2, api.Bits{2})
	wantMask(t, x, 0, 0, 3, api.Bits{4 + 8})
	wantNeighbours(t, x, 0, 0, []int{2, 3})
	wantMask(t, x, 1, 0, 2, api.Bits{})
}

// Neighbours rise, whatever the order of the entries at which they are taken.
func TestNeighboursRise(t *testing.T) {
	x := tab(5, 8, 0, "0.1 of 1 by 24, 0.2 of 1 by 3, 0.3 of 1 by 24, 0.4 of 1 by 1, 0.5 of 1 by 3, 0.6 of 1 by 23, 1.1 of 1 by 9, 1.2 of 1 by 8")
	wantNeighbours(t, x, 0, 0, ints("1 3 23 24"))
	wantNeighbours(t, x, 1, 0, ints("8 9"))
	wantMask(t, x, 0, 0, 24, api.Bits{5})
	wantMask(t, x, 0, 0, 3, api.Bits{18})
	wantMask(t, x, 1, 0, 9, api.Bits{1})
}

func TestMaskOfEachBit(t *testing.T) {
	for _, width := range widths {
		for bit := 1; bit <= width; bit++ {
			for _, set := range []int{0, 127} {
				x := holding(at(set, bit))
				x.Width = width
				want, _ := bits.Of(bit)
				wantMask(t, x, set, 9, 2, want)
				wantMask(t, x, set, 9, 3, api.Bits{})
				wantMask(t, x, 127-set, 9, 2, api.Bits{})
				wantNeighbours(t, x, set, 9, []int{2})
				wantNeighbours(t, x, 127-set, 9, nil)
			}
		}
	}
}

// Each set, and each router, self among them, may be asked for.
func TestMaskOfEachSetAndRouter(t *testing.T) {
	for _, x := range []api.Table{first(), tab(7, 16, 0, ""), tab(24, 256, 3, "0.1 of 1 by 1 2 23, 3.200 of 4 by 1, 127.256 of 23 by 23")} {
		for set := range 128 {
			for to := 1; to <= 24; to++ {
				wantMask(t, x, set, 4, to, maskOf(x, set, 4, to))
			}
			wantMask(t, x, set, 4, x.Self, api.Bits{})
			wantNeighbours(t, x, set, 4, neighboursOf(x, set, 4))
		}
	}
}

func TestMaskAndNeighboursOfMadeUpTables(t *testing.T) {
	var d dice = 23
	for range 1500 {
		x := d.table()
		entropy := d.entropy()
		some := []int{0, 127, d.below(128)}
		for _, y := range x.Entries {
			some = append(some, y.Set)
		}
		for _, set := range some {
			wantNeighbours(t, x, set, entropy, neighboursOf(x, set, entropy))
			to := 1 + d.below(24)
			wantMask(t, x, set, entropy, to, maskOf(x, set, entropy, to))
		}
	}
}

func TestMaskAndNeighboursRefuse(t *testing.T) {
	for _, x := range []api.Table{first(), tab(1, 8, 0, ""), tab(24, 256, 5, "0.6 of 2 by 2")} {
		for _, n := range noSets {
			wantNoMask(t, x, n, 2)
			wantNoMask(t, x, n, 0)
			wantNoMask(t, x, n, 25)
			wantNoNeighbours(t, x, n)
		}
		for _, n := range noRouters {
			wantNoMask(t, x, 0, n)
			wantNoMask(t, x, 5, n)
			wantNoMask(t, x, 127, n)
		}
	}
	for _, x := range []api.Table{{}, tab(1, 8, 1025, ""), tab(1, 8, 1, "0.1 of 2 by 2"), tab(25, 8, 0, "0.1 of 2 by 2"), tab(1, 9, 0, "0.1 of 2 by 2")} {
		for _, set := range []int{0, 1, 127, -1, 128} {
			for _, to := range []int{1, 2, 24, 0, 25} {
				wantNoMask(t, x, set, to)
			}
			wantNoNeighbours(t, x, set)
		}
	}
}

// P13.5

// wantParted holds the calls against one another alone.
func wantParted(t *testing.T, x api.Table, set int, entropy uint32) {
	t.Helper()
	near, e := table.Neighbours(x, set, entropy)
	if e != api.OK || !slices.IsSorted(near) || len(slices.Compact(slices.Clone(near))) != len(near) {
		t.Fatalf("Neighbours(%v, %d, %d) = %v, %d", x, set, entropy, near, e)
	}
	var masks [25]api.Bits
	var all, want api.Bits
	for n := 1; n <= 24; n++ {
		if masks[n], e = table.Mask(x, set, entropy, n); e != api.OK {
			t.Fatalf("Mask(%v, %d, %d, %d): %d", x, set, entropy, n, e)
		}
		for m := 1; m < n; m++ {
			if bits.And(masks[m], masks[n]) != (api.Bits{}) {
				t.Fatalf("%v, %d, %d: the masks of %d and %d have bits in common", x, set, entropy, m, n)
			}
		}
		if (masks[n] != api.Bits{}) != slices.Contains(near, n) {
			t.Fatalf("%v, %d, %d: the mask of %d is %s, the neighbours are %v", x, set, entropy, n, bits.Text(masks[n]), near)
		}
		all = bits.Or(all, masks[n])
	}
	for _, y := range x.Entries {
		if y.Set == set {
			want, _ = bits.With(want, y.Bit)
			n, ok := table.Next(x, set, y.Bit, entropy)
			if !ok || !slices.Contains(y.Next, n) || !bits.Has(masks[n], y.Bit) {
				t.Fatalf("%v, %d, %d: the bit %d takes %d, %v", x, set, entropy, y.Bit, n, ok)
			}
		}
	}
	if all != want {
		t.Fatalf("%v, %d, %d: the masks are %s; the bits are %s", x, set, entropy, bits.Text(all), bits.Text(want))
	}
}

func TestMasksAreParted(t *testing.T) {
	for _, entropy := range someEntropies {
		for _, x := range []api.Table{first(), tab(1, 8, 0, ""), tab(1, 256, 1, "0.2 of 2 by 2 3 4 5 6 7 8 9 10 11 12 13 14 15 16 17, 0.256 of 3 by 3 4, 127.256 of 2 by 2")} {
			for _, set := range []int{0, 1, 2, 126, 127} {
				wantParted(t, x, set, entropy)
			}
		}
	}
	var d dice = 3
	for range 1500 {
		x := d.table()
		for _, y := range x.Entries {
			wantParted(t, x, y.Set, d.entropy())
		}
		wantParted(t, x, d.below(128), d.entropy())
	}
}

// One set, with an entry for each other router, and many neighbours for each.
func TestMasksOfFullTablesAreParted(t *testing.T) {
	var d dice = 29
	for range 200 {
		x := api.Table{Self: 1 + d.below(24), Width: 32}
		others := without(upTo(24), x.Self)
		for i, n := range append(others, others[0]) {
			next := d.some(others, 16)
			if len(next) == 0 {
				next = []int{n}
			}
			x.Entries = append(x.Entries, api.Entry{Set: 1, Bit: i + 3, Owner: n, Next: next})
		}
		for _, entropy := range someEntropies {
			wantParted(t, x, 1, entropy)
			wantParted(t, x, 0, entropy)
		}
	}
}

func TestMasksOfBuiltTablesAreParted(t *testing.T) {
	var d dice = 37
	for range 400 {
		x, e := table.Build(1+d.below(24), d.width(), d.records())
		if e != api.OK {
			t.Fatal(e)
		}
		for _, y := range x.Entries {
			wantParted(t, x, y.Set, d.entropy())
		}
	}
}

// W8: a neighbour that is not taken can go without a change.
func TestNeighboursThatAreNotTakenGo(t *testing.T) {
	var d dice = 41
	for range 300 {
		x := d.table()
		entropy := d.entropy()
		for i, y := range x.Entries {
			taken, _ := table.Next(x, y.Set, y.Bit, entropy)
			for _, n := range y.Next {
				if n != taken {
					fewer := cloned(x)
					fewer.Entries[i].Next = without(y.Next, n)
					wantNext(t, fewer, y.Set, y.Bit, entropy, taken, true)
				}
			}
		}
	}
}

// P13.6

func TestBuildHangsOnNoOrder(t *testing.T) {
	eachOrder(recs("1 (8): 2/1 3/1, 2 (9): 1/1 4/1, 3 (3): 1/1 4/1, 4 (1): 2/1 3/1 5/2, 5 (3): 4/1, 6 (1): 1/1"), func(l []api.Record) {
		wantBuild(t, 1, 8, l, tab(1, 8, 8, "0.1 of 4 by 2 3, 1.1 of 2 by 2"))
		wantBuild(t, 4, 8, l, tab(4, 8, 1, "0.8 of 1 by 2 3, 1.1 of 2 by 2"))
		wantBuild(t, 5, 8, l, tab(5, 8, 0, "0.1 of 4 by 4, 0.8 of 1 by 4, 1.1 of 2 by 4"))
		wantBuild(t, 6, 8, l, tab(6, 8, 1, ""))
	})
	var d dice = 43
	for range 300 {
		l := d.records()
		self, width := 1+d.below(24), d.width()
		want, _ := table.Build(self, width, l)
		for range 5 {
			wantBuild(t, self, width, shuffled(&d, l), want)
		}
	}
	for _, l := range [][]api.Record{wide(), row(func(n int) int { return 1024 - n })} {
		want, _ := table.Build(1, 8, l)
		for range 50 {
			wantBuild(t, 1, 8, shuffled(&d, l), want)
		}
	}
}

func TestBuildHangsOnNoneThatIsNotLive(t *testing.T) {
	// 5 to 8 claim what is claimed already; each is told by one side alone, or far off.
	more := recs("5 (1): 1/1 6/1, 6 (3): 5/1, 7 (9): 4/1, 8 (8):, 9 (20): 2/1 24/1")
	for set := range 1 << len(more) {
		l := four()
		l[0].Claim = 8
		for i, r := range more {
			if set>>i&1 == 1 {
				l = append(l, r)
			}
		}
		want := first()
		want.Own = 8
		wantBuild(t, 1, 8, l, want)
	}
	var d dice = 47
	gone := 0
	for range 500 {
		l := d.records()
		width := d.width()
		for self := 1; self <= 24; self++ {
			want, _ := table.Build(self, width, l)
			live := liveOf(self, l)
			gone += len(l) - len(live)
			wantBuild(t, self, width, live, want)
		}
	}
	if gone < 5000 {
		t.Errorf("%d are not live: these are no cases of this", gone)
	}
}

// W6: an id that two live routers claim is in no table of their part; once they are parted, each has it again.
func TestAnIdThatTwoClaimIsInNoTable(t *testing.T) {
	for _, width := range widths {
		for a := 1; a <= 24; a++ {
			for _, b := range []int{a%24 + 1, 25 - a, 24} {
				if a == b {
					continue
				}
				l := row(func(n int) int { return 10 * n })
				l[a-1].Claim, l[b-1].Claim = 777, 777
				for self := 1; self <= 24; self++ {
					x, _ := table.Build(self, width, l)
					set, bit, _ := sets.Place(777, width)
					if _, there := table.Find(x, set, bit); there || x.Own == 777 {
						t.Fatalf("%d and %d claim it: %v", a, b, x)
					}
					if (x.Own == 0) != (self == a || self == b) || self == a && len(x.Entries) != 22 {
						t.Fatalf("%d and %d claim it: %v", a, b, x)
					}
				}
			}
		}
	}
	together := recs("1 (2): 3/1, 2 (2): 3/1, 3 (3): 1/1 2/1")
	wantBuild(t, 1, 8, together, tab(1, 8, 0, "0.3 of 3 by 3"))
	wantBuild(t, 2, 8, together, tab(2, 8, 0, "0.3 of 3 by 3"))
	wantBuild(t, 3, 8, together, tab(3, 8, 3, ""))
	apart := recs("1 (2): 3/1, 2 (2):, 3 (3): 1/1 2/1")
	wantBuild(t, 1, 8, apart, tab(1, 8, 2, "0.3 of 3 by 3"))
	wantBuild(t, 2, 8, apart, tab(2, 8, 2, ""))
	wantBuild(t, 3, 8, apart, tab(3, 8, 3, "0.2 of 1 by 1"))
}

// wantLeast holds each entry against what paths tells of each neighbour.
func wantLeast(t *testing.T, x api.Table, l []api.Record) {
	t.Helper()
	wantCheck(t, x, api.OK)
	g, _ := graph.Both(l)
	ways, _ := paths.From(g, x.Self)
	near, _ := graph.Near(g, x.Self)
	for _, y := range x.Entries {
		r, live := paths.Of(ways, y.Owner)
		if !live || !slices.Equal(r.Next, y.Next) {
			t.Fatalf("%v of %v: %v, %v", y, l, r, live)
		}
		for _, a := range near {
			on, _ := paths.From(g, a.To)
			rest, ok := paths.Of(on, y.Owner)
			if (ok && a.Cost+rest.Cost == r.Cost) != slices.Contains(y.Next, a.To) {
				t.Fatalf("%v of %v: by %d it costs %d and %d, at least %d", y, l, a.To, a.Cost, rest.Cost, r.Cost)
			}
		}
	}
}

func TestEntriesAreOnLeastCostWays(t *testing.T) {
	var d dice = 53
	for range 400 {
		l := d.records()
		x, _ := table.Build(1+d.below(24), d.width(), l)
		wantLeast(t, x, l)
	}
	x, _ := table.Build(1, 8, wide())
	wantLeast(t, x, wide())
}

// A packet that goes from table to table comes to the Owner, whose own bit it is, and pays what the least-cost way costs.
func TestGoingFromTableToTableCostsTheLeast(t *testing.T) {
	var d dice = 59
	hops := 0
	for range 300 {
		l := d.records()
		width, entropy := d.width(), d.entropy()
		var tables [25]api.Table
		for n := 1; n <= 24; n++ {
			tables[n], _ = table.Build(n, width, l)
		}
		edges := told(l)
		c := least(edges)
		for self := 1; self <= 24; self++ {
			for _, y := range tables[self].Entries {
				at, paid := self, 0
				for at != y.Owner {
					next, ok := table.Next(tables[at], y.Set, y.Bit, entropy)
					if !ok || paid > endless {
						t.Fatalf("from %d to %v: %d knows no way on", self, y, at)
					}
					at, paid, hops = next, paid+edges[at][next], hops+1
				}
				set, bit, _ := sets.Place(tables[at].Own, width)
				if paid != c[self][y.Owner] || set != y.Set || bit != y.Bit {
					t.Fatalf("from %d to %v: it costs %d, and ends at the place %d.%d", self, y, paid, set, bit)
				}
			}
		}
	}
	if hops < 5000 {
		t.Errorf("%d hops: these are no cases of this", hops)
	}
}

// R1 and R2: at all numbers each call answers, and zero values beside an error or a false.
func TestAnyNumbers(t *testing.T) {
	numbers := append([]int{-1, 0, 1, 2, 8, 24, 25, 127, 128, 256}, far...)
	for _, a := range numbers {
		for _, b := range numbers {
			if x, e := table.Build(a, b, four()); e != api.OK && !reflect.DeepEqual(x, api.Table{}) {
				t.Fatalf("Build(%d, %d) = %v, %d", a, b, x, e)
			}
			if y, ok := table.Find(first(), a, b); !ok && !isZero(y) {
				t.Fatalf("Find(%d, %d) = %v", a, b, y)
			}
			if n, ok := table.Next(first(), a, b, top); !ok && n != 0 {
				t.Fatalf("Next(%d, %d) = %d", a, b, n)
			}
			if m, e := table.Mask(first(), a, top, b); e != api.OK && m != (api.Bits{}) {
				t.Fatalf("Mask(%d, %d) = %v, %d", a, b, m, e)
			}
			for _, c := range numbers {
				x := api.Table{Self: a, Width: b, Own: c, Entries: []api.Entry{{Set: a, Bit: b, Owner: c, Next: []int{c}}}}
				want := api.OK
				if !mayBe(x) {
					want = api.ErrArg
				}
				wantCheck(t, x, want)
			}
		}
	}
}

// R5: what is handed in stays as it was, the room behind its ends too.

const behind = -77

func roomyInts(l []int) []int { return append(slices.Clone(l), behind, behind)[:len(l)] }

// roomy has room behind each end, filled.
func roomy(t api.Table) api.Table {
	more := api.Entry{Set: behind, Bit: behind, Owner: behind, Next: []int{behind}}
	t.Entries = append(slices.Clone(t.Entries), more, more)[:len(t.Entries)]
	for i := range t.Entries {
		t.Entries[i].Next = roomyInts(t.Entries[i].Next)
	}
	return t
}

func roomyRecords(l []api.Record) []api.Record {
	more := api.Record{Origin: behind, Adjs: []api.Adj{{To: behind}}}
	l = append(slices.Clone(l), more, more)[:len(l)]
	for i := range l {
		a := api.Adj{To: behind, Cost: behind}
		l[i].Adjs = append(slices.Clone(l[i].Adjs), a, a)[:len(l[i].Adjs)]
	}
	return l
}

// whole is all of a roomy table, as a text.
func whole(t api.Table) string {
	t.Entries = slices.Clone(t.Entries[:len(t.Entries)+2])
	for i := range t.Entries {
		if n := len(t.Entries[i].Next); cap(t.Entries[i].Next) >= n+2 {
			t.Entries[i].Next = t.Entries[i].Next[:n+2]
		}
	}
	return fmt.Sprint(t)
}

func wholeRecords(l []api.Record) string {
	l = slices.Clone(l[:len(l)+2])
	for i := range l {
		if n := len(l[i].Adjs); cap(l[i].Adjs) >= n+2 {
			l[i].Adjs = l[i].Adjs[:n+2]
		}
	}
	return fmt.Sprint(l)
}

func scrawlInts(l []int) {
	l = l[:cap(l)]
	for i := range l {
		l[i] = -7
	}
}

// scrawl writes over all that an answer has, and over the room behind its ends.
func scrawl(t api.Table) {
	l := t.Entries[:cap(t.Entries)]
	for i := range l {
		scrawlInts(l[i].Next)
		l[i] = api.Entry{Set: -7, Bit: -7, Owner: -7}
	}
}

func TestWhatIsHandedInStays(t *testing.T) {
	var d dice = 61
	for range 300 {
		given := d.table()
		if d.below(2) == 0 {
			given = d.spoilt(given)
		}
		x := roomy(given)
		was := whole(x)
		table.Check(x)
		table.Same(x, roomy(given))
		table.Same(x, first())
		for _, y := range append(given.Entries, at(0, 1)) {
			table.Find(x, y.Set, y.Bit)
			table.Next(x, y.Set, y.Bit, d.entropy())
			table.Mask(x, y.Set, d.entropy(), 1+d.below(24))
			table.Neighbours(x, y.Set, d.entropy())
		}
		if whole(x) != was {
			t.Fatalf("%s was changed to %s", was, whole(x))
		}
	}
	for round := range 300 {
		l := roomyRecords(d.records())
		if round%3 == 0 && len(l) > 0 {
			l[d.below(len(l))].Claim = -1
		}
		was := wholeRecords(l)
		for self := range 26 {
			table.Build(self, 8, l)
		}
		if wholeRecords(l) != was {
			t.Fatalf("%s was changed to %s", was, wholeRecords(l))
		}
	}
}

func TestWhatBuildAnswersIsNew(t *testing.T) {
	var d dice = 67
	for _, given := range [][]api.Record{four(), wide(), d.records(), d.records(), d.records(), row(func(n int) int { return n })} {
		l := roomyRecords(given)
		was := wholeRecords(l)
		for self := 1; self <= 24; self++ {
			want := builtOf(self, 16, given)
			one, _ := table.Build(self, 16, l)
			other, _ := table.Build(self, 16, l)
			// No list of an answer shares with another one of it.
			for i := range one.Entries {
				scrawlInts(one.Entries[i].Next)
				for k := i + 1; k < len(one.Entries); k++ {
					if !like(one.Entries[k], want.Entries[k]) {
						t.Fatalf("the entries %d and %d of %v share", i, k, want)
					}
				}
			}
			scrawl(one)
			if !alike(other, want) || wholeRecords(l) != was {
				t.Fatalf("Build(%d, 16, %v) shares what it answers", self, given)
			}
		}
		// What was handed in is not kept.
		x, _ := table.Build(1, 16, l)
		for i := range l {
			for k := range l[i].Adjs {
				l[i].Adjs[k] = api.Adj{To: -7, Cost: -7}
			}
			l[i] = api.Record{Origin: -7, Claim: -7}
		}
		if !alike(x, builtOf(1, 16, given)) {
			t.Fatalf("%v was kept", given)
		}
	}
}

func TestWhatIsAnsweredOfATableIsNew(t *testing.T) {
	var d dice = 71
	for range 200 {
		given := d.table()
		x := roomy(given)
		was := whole(x)
		for _, y := range given.Entries {
			found, _ := table.Find(x, y.Set, y.Bit)
			again, _ := table.Find(x, y.Set, y.Bit)
			scrawlInts(found.Next)
			near, _ := table.Neighbours(x, y.Set, 5)
			scrawlInts(near)
			if !like(again, y) || whole(x) != was {
				t.Fatalf("%v shares what is answered of it", given)
			}
			wantNeighbours(t, x, y.Set, 5, neighboursOf(given, y.Set, 5))
		}
	}
	// What is answered stays, whatever becomes of the table.
	x := first()
	found, _ := table.Find(x, 0, 1)
	near, _ := table.Neighbours(x, 0, 0)
	scrawl(x)
	if !like(found, first().Entries[0]) || !slices.Equal(near, []int{3}) {
		t.Errorf("%v, %v", found, near)
	}
}

// R6: what was asked before has no part in it.
func TestWhatWasAskedBeforeHasNoPart(t *testing.T) {
	var d dice = 73
	for range 100 {
		table.Build(1+d.below(24), d.width(), d.records())
		table.Build(0, 8, four())
		table.Build(1, 8, badRecords())
		x := d.spoilt(d.table())
		table.Check(x)
		table.Find(x, 0, 1)
		table.Mask(x, 0, 3, 2)
		wantBuild(t, 1, 8, four(), first())
		wantMask(t, first(), 0, 0, 3, api.Bits{5})
		wantFound(t, first(), 0, 3, entries("0.3 of 3 by 3")[0], true)
	}
}

// Made-up bytes.

// reader hands out bytes, and 0 behind the last one.
type reader []byte

func (r *reader) next() int {
	if len(*r) == 0 {
		return 0
	}
	n := int((*r)[0])
	*r = (*r)[1:]
	return n
}

// records may be for the most part.
func (r *reader) records() []api.Record {
	var l []api.Record
	for len(*r) > 0 && len(l) < 30 {
		x := api.Record{Origin: r.next()%26 - r.next()/255, Epoch: 1, Seq: 1, Claim: r.next() % 20}
		if x.Claim > 18 {
			x.Claim = r.next()*4 + 10
		}
		to := 0
		for range r.next() % 18 {
			to += r.next() % 6
			x.Adjs = append(x.Adjs, api.Adj{To: to, Cost: r.next() % 4})
		}
		l = append(l, x)
	}
	return l
}

func (r *reader) table() api.Table {
	x := api.Table{Self: r.next() % 26, Width: 1 << (r.next() % 10), Own: r.next() * 5}
	set, bit := 0, 0
	for len(*r) > 0 && len(x.Entries) < 30 {
		set, bit = set+r.next()%3, (bit+r.next())%40
		y := api.Entry{Set: set, Bit: bit, Owner: r.next() % 26}
		to := 0
		for range r.next() % 18 {
			to += r.next() % 4
			y.Next = append(y.Next, to)
		}
		x.Entries = append(x.Entries, y)
	}
	return x
}

func FuzzBuild(f *testing.F) {
	f.Add(1, 8, []byte{1, 0, 2, 2, 2, 1, 1, 1, 2, 0, 9, 1, 1, 1, 3, 0, 3, 1, 1, 1})
	f.Add(2, 256, []byte{1, 0, 2, 1, 2, 1, 2, 0, 2, 1, 1, 1})
	f.Add(0, 24, []byte{})
	f.Add(24, 64, []byte("records are flooded, claims to one id by two are told and left out"))
	f.Fuzz(func(t *testing.T, self, width int, raw []byte) {
		r := reader(raw)
		l := r.records()
		if !within(self, 1, 24) || !slices.Contains(widths, width) || !recordsMayBe(l) {
			wantNoBuild(t, self, width, l)
			self, width = 1+(self%24+24)%24, widths[(width%6+6)%6]
			var good []api.Record
			for _, x := range l {
				if recordsMayBe(append(slices.Clone(good), x)) {
					good = append(good, x)
				}
			}
			l = good
		}
		was := clonedRecords(l)
		wantBuild(t, self, width, l, builtOf(self, width, l))
		x, _ := table.Build(self, width, l)
		wantLeast(t, x, l)
		for _, y := range x.Entries {
			wantParted(t, x, y.Set, uint32(len(raw)))
		}
		if !reflect.DeepEqual(was, l) {
			t.Fatalf("%v was changed to %v", was, l)
		}
	})
}

func FuzzTable(f *testing.F) {
	f.Add(uint32(0), 0, 1, []byte{1, 3, 0, 0, 1, 4, 2, 2, 1, 0, 2, 3, 1, 3})
	f.Add(uint32(top), 127, 8, []byte{24, 8, 1})
	f.Add(uint32(5), -1, math.MaxInt, []byte{})
	f.Add(uint32(9), math.MinInt, 0, []byte("entries are rising by Set, then by Bit, each place once"))
	f.Fuzz(func(t *testing.T, entropy uint32, set, n int, raw []byte) {
		r := reader(raw)
		x := r.table()
		want, there := foundOf(x, set, n)
		wantFound(t, x, set, n, want, there)
		wantSame(t, x, cloned(x), true)
		if !mayBe(x) {
			wantNoTable(t, x)
			return
		}
		wantCheck(t, x, api.OK)
		for _, y := range x.Entries {
			wantFound(t, x, y.Set, y.Bit, y, true)
			wantNext(t, x, y.Set, y.Bit, entropy, takenOf(y, entropy), true)
			wantParted(t, x, y.Set, entropy)
		}
		if !within(set, 0, 127) {
			wantNoNeighbours(t, x, set)
			wantNoMask(t, x, set, 1)
			return
		}
		wantNeighbours(t, x, set, entropy, neighboursOf(x, set, entropy))
		if !within(n, 1, 24) {
			wantNoMask(t, x, set, n)
			return
		}
		wantMask(t, x, set, entropy, n, maskOf(x, set, entropy, n))
	})
}
