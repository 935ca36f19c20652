package step_test

import (
	"fmt"
	"maps"
	"math"
	"reflect"
	"slices"
	"strings"
	"testing"

	"dandelion/api"
	"dandelion/bits"
	"dandelion/pick"
	"dandelion/step"
	"dandelion/table"
)

const top = math.MaxUint32

// far are numbers far from all routers, ids, sets and widths, such as are like one in their lowest bits among them.
var far = []int{
	math.MinInt, math.MinInt + 1, math.MinInt + 8, math.MinInt32, math.MaxInt32, math.MaxInt - 1, math.MaxInt,
	1<<16 + 1, 1<<16 + 8, 1 << 32, 1<<32 + 1, 1<<32 + 8, 1<<32 + 24, 1 - 1<<16, 8 - 1<<16, -1 << 32, 1 - 1<<32, 8 - 1<<32, 1 << 62, 1<<62 + 8,
}

var (
	widths        = []int{8, 16, 32, 64, 128, 256}
	noRouters     = append([]int{0, -1, -2, -24, 25, 26, 32, 255, 257}, far...)
	noIds         = append([]int{-1, -2, -8, -1024, 1025, 1026, 2048}, far...)
	noSets        = append([]int{-1, -2, -127, -128, 128, 129, 255, 256, 1024}, far...)
	noWidths      = append([]int{-256, -8, -1, 0, 1, 2, 4, 7, 9, 12, 15, 17, 24, 40, 48, 96, 192, 255, 257, 264, 512, 1024}, far...)
	noHops        = append([]int{-1, -2, -15, -16, 16, 17, 24, 255, 256}, far...)
	noGroups      = append([]int{-1, -2, -8, 8, 9, 16, 255, 256}, far...)
	someEntropies = []uint32{0, 1, 2, 3, 4, 5, 77, 65535, 1 << 31, top - 1, top, 0x9e3779b1}
)

var none api.Bits

// of are bits, laid without the program's own hand.
func of(l ...int) api.Bits {
	var b api.Bits
	for _, n := range l {
		b[(n-1)/64] |= 1 << ((n - 1) % 64)
	}
	return b
}

func upTo(n int) []int {
	var l []int
	for i := 1; i <= n; i++ {
		l = append(l, i)
	}
	return l
}

func without(l []int, n int) []int {
	return slices.DeleteFunc(slices.Clone(l), func(m int) bool { return m == n })
}

func ints(text string) []int {
	var l []int
	for _, s := range strings.Fields(text) {
		var n int
		fmt.Sscan(s, &n)
		l = append(l, n)
	}
	return l
}

// entries reads each one as in the document: "0.1 of 4 by 2 3, 1.1 of 2 by 2".
func entries(text string) []api.Entry {
	var l []api.Entry
	for _, s := range strings.Split(text, ",") {
		if head, rest, ok := strings.Cut(s, " by"); ok {
			var x api.Entry
			fmt.Sscanf(strings.TrimSpace(head), "%d.%d of %d", &x.Set, &x.Bit, &x.Owner)
			x.Next = ints(rest)
			l = append(l, x)
		}
	}
	return l
}

func tab(self, width, own int, text string) api.Table {
	return api.Table{Self: self, Width: width, Own: own, Entries: entries(text)}
}

// first and head are the table and the header of the document's examples.
func first() api.Table {
	return tab(1, 8, 1, "0.2 of 2 by 2, 0.3 of 3 by 2 3, 0.4 of 4 by 3")
}

func head() api.Header {
	return api.Header{Width: 8, Hops: 7, Source: 1, Group: 3, Id: 9, Bits: of(1, 2, 3, 4, 5)}
}

func two() api.Table { return tab(2, 8, 2, "") }

func three() api.Table { return tab(3, 8, 3, "0.4 of 4 by 2") }

// turned is h with something done to it.
func turned(h api.Header, turn func(h *api.Header)) api.Header {
	turn(&h)
	return h
}

func withHops(h api.Header, n int) api.Header { h.Hops = n; return h }

func withBits(h api.Header, l ...int) api.Header { h.Bits = of(l...); return h }

// onward is the copy of h for a neighbour, with these bits.
func onward(to int, h api.Header, l ...int) api.Copy {
	h.Hops--
	h.Bits = of(l...)
	return api.Copy{To: to, Header: h}
}

func cloned(t api.Table) api.Table {
	t.Entries = slices.Clone(t.Entries)
	for i := range t.Entries {
		t.Entries[i].Next = slices.Clone(t.Entries[i].Next)
	}
	return t
}

func clonedDone(d api.Done) api.Done {
	d.Copies = slices.Clone(d.Copies)
	return d
}

// Dice.

// dice is a row of numbers that is the same each time.
type dice uint64

func (d *dice) below(n int) int {
	*d = *d*6364136223846793005 + 1442695040888963407
	return int(uint64(*d) >> 33 % uint64(n))
}

func (d *dice) entropy() uint32 {
	if d.below(4) == 0 {
		return someEntropies[d.below(len(someEntropies))]
	}
	return uint32(d.below(1<<16))<<16 | uint32(d.below(1<<16))
}

func (d *dice) width() int { return widths[d.below(len(widths))] }

// some are at least one and at most so many of l, in its order.
func (d *dice) some(l []int, most int) []int {
	l = slices.Clone(l)
	for keep := 1 + d.below(most); len(l) > keep; {
		at := d.below(len(l))
		l = slices.Delete(l, at, at+1)
	}
	return l
}

// table is one of that router that may be; its entries are of few sets, so that each of these has many.
func (d *dice) table(self, width, most int) api.Table {
	t := api.Table{Self: self, Width: width}
	room := min(1+d.below(3), 1024/width) * width
	if d.below(4) > 0 {
		t.Own = 1 + d.below(room)
	}
	others := without(upTo(most), self)
	places := map[int]bool{}
	for range d.below(25) {
		places[d.below(room)] = true
	}
	delete(places, t.Own-1)
	for _, p := range slices.Sorted(maps.Keys(places)) {
		t.Entries = append(t.Entries, api.Entry{Set: p / width, Bit: p%width + 1, Owner: others[d.below(len(others))], Next: d.some(others, min(16, len(others)))})
	}
	return t
}

// tables are of unlike routers and one width, in any order; few bits are owned, most by several, and most of the others are sent on: anywhere, round in rings and to routers without a table too.
func (d *dice) tables(width int) []api.Table {
	most, few := 2+d.below(23), 2+d.below(7)
	var l []api.Table
	for self := 1; self <= most; self++ {
		if self > 1 && d.below(12) == 0 {
			continue
		}
		x := api.Table{Self: self, Width: width, Own: d.below(2 * few)}
		if x.Own > few {
			x.Own += width - few
		}
		others := without(upTo(most), self)
		for set := range 2 {
			for bit := 1; bit <= few; bit++ {
				if bit != ownOf(x, set) && d.below(12) > 0 {
					x.Entries = append(x.Entries, api.Entry{Set: set, Bit: bit, Owner: others[0], Next: d.some(others, min(3, len(others)))})
				}
			}
		}
		l = append(l, x)
	}
	return shuffled(d, l)
}

func (d *dice) bits(t api.Table, set int) api.Bits {
	var b api.Bits
	switch d.below(6) {
	case 0:
		b = of(upTo(t.Width)...)
	case 1:
		b = of(1 + d.below(t.Width))
	case 2, 3:
		for range d.below(t.Width + 1) {
			b = bits.Or(b, of(1+d.below(t.Width)))
		}
	case 4:
		for _, x := range t.Entries {
			if x.Set == set {
				b = bits.Or(b, of(x.Bit))
			}
		}
	}
	if own := ownOf(t, set); own > 0 && d.below(2) == 0 {
		b = bits.Or(b, of(own))
	}
	return b
}

// header is one that may be; its set is one of the table's for the most part.
func (d *dice) header(t api.Table) api.Header {
	h := api.Header{Width: t.Width, Entropy: d.entropy(), Hops: []int{0, 1, 15, d.below(16)}[d.below(4)], Source: 1 + d.below(24), Group: d.below(8), Id: d.entropy()}
	h.Set = []int{0, 0, 0, 1, 2, d.below(128)}[d.below(6)]
	h.Bits = d.bits(t, h.Set)
	return h
}

// distant is a header of the router of that table, with bits that most others of tables have, and for the most part with hops for all of them.
func (d *dice) distant(t api.Table) api.Header {
	h := d.header(t)
	h.Source = t.Self
	if d.below(4) > 0 {
		h.Set, h.Hops, h.Bits = d.below(2), []int{15, d.below(16)}[d.below(2)], of(d.some(upTo(8), 8)...)
	}
	return h
}

// number is near an edge.
func (d *dice) number() int {
	edges := []int{-1, 0, 1, 2, 7, 8, 9, 15, 16, 17, 23, 24, 25, 127, 128, 129, 255, 256, 257, 1023, 1024, 1025, math.MinInt, math.MaxInt}
	return edges[d.below(len(edges))]
}

// spoilt has one thing of t changed: it may be a table still.
func (d *dice) spoilt(t api.Table) api.Table {
	t = cloned(t)
	if len(t.Entries) == 0 || d.below(4) == 0 {
		*[]*int{&t.Self, &t.Width, &t.Own}[d.below(3)] = d.number()
		return t
	}
	i, k := d.below(len(t.Entries)), d.below(len(t.Entries))
	x := &t.Entries[i]
	switch d.below(8) {
	case 0:
		x.Set = d.number()
	case 1:
		x.Bit = d.number()
	case 2:
		x.Owner = []int{d.number(), t.Self}[d.below(2)]
	case 3:
		x.Next[d.below(len(x.Next))] = []int{d.number(), t.Self}[d.below(2)]
	case 4:
		x.Next = x.Next[1:]
	case 5:
		t.Entries[i], t.Entries[k] = t.Entries[k], t.Entries[i]
	case 6:
		t.Entries = slices.Insert(t.Entries, i, t.Entries[k])
	case 7:
		t.Own = x.Set*t.Width + x.Bit
	}
	return t
}

// spoiltHeader has one thing of h changed: it may be a header still.
func (d *dice) spoiltHeader(h api.Header) api.Header {
	if d.below(6) == 0 {
		h.Bits = bits.Or(h.Bits, of(1+d.below(256)))
		return h
	}
	*[]*int{&h.Width, &h.Set, &h.Hops, &h.Source, &h.Group}[d.below(5)] = d.number()
	return h
}

// spoiltDone has one thing of what was done changed: it may be whole still.
func (d *dice) spoiltDone(x api.Done) api.Done {
	x = clonedDone(x)
	bit := of(1 + d.below(256))
	if len(x.Copies) == 0 || d.below(3) == 0 {
		switch d.below(6) {
		case 0:
			x.Local = !x.Local
		case 1:
			x.Lost = bits.Or(x.Lost, bit)
		case 2:
			x.Lost = bits.AndNot(x.Lost, of(max(1, bits.Lowest(x.Lost))))
		case 3:
			x.Expired = bits.Or(x.Expired, bit)
		case 4:
			x.Lost, x.Expired = x.Expired, x.Lost
		case 5:
			x.Copies = append(x.Copies, api.Copy{To: 1 + d.below(24), Header: api.Header{Width: 8, Bits: bit}})
		}
		return x
	}
	i, k := d.below(len(x.Copies)), d.below(len(x.Copies))
	c := &x.Copies[i]
	switch d.below(9) {
	case 0:
		c.To = x.Copies[k].To
	case 1:
		c.To = d.number()
	case 2:
		*[]*int{&c.Header.Width, &c.Header.Set, &c.Header.Hops, &c.Header.Source, &c.Header.Group}[d.below(5)] = d.number()
	case 3:
		*[]*uint32{&c.Header.Entropy, &c.Header.Id}[d.below(2)]++
	case 4:
		c.Header.Bits = bits.Or(c.Header.Bits, bit)
	case 5:
		c.Header.Bits, x.Copies[k].Header.Bits = x.Copies[k].Header.Bits, c.Header.Bits
	case 6:
		x.Lost = bits.Or(x.Lost, c.Header.Bits)
		x.Copies = slices.Delete(x.Copies, i, i+1)
	case 7:
		x.Copies = slices.Insert(x.Copies, i, x.Copies[k])
	case 8:
		x.Copies[i], x.Copies[k] = x.Copies[k], x.Copies[i]
	}
	return x
}

func shuffled[T any](d *dice, l []T) []T {
	l = slices.Clone(l)
	for i := len(l) - 1; i > 0; i-- {
		k := d.below(i + 1)
		l[i], l[k] = l[k], l[i]
	}
	return l
}

// What is asked for, in the document's words, bit by bit.

func within(n, least, greatest int) bool { return least <= n && n <= greatest }

func has(b api.Bits, n int) bool { return b[(n-1)/64]>>((n-1)%64)&1 == 1 }

func listed(b api.Bits) []int {
	var l []int
	for n := 1; n <= 256; n++ {
		if has(b, n) {
			l = append(l, n)
		}
	}
	return l
}

func mayBe(t api.Table) bool {
	if !within(t.Self, 1, 24) || !slices.Contains(widths, t.Width) || !within(t.Own, 0, 1024) || len(t.Entries) > 24 {
		return false
	}
	for i, x := range t.Entries {
		if !within(x.Set, 0, 127) || !within(x.Bit, 1, t.Width) || !within(x.Owner, 1, 24) || x.Owner == t.Self || !within(len(x.Next), 1, 16) {
			return false
		}
		for k, n := range x.Next {
			if !within(n, 1, 24) || n == t.Self || k > 0 && x.Next[k-1] >= n {
				return false
			}
		}
		for _, y := range t.Entries[:i] {
			if y.Set*1000+y.Bit >= x.Set*1000+x.Bit {
				return false
			}
		}
		if x.Bit == ownOf(t, x.Set) {
			return false
		}
	}
	return true
}

func headerMayBe(h api.Header) bool {
	if !slices.Contains(widths, h.Width) || !within(h.Set, 0, 127) || !within(h.Hops, 0, 15) || !within(h.Source, 1, 24) || !within(h.Group, 0, 7) {
		return false
	}
	for n := h.Width + 1; n <= 256; n++ {
		if has(h.Bits, n) {
			return false
		}
	}
	return true
}

func fit(t api.Table, h api.Header) bool { return mayBe(t) && headerMayBe(h) && t.Width == h.Width }

// ownOf is the own bit at a set; 0, if there is none there.
func ownOf(t api.Table, set int) int {
	for bit := 1; bit <= t.Width; bit++ {
		if set*t.Width+bit == t.Own {
			return bit
		}
	}
	return 0
}

// takenOf is the neighbour that a packet takes for that bit; 0, if there is no entry.
func takenOf(t api.Table, set, bit int, entropy uint32) int {
	for _, x := range t.Entries {
		if x.Set != set || x.Bit != bit {
			continue
		}
		taken := x.Next[0]
		for _, n := range x.Next {
			if pick.Mix(entropy, n) > pick.Mix(entropy, taken) {
				taken = n
			}
		}
		return taken
	}
	return 0
}

// doneOf goes by the bits alone: each one goes its way, and joins the copy that was made for its neighbour.
func doneOf(t api.Table, h api.Header) api.Done {
	var d api.Done
	at := map[int]int{}
	for _, n := range listed(h.Bits) {
		to := takenOf(t, h.Set, n, h.Entropy)
		switch {
		case n == ownOf(t, h.Set):
			d.Local = true
		case h.Hops == 0:
			d.Expired = bits.Or(d.Expired, of(n))
		case to == 0:
			d.Lost = bits.Or(d.Lost, of(n))
		default:
			if _, ok := at[to]; !ok {
				at[to] = len(d.Copies)
				d.Copies = append(d.Copies, onward(to, h))
			}
			c := &d.Copies[at[to]].Header
			c.Bits = bits.Or(c.Bits, of(n))
		}
	}
	return d
}

func wholeOf(t api.Table, h api.Header, d api.Done) bool {
	own := ownOf(t, h.Set)
	if d.Local && own == 0 || h.Hops == 0 && len(d.Copies) > 0 || h.Hops > 0 && d.Expired != none {
		return false
	}
	for i, c := range d.Copies {
		x := c.Header
		if x.Width != h.Width || x.Set != h.Set || x.Entropy != h.Entropy || x.Hops != h.Hops-1 || x.Source != h.Source || x.Group != h.Group || x.Id != h.Id || x.Bits == none {
			return false
		}
		for _, o := range d.Copies[:i] {
			if o.To == c.To {
				return false
			}
		}
	}
	for n := 1; n <= 256; n++ {
		times := 0
		if d.Local && n == own {
			times++
		}
		for _, b := range []api.Bits{d.Lost, d.Expired} {
			if has(b, n) {
				times++
			}
		}
		for _, c := range d.Copies {
			if has(c.Header.Bits, n) {
				times++
			}
		}
		if times > 1 || times == 1 != has(h.Bits, n) {
			return false
		}
	}
	return true
}

func tableOf(l []api.Table, self int) (api.Table, bool) {
	for _, t := range l {
		if t.Self == self {
			return t, true
		}
	}
	return api.Table{}, false
}

// walk goes with one bit from table to table: it tells who delivers it, 0 if nobody does, and how many hops it went.
func walk(l []api.Table, h api.Header, bit int) (router, hops int) {
	at := h.Source
	for hops := 0; ; hops++ {
		t, ok := tableOf(l, at)
		if !ok {
			return 0, hops
		}
		if bit == ownOf(t, h.Set) {
			return at, hops
		}
		at = takenOf(t, h.Set, bit, h.Entropy)
		if hops == h.Hops || at == 0 {
			return 0, hops
		}
	}
}

func farOf(l []api.Table, h api.Header) []int {
	var named []int
	for _, bit := range listed(h.Bits) {
		if router, _ := walk(l, h, bit); router > 0 {
			named = append(named, router)
		}
	}
	slices.Sort(named)
	return named
}

func farMayBe(l []api.Table, h api.Header) bool {
	source := false
	for i, t := range l {
		if !fit(t, h) || slices.ContainsFunc(l[:i], func(o api.Table) bool { return o.Self == t.Self }) {
			return false
		}
		source = source || t.Self == h.Source
	}
	return source && headerMayBe(h)
}

// sameDone holds what was done against each other; an empty list is like none.
func sameDone(a, b api.Done) bool {
	return a.Local == b.Local && a.Lost == b.Lost && a.Expired == b.Expired && slices.Equal(a.Copies, b.Copies)
}

// Wanted.

func wantDo(t *testing.T, x api.Table, h api.Header, want api.Done) {
	t.Helper()
	if d, e := step.Do(x, h); e != api.OK || !sameDone(d, want) {
		t.Fatalf("Do(%v, %v)\n= %v, %d; it should be\n%v", x, h, d, e, want)
	}
	wantCopies(t, x, h, want.Copies)
}

func gathered(t *testing.T, x api.Table, h api.Header) []api.Copy {
	t.Helper()
	var l []api.Copy
	for i, c := range step.Copies(x, h) {
		if i != len(l) {
			t.Fatalf("Copies(%v, %v) tells the place %d of the copy %d", x, h, i, len(l))
		}
		l = append(l, c)
	}
	return l
}

func wantCopies(t *testing.T, x api.Table, h api.Header, want []api.Copy) {
	t.Helper()
	if l := gathered(t, x, h); !slices.Equal(l, want) {
		t.Fatalf("Copies(%v, %v)\ntells %v; it should be\n%v", x, h, l, want)
	}
}

func wantWhole(t *testing.T, x api.Table, h api.Header, d api.Done, want bool) {
	t.Helper()
	if is, e := step.Whole(x, h, d); is != want || e != api.OK {
		t.Fatalf("Whole(%v, %v, %v) = %v, %d; it should be %v", x, h, d, is, e, want)
	}
}

// wantNoStep: Do and Whole refuse, and there is no copy.
func wantNoStep(t *testing.T, x api.Table, h api.Header) {
	t.Helper()
	if d, e := step.Do(x, h); e != api.ErrArg || !sameDone(d, api.Done{}) {
		t.Fatalf("Do(%v, %v) = %v, %d; it should be ErrArg", x, h, d, e)
	}
	wantCopies(t, x, h, nil)
	for _, d := range []api.Done{{}, {Lost: h.Bits}, {Expired: h.Bits}, {Local: true}} {
		if is, e := step.Whole(x, h, d); is || e != api.ErrArg {
			t.Fatalf("Whole(%v, %v, %v) = %v, %d; it should be ErrArg", x, h, d, is, e)
		}
	}
}

func wantFar(t *testing.T, l []api.Table, h api.Header, want []int) {
	t.Helper()
	if named, e := step.Far(l, h); e != api.OK || !slices.Equal(named, want) {
		t.Fatalf("Far(%v, %v) = %v, %d; it should be %v", l, h, named, e, want)
	}
}

func wantNoFar(t *testing.T, l []api.Table, h api.Header) {
	t.Helper()
	if named, e := step.Far(l, h); e != api.ErrArg || len(named) != 0 {
		t.Fatalf("Far(%v, %v) = %v, %d; it should be ErrArg", l, h, named, e)
	}
}

// wantParted: what W1 and P14.4 say of what Do answers, whatever it is.
func wantParted(t *testing.T, x api.Table, h api.Header) {
	t.Helper()
	d, e := step.Do(x, h)
	if e != api.OK {
		t.Fatalf("Do(%v, %v): %d", x, h, e)
	}
	rest := h.Bits
	part := func(b api.Bits) {
		if bits.And(rest, b) != b {
			t.Fatalf("Do(%v, %v) = %v: the bits %s did not come, or went elsewhere", x, h, d, bits.Text(b))
		}
		rest = bits.AndNot(rest, b)
	}
	if d.Local {
		part(of(ownOf(x, h.Set)))
	}
	met := map[int]bool{}
	for _, c := range d.Copies {
		if met[c.To] || c.Header.Bits == none {
			t.Fatalf("Do(%v, %v) = %v: two copies for %d, or no bit", x, h, d, c.To)
		}
		met[c.To] = true
		part(c.Header.Bits)
	}
	part(d.Lost)
	part(d.Expired)
	if rest != none || len(d.Copies) > len(listed(h.Bits)) {
		t.Fatalf("Do(%v, %v) = %v: left over %s", x, h, d, bits.Text(rest))
	}
	if h.Hops == 0 && (len(d.Copies) > 0 || d.Lost != none) || h.Hops > 0 && d.Expired != none {
		t.Fatalf("Do(%v, %v) = %v", x, h, d)
	}
	wantWhole(t, x, h, d, true)
}

// wantStep: all that is promised of a table and a header that fit.
func wantStep(t *testing.T, x api.Table, h api.Header) {
	t.Helper()
	wantDo(t, x, h, doneOf(x, h))
	wantParted(t, x, h)
}

// P14.1

func TestDoOfTheExamples(t *testing.T) {
	h := head()
	wantDo(t, first(), h, api.Done{Local: true, Copies: []api.Copy{onward(2, h, 2), onward(3, h, 3, 4)}, Lost: of(5)})
	wantDo(t, first(), withHops(h, 0), api.Done{Local: true, Expired: of(2, 3, 4, 5)})
	wantDo(t, first(), turned(h, func(h *api.Header) { h.Set = 1 }), api.Done{Lost: of(1, 2, 3, 4, 5)})
	wantNoStep(t, first(), turned(h, func(h *api.Header) { h.Width = 16 }))
	wantNoStep(t, api.Table{}, h)
}

func TestDoOfOneBit(t *testing.T) {
	h := head()
	wantDo(t, first(), withBits(h, 1), api.Done{Local: true})
	wantDo(t, first(), withBits(h, 2), api.Done{Copies: []api.Copy{onward(2, h, 2)}})
	wantDo(t, first(), withBits(h, 3), api.Done{Copies: []api.Copy{onward(3, h, 3)}})
	wantDo(t, first(), withBits(h, 8), api.Done{Lost: of(8)})
	wantDo(t, first(), withBits(h), api.Done{})
	wantDo(t, first(), withHops(withBits(h), 0), api.Done{})
	wantDo(t, first(), withHops(withBits(h, 1), 0), api.Done{Local: true})
	wantDo(t, first(), withHops(withBits(h, 3), 0), api.Done{Expired: of(3)})
	wantDo(t, first(), withHops(withBits(h, 8), 0), api.Done{Expired: of(8)})
}

// The copies are in the order of their lowest bits, whoever they are for, and no bit that did not come is in one.
func TestDoOrdersCopies(t *testing.T) {
	x := tab(9, 8, 0, "0.1 of 7 by 7, 0.2 of 3 by 3, 0.3 of 7 by 7, 0.4 of 1 by 1, 0.5 of 3 by 3, 0.8 of 7 by 7")
	h := withBits(head(), upTo(8)...)
	wantDo(t, x, h, api.Done{Copies: []api.Copy{onward(7, h, 1, 3, 8), onward(3, h, 2, 5), onward(1, h, 4)}, Lost: of(6, 7)})
	h.Bits = of(3, 4, 5)
	wantDo(t, x, h, api.Done{Copies: []api.Copy{onward(7, h, 3), onward(1, h, 4), onward(3, h, 5)}})
	h.Bits = of(5, 8)
	wantDo(t, x, h, api.Done{Copies: []api.Copy{onward(3, h, 5), onward(7, h, 8)}})
	h.Hops = 1
	wantDo(t, x, h, api.Done{Copies: []api.Copy{onward(3, h, 5), onward(7, h, 8)}})
}

func TestDoKeepsTheOtherFields(t *testing.T) {
	for _, width := range widths {
		for _, set := range []int{0, 1, 127} {
			for _, entropy := range someEntropies {
				x := api.Table{Self: 24, Width: width, Entries: []api.Entry{{Set: set, Bit: width, Owner: 4, Next: []int{5}}}}
				h := api.Header{Width: width, Set: set, Entropy: entropy, Hops: 15, Source: 24, Group: 7, Id: ^entropy, Bits: of(1, width)}
				want := api.Header{Width: width, Set: set, Entropy: entropy, Hops: 14, Source: 24, Group: 7, Id: ^entropy, Bits: of(width)}
				wantDo(t, x, h, api.Done{Copies: []api.Copy{{To: 5, Header: want}}, Lost: of(1)})
			}
		}
	}
}

// owned are tables of a width that are alike but for Own: none, a bit of the set 0, the same bit of another set, one of a set without entries.
func owned(width int) []api.Table {
	var l []api.Table
	for _, own := range []int{0, 4, width + 4, 1024} {
		x := api.Table{Self: 5, Width: width, Own: own}
		for set := range 2 {
			for i, bit := range []int{1, 2, 3, width/2 + 1, width - 1, width} {
				x.Entries = append(x.Entries, api.Entry{Set: set, Bit: bit, Owner: 6, Next: [][]int{{2}, {2, 3}, {3, 7, 24}, {1, 2, 3, 4, 6, 7, 8, 9, 10, 11, 12, 13, 14, 15, 16, 17}, {24}, {1, 24}}[i]})
			}
		}
		l = append(l, x)
	}
	return l
}

func TestDoOfEachBitOfEachWidth(t *testing.T) {
	for _, width := range widths {
		for _, x := range owned(width) {
			for _, hops := range []int{0, 1, 15} {
				for set := range 3 {
					h := api.Header{Width: width, Set: set, Hops: hops, Source: 7, Group: 1, Id: 2}
					wantStep(t, x, h)
					for n := 1; n <= width; n++ {
						h.Bits = of(n)
						wantStep(t, x, h)
					}
				}
			}
		}
	}
}

func TestDoOfAllAndSeveralBitsOfEachWidth(t *testing.T) {
	for _, width := range widths {
		for _, x := range owned(width) {
			for _, hops := range []int{0, 1, 2, 15} {
				for _, entropy := range someEntropies {
					for _, b := range []api.Bits{of(upTo(width)...), of(1, 4, width), of(3, 4, 5, 6), of(upTo(width / 2)...), of(4)} {
						for _, set := range []int{0, 1, 1023 / width, 127} {
							wantStep(t, x, api.Header{Width: width, Set: set, Entropy: entropy, Hops: hops, Source: 5, Bits: b})
						}
					}
				}
			}
		}
	}
}

func TestDoOfAllBitsOfTheWidthEight(t *testing.T) {
	tables := append(owned(8), first(), two(), three(), tab(4, 8, 8, "0.1 of 1 by 1, 0.7 of 2 by 1 2 3"), tab(4, 8, 9, "0.1 of 1 by 1 2, 0.8 of 2 by 2"), tab(4, 8, 0, ""))
	for _, x := range tables {
		for _, hops := range []int{0, 1, 15} {
			for _, entropy := range []uint32{0, 1, 2, 4, top} {
				for word := range uint64(256) {
					wantStep(t, x, api.Header{Width: 8, Entropy: entropy, Hops: hops, Source: 4, Group: 7, Id: top, Bits: api.Bits{word}})
				}
			}
		}
	}
}

func TestDoDeliversTheOwnBitOfEachId(t *testing.T) {
	for _, width := range widths {
		for own := 1; own <= 1024; own++ {
			x := api.Table{Self: 2, Width: width, Own: own}
			set, bit := 0, own
			for ; bit > width; bit -= width {
				set++
			}
			for _, hops := range []int{0, 15} {
				h := api.Header{Width: width, Set: set, Hops: hops, Source: 3, Bits: of(bit)}
				wantDo(t, x, h, api.Done{Local: true})
				other := turned(h, func(h *api.Header) { h.Set = (set + 1) % 128 })
				if hops == 0 {
					wantDo(t, x, other, api.Done{Expired: of(bit)})
				} else {
					wantDo(t, x, other, api.Done{Lost: of(bit)})
				}
			}
		}
	}
}

// An Own of 0 is no bit, in no set: at the bits ahead of the first one there is nothing.
func TestDoWithoutOwn(t *testing.T) {
	for _, width := range widths {
		for _, set := range []int{0, 1, 127} {
			h := api.Header{Width: width, Set: set, Hops: 3, Source: 3, Bits: of(upTo(width)...)}
			wantDo(t, api.Table{Self: 2, Width: width}, h, api.Done{Lost: h.Bits})
			wantDo(t, api.Table{Self: 2, Width: width}, withHops(h, 0), api.Done{Expired: h.Bits})
		}
	}
}

func TestDoOfEachSet(t *testing.T) {
	for set := range 128 {
		x := api.Table{Self: 2, Width: 8, Entries: []api.Entry{{Set: set, Bit: 5, Owner: 3, Next: []int{4}}}}
		for other := range 128 {
			h := api.Header{Width: 8, Set: other, Hops: 3, Source: 3, Bits: of(5)}
			if other == set {
				wantDo(t, x, h, api.Done{Copies: []api.Copy{onward(4, h, 5)}})
			} else {
				wantDo(t, x, h, api.Done{Lost: of(5)})
			}
		}
	}
}

// All entries of a full table have all neighbours that they can: which copies there are hangs on the entropy alone.
func TestDoTakesByEntropy(t *testing.T) {
	x := api.Table{Self: 24, Width: 32, Own: 25}
	for bit := 1; bit <= 24; bit++ {
		x.Entries = append(x.Entries, api.Entry{Bit: bit, Owner: 1 + bit%23, Next: upTo(24)[bit%8 : bit%8+1+bit%16]})
	}
	copies := map[int]bool{}
	for entropy := range uint32(600) {
		for _, e := range []uint32{entropy, top - entropy} {
			h := api.Header{Width: 32, Entropy: e, Hops: 15, Source: 24, Bits: of(upTo(32)...)}
			wantStep(t, x, h)
			d, _ := step.Do(x, h)
			copies[len(d.Copies)] = true
		}
	}
	if len(copies) < 4 {
		t.Errorf("%v copies: these are no cases of this", copies)
	}
}

func TestDoOfMadeUpTables(t *testing.T) {
	var d dice = 3
	local, lost, copies, many := 0, 0, 0, 0
	for range 3000 {
		x := d.table(1+d.below(24), d.width(), 24)
		h := d.header(x)
		wantStep(t, x, h)
		done, _ := step.Do(x, h)
		copies += len(done.Copies)
		if done.Local {
			local++
		}
		if done.Lost != none {
			lost++
		}
		if len(done.Copies) > 3 {
			many++
		}
	}
	if local < 100 || lost < 100 || copies < 1000 || many < 100 {
		t.Errorf("%d %d %d %d: these are no cases of this", local, lost, copies, many)
	}
}

// badTables may not be, each for one thing.
func badTables() []api.Table {
	var l []api.Table
	bad := func(turn func(x *api.Table)) {
		x := first()
		turn(&x)
		l = append(l, x)
	}
	for _, n := range noRouters {
		bad(func(x *api.Table) { x.Self = n })
		bad(func(x *api.Table) { x.Entries[2].Owner = n })
		bad(func(x *api.Table) { x.Entries[0].Next[0] = n })
	}
	for _, n := range noWidths {
		bad(func(x *api.Table) { x.Width = n })
	}
	for _, n := range noIds {
		bad(func(x *api.Table) { x.Own = n })
	}
	for _, n := range noSets {
		bad(func(x *api.Table) { x.Entries[2].Set = n })
	}
	for _, n := range append([]int{0, -1, 9, 256}, far...) {
		bad(func(x *api.Table) { x.Entries[2].Bit = n })
	}
	for own := 2; own <= 4; own++ {
		bad(func(x *api.Table) { x.Own = own })
	}
	bad(func(x *api.Table) { x.Entries[1].Owner = 1 })
	bad(func(x *api.Table) { x.Entries[1].Next = []int{1, 2} })
	bad(func(x *api.Table) { x.Entries[1].Next = []int{3, 2} })
	bad(func(x *api.Table) { x.Entries[1].Next = []int{2, 2} })
	bad(func(x *api.Table) { x.Entries[1].Next = nil })
	bad(func(x *api.Table) { x.Entries[1].Next = upTo(18)[1:] })
	bad(func(x *api.Table) { x.Entries[0], x.Entries[1] = x.Entries[1], x.Entries[0] })
	bad(func(x *api.Table) { x.Entries[1] = x.Entries[0] })
	bad(func(x *api.Table) { x.Entries[0].Set = 1 })
	bad(func(x *api.Table) {
		for set := 1; len(x.Entries) < 25; set++ {
			x.Entries = append(x.Entries, api.Entry{Set: set, Bit: 1, Owner: 2, Next: []int{2}})
		}
	})
	return append(l, api.Table{})
}

// badHeaders may not be, each for one thing.
func badHeaders() []api.Header {
	var l []api.Header
	for i, numbers := range [][]int{noWidths, noSets, noHops, noRouters, noGroups} {
		for _, n := range numbers {
			h := head()
			*[]*int{&h.Width, &h.Set, &h.Hops, &h.Source, &h.Group}[i] = n
			l = append(l, h)
		}
	}
	for _, n := range []int{9, 16, 64, 65, 128, 129, 256} {
		l = append(l, withBits(head(), n), withBits(head(), 1, n))
	}
	return append(l, api.Header{})
}

func TestDoAndWholeRefuse(t *testing.T) {
	for _, x := range badTables() {
		for _, hops := range []int{0, 7} {
			wantNoStep(t, x, withHops(head(), hops))
		}
		// Nothing of it is asked of the set 5, and it may not be still.
		wantNoStep(t, x, turned(head(), func(h *api.Header) { h.Set = 5 }))
		wantNoStep(t, x, withBits(head()))
	}
	for _, h := range badHeaders() {
		wantNoStep(t, first(), h)
		wantNoStep(t, two(), h)
	}
	for _, x := range badTables()[:5] {
		wantNoStep(t, x, badHeaders()[0])
	}
}

func TestDoAndWholeRefuseUnlikeWidths(t *testing.T) {
	for _, a := range widths {
		for _, b := range widths {
			x := api.Table{Self: 1, Width: a, Own: 1}
			for _, h := range []api.Header{{Width: b, Source: 1}, {Width: b, Source: 1, Hops: 15, Bits: of(1, 2)}} {
				if a != b {
					wantNoStep(t, x, h)
				} else {
					wantStep(t, x, h)
				}
			}
		}
	}
}

func TestStepsOfSpoiltTablesAndHeaders(t *testing.T) {
	var d dice = 5
	refused := 0
	for range 4000 {
		x := d.table(1+d.below(24), d.width(), 24)
		h := d.header(x)
		if d.below(2) == 0 {
			x = d.spoilt(x)
		} else {
			h = d.spoiltHeader(h)
		}
		if fit(x, h) {
			wantStep(t, x, h)
		} else {
			wantNoStep(t, x, h)
			refused++
		}
	}
	if !within(refused, 1000, 3500) {
		t.Errorf("%d refused: these are no cases of this", refused)
	}
}

// fan has a copy for each of the routers 2 to 17.
func fan() (api.Table, api.Header) {
	x := api.Table{Self: 1, Width: 32, Own: 32}
	for n := 2; n <= 17; n++ {
		x.Entries = append(x.Entries, api.Entry{Bit: n, Owner: n, Next: []int{n}})
	}
	return x, api.Header{Width: 32, Hops: 9, Source: 1, Group: 2, Id: 5, Bits: of(upTo(32)...)}
}

func TestCopiesAreGoneThroughAgain(t *testing.T) {
	x, h := fan()
	want := doneOf(x, h).Copies
	if len(want) != 16 {
		t.Fatal(want)
	}
	told := step.Copies(x, h)
	for range 3 {
		var l []api.Copy
		for i, c := range told {
			if i != len(l) {
				t.Fatalf("the place %d of the copy %d", i, len(l))
			}
			l = append(l, c)
		}
		if !slices.Equal(l, want) {
			t.Fatalf("%v; it should be %v", l, want)
		}
	}
	// One going through does not meddle with another one.
	for i, c := range told {
		n := 0
		for k, o := range told {
			if k != n || o != want[k] {
				t.Fatalf("within the copy %d: %d %v", i, k, o)
			}
			n++
		}
		if n != 16 || c != want[i] {
			t.Fatalf("the copy %d: %v, %d within", i, c, n)
		}
	}
}

func TestCopiesAreLeftEarly(t *testing.T) {
	x, h := fan()
	want := doneOf(x, h).Copies
	told := step.Copies(x, h)
	for leave := range want {
		asked := 0
		// Called by hand: a range would not tell whether it goes on behind a false.
		told(func(i int, c api.Copy) bool {
			if i != asked || c != want[i] {
				t.Fatalf("left at %d: %d %v", leave, i, c)
			}
			asked++
			return i < leave
		})
		if asked != leave+1 {
			t.Fatalf("left at %d: %d copies were told", leave, asked)
		}
	}
	for i, c := range told {
		if i == 3 {
			break
		}
		if c != want[i] {
			t.Fatal(i, c)
		}
	}
}

func TestCopiesTellNothing(t *testing.T) {
	for _, h := range []api.Header{withBits(head()), withBits(head(), 1), withBits(head(), 1, 5, 8), withHops(head(), 0), turned(head(), func(h *api.Header) { h.Set = 1 })} {
		wantCopies(t, first(), h, nil)
	}
	for _, x := range badTables() {
		for i, c := range step.Copies(x, head()) {
			t.Fatalf("%v tells %d %v", x, i, c)
		}
	}
	for _, h := range badHeaders() {
		for i, c := range step.Copies(first(), h) {
			t.Fatalf("%v tells %d %v", h, i, c)
		}
	}
}

// R5: what was handed in is kept by its content alone: what becomes of it, ahead of going through or meanwhile, changes no copy.
func TestCopiesDoNotKeepTheTable(t *testing.T) {
	given, h := fan()
	want := doneOf(given, h).Copies
	for _, turn := range []func(x api.Table){
		func(x api.Table) { x.Entries[3].Next[0] = 20 },
		func(x api.Table) { x.Entries[3].Next[0] = -1 },
		func(x api.Table) { x.Entries[5].Bit = 31 },
		func(x api.Table) { clear(x.Entries) },
	} {
		x := cloned(given)
		told := step.Copies(x, h)
		turn(x)
		n := 0
		for i, c := range told {
			if c != want[i] {
				t.Fatalf("%d: %v; it should be %v", i, c, want[i])
			}
			n++
		}
		x = cloned(given)
		for i, c := range step.Copies(x, h) {
			turn(x)
			if c != want[i] {
				t.Fatalf("meanwhile: %d: %v; it should be %v", i, c, want[i])
			}
			n++
		}
		if n != 32 {
			t.Fatalf("%d copies; they should be 32", n)
		}
	}
}

// P14.2

func TestWholeOfTheExamples(t *testing.T) {
	d := doneOf(first(), head())
	wantWhole(t, first(), head(), d, true)
	less := clonedDone(d)
	less.Copies = less.Copies[1:]
	wantWhole(t, first(), head(), less, false)
	less = clonedDone(d)
	less.Lost = none
	wantWhole(t, first(), head(), less, false)
}

// turns are all that makes what was done not whole, one by one; those of copies are done to the copy i.
func turns(i int) map[string]func(d *api.Done) {
	field := func(turn func(h *api.Header)) func(d *api.Done) {
		return func(d *api.Done) { turn(&d.Copies[i].Header) }
	}
	return map[string]func(d *api.Done){
		"not Local":        func(d *api.Done) { d.Local = false },
		"Lost none":        func(d *api.Done) { d.Lost = none },
		"Lost more":        func(d *api.Done) { d.Lost = of(5, 6) },
		"Lost the own bit": func(d *api.Done) { d.Lost = of(1, 5) },
		"Lost a copied":    func(d *api.Done) { d.Lost = bits.Or(d.Lost, d.Copies[i].Header.Bits) },
		"Lost above":       func(d *api.Done) { d.Lost = of(5, 9) },
		"Lost far above":   func(d *api.Done) { d.Lost = of(5, 256) },
		"Expired more":     func(d *api.Done) { d.Expired = of(6) },
		"Expired the own":  func(d *api.Done) { d.Expired = of(1) },
		"Expired the lost": func(d *api.Done) { d.Expired = of(5) },
		"Expired for Lost": func(d *api.Done) { d.Expired, d.Lost = of(5), none },
		"left out":         func(d *api.Done) { d.Copies = slices.Delete(d.Copies, i, i+1) },
		"doubled":          func(d *api.Done) { d.Copies = append(d.Copies, d.Copies[i]) },
		"doubled for another": func(d *api.Done) {
			c := d.Copies[i]
			c.To = 9
			d.Copies = append(d.Copies, c)
		},
		"for one":      func(d *api.Done) { d.Copies[i].To = d.Copies[1-i].To },
		"another for":  func(d *api.Done) { d.Copies[1-i].To = d.Copies[i].To },
		"Width":        field(func(h *api.Header) { h.Width = 16 }),
		"Width 0":      field(func(h *api.Header) { h.Width = 0 }),
		"Set":          field(func(h *api.Header) { h.Set = 1 }),
		"Entropy":      field(func(h *api.Header) { h.Entropy = 1 }),
		"Hops kept":    field(func(h *api.Header) { h.Hops++ }),
		"Hops two":     field(func(h *api.Header) { h.Hops-- }),
		"Hops 0":       field(func(h *api.Header) { h.Hops = 0 }),
		"Source":       field(func(h *api.Header) { h.Source = 2 }),
		"Source 0":     field(func(h *api.Header) { h.Source = 0 }),
		"Group":        field(func(h *api.Header) { h.Group = 2 }),
		"Id":           field(func(h *api.Header) { h.Id = 10 }),
		"Bits none":    field(func(h *api.Header) { h.Bits = none }),
		"Bits lost":    field(func(h *api.Header) { h.Bits = bits.Or(h.Bits, of(5)) }),
		"Bits own":     field(func(h *api.Header) { h.Bits = bits.Or(h.Bits, of(1)) }),
		"Bits more":    field(func(h *api.Header) { h.Bits = bits.Or(h.Bits, of(7)) }),
		"Bits above":   field(func(h *api.Header) { h.Bits = bits.Or(h.Bits, of(9)) }),
		"Bits of both": field(func(h *api.Header) { h.Bits = bits.Or(h.Bits, of(2, 3)) }),
		"a copy without bits": func(d *api.Done) {
			d.Copies = append(d.Copies, onward(9, head()))
		},
		"nothing": func(d *api.Done) { *d = api.Done{} },
	}
}

func TestWholeOfEachTurn(t *testing.T) {
	for i := range 2 {
		for name, turn := range turns(i) {
			t.Run(fmt.Sprint(name, " ", i), func(t *testing.T) {
				d := doneOf(first(), head())
				wantWhole(t, first(), head(), d, true)
				turn(&d)
				wantWhole(t, first(), head(), d, false)
			})
		}
	}
}

// Bits that were taken from one place have to be in another one, and that is all.
func TestWholeGoesByNoMore(t *testing.T) {
	h := head()
	whole := func(d api.Done, want bool) {
		t.Helper()
		wantWhole(t, first(), h, d, want)
	}
	whole(api.Done{Lost: h.Bits}, true)
	whole(api.Done{Local: true, Lost: of(2, 3, 4, 5)}, true)
	whole(api.Done{Local: true, Lost: h.Bits}, false)
	whole(api.Done{Copies: []api.Copy{onward(2, h, 1, 2, 3, 4, 5)}}, true)
	whole(api.Done{Copies: []api.Copy{onward(3, h, 3, 4), onward(2, h, 2)}, Lost: of(5), Local: true}, true)
	whole(api.Done{Copies: []api.Copy{onward(3, h, 2), onward(2, h, 3, 4)}, Lost: of(5), Local: true}, true)
	whole(api.Done{Copies: []api.Copy{onward(2, h, 2, 3, 4), onward(3, h, 5)}, Local: true}, true)
	whole(api.Done{Copies: []api.Copy{onward(2, h, 1), onward(3, h, 2), onward(4, h, 3), onward(5, h, 4), onward(6, h, 5)}}, true)
	whole(api.Done{Copies: []api.Copy{onward(2, h, 1), onward(3, h, 2), onward(4, h, 3), onward(5, h, 4), onward(2, h, 5)}}, false)
	for _, to := range append(noRouters, upTo(24)...) {
		whole(api.Done{Local: true, Copies: []api.Copy{onward(to, h, 2, 3, 4)}, Lost: of(5)}, true)
		whole(api.Done{Local: true, Copies: []api.Copy{onward(to, h, 2), onward(to, h, 3, 4)}, Lost: of(5)}, false)
	}
	h = withHops(head(), 0)
	whole(api.Done{Local: true, Expired: of(2, 3, 4, 5)}, true)
	whole(api.Done{Expired: h.Bits}, true)
	whole(api.Done{Local: true, Expired: of(2, 3), Lost: of(4, 5)}, true)
	whole(api.Done{Local: true, Expired: of(2, 3, 4), Lost: of(4, 5)}, false)
	whole(api.Done{Local: true, Expired: h.Bits}, false)
	whole(api.Done{Local: true, Expired: of(2, 3, 4)}, false)
	whole(api.Done{Local: true, Expired: of(2, 3, 4, 5, 6)}, false)
	whole(api.Done{Local: true, Expired: of(2, 3, 4), Copies: []api.Copy{onward(2, h, 5)}}, false)
	whole(api.Done{Local: true, Expired: of(2, 3, 4, 5), Copies: []api.Copy{{}}}, false)
	h = withHops(head(), 1)
	whole(api.Done{Local: true, Copies: []api.Copy{onward(2, h, 2, 3, 4, 5)}}, true)
	whole(api.Done{Local: true, Copies: []api.Copy{onward(2, h, 2, 3, 4)}, Expired: of(5)}, false)
}

func TestWholeOfLocal(t *testing.T) {
	for _, hops := range []int{0, 1, 15} {
		h := withHops(withBits(head()), hops)
		for _, own := range []int{0, 1, 2, 8, 9, 16, 17, 1024} {
			x := api.Table{Self: 1, Width: 8, Own: own}
			for set := range 4 {
				h.Set = set
				// No bit came: there is none to deliver.
				h.Bits = none
				wantWhole(t, x, h, api.Done{}, true)
				wantWhole(t, x, h, api.Done{Local: true}, false)
				for bit := 1; bit <= 8; bit++ {
					h.Bits = of(bit)
					wantWhole(t, x, h, api.Done{Local: true}, set*8+bit == own)
					wantWhole(t, x, h, api.Done{Lost: of(bit)}, true)
					wantWhole(t, x, h, api.Done{Local: true, Lost: of(bit)}, false)
					wantWhole(t, x, h, api.Done{Expired: of(bit)}, hops == 0)
					wantWhole(t, x, h, api.Done{}, false)
				}
			}
		}
	}
}

// All ways to part three bits, and to leave them out or tell them twice, are held against the document's words.
func TestWholeOfAllShortOnes(t *testing.T) {
	x := tab(1, 8, 2, "")
	words := []api.Bits{none, of(1), of(2), of(1, 2), of(3), of(1, 3), of(2, 3), of(1, 2, 3)}
	is := 0
	for _, came := range words {
		for _, hops := range []int{0, 1} {
			h := api.Header{Width: 8, Hops: hops, Source: 1, Bits: came}
			for _, lost := range words {
				for _, expired := range words {
					for _, copied := range words {
						for _, other := range words {
							for _, local := range []bool{false, true} {
								for copies := range 3 {
									for _, to := range []int{2, 3}[:max(1, copies)] {
										d := api.Done{Local: local, Lost: lost, Expired: expired}
										d.Copies = []api.Copy{onward(2, h, listed(copied)...), onward(to, h, listed(other)...)}[:copies]
										want := wholeOf(x, h, d)
										wantWhole(t, x, h, d, want)
										if want {
											is++
										}
									}
								}
							}
						}
					}
				}
			}
		}
	}
	if is < 1000 {
		t.Errorf("%d are whole: these are no cases of this", is)
	}
}

func TestWholeOfMadeUpOnes(t *testing.T) {
	var d dice = 7
	is, not := 0, 0
	for range 4000 {
		x := d.table(1+d.below(24), d.width(), 24)
		h := d.header(x)
		done := doneOf(x, h)
		for range 1 + d.below(2) {
			done = d.spoiltDone(done)
		}
		want := wholeOf(x, h, done)
		wantWhole(t, x, h, done, want)
		if want {
			is++
		} else {
			not++
		}
	}
	if is < 500 || not < 500 {
		t.Errorf("%d, %d: these are no cases of this", is, not)
	}
}

// What was done may be anything: also for more neighbours than there are, and with more copies than bits.
func TestWholeOfManyCopies(t *testing.T) {
	x := api.Table{Self: 1, Width: 256}
	h := api.Header{Width: 256, Hops: 9, Source: 1, Bits: of(upTo(256)...)}
	var d api.Done
	for n := 1; n <= 256; n++ {
		d.Copies = append(d.Copies, onward(n, h, n))
	}
	wantWhole(t, x, h, d, true)
	wantWhole(t, x, h, api.Done{Copies: append(slices.Clone(d.Copies), onward(257, h))}, false)
	wantWhole(t, x, h, api.Done{Copies: append(slices.Clone(d.Copies), onward(257, h, 256))}, false)
	last := clonedDone(d)
	last.Copies[255].To = 1
	wantWhole(t, x, h, last, false)
	for _, c := range []api.Copy{{}, onward(0, h), onward(0, h, 1), d.Copies[0]} {
		wantWhole(t, x, h, api.Done{Copies: slices.Repeat([]api.Copy{c}, 1<<18)}, false)
	}
}

// P14.3

func TestFarOfTheExamples(t *testing.T) {
	wantFar(t, []api.Table{first()}, head(), []int{1})
	wantFar(t, []api.Table{first(), two(), three()}, head(), []int{1, 2, 3})
	wantNoFar(t, []api.Table{first(), two(), three()}, turned(head(), func(h *api.Header) { h.Source = 4 }))
	wantFar(t, []api.Table{first(), two(), three()}, turned(head(), func(h *api.Header) { h.Source = 3 }), []int{3})
	wantFar(t, []api.Table{first(), two(), three()}, turned(head(), func(h *api.Header) { h.Source = 2 }), []int{2})
}

func TestFarOfEachOrder(t *testing.T) {
	for _, order := range [][]int{{0, 1, 2}, {0, 2, 1}, {1, 0, 2}, {1, 2, 0}, {2, 0, 1}, {2, 1, 0}} {
		var l []api.Table
		for _, i := range order {
			l = append(l, []api.Table{first(), two(), three()}[i])
		}
		wantFar(t, l, head(), []int{1, 2, 3})
		wantFar(t, l, withHops(head(), 1), []int{1, 2, 3})
		wantFar(t, l, withHops(head(), 0), []int{1})
		wantFar(t, l, withBits(head(), 2, 3), []int{2, 3})
		wantFar(t, l, withBits(head(), 3), []int{3})
		wantFar(t, l, withBits(head(), 4, 5), nil)
		wantFar(t, l, withBits(head()), nil)
	}
}

// Who delivers is told rising, whoever is come to first.
func TestFarRises(t *testing.T) {
	l := []api.Table{tab(9, 8, 4, "0.1 of 20 by 20, 0.2 of 7 by 7, 0.3 of 3 by 7"), tab(20, 8, 1, ""), tab(7, 8, 2, "0.3 of 3 by 3"), tab(3, 8, 3, "")}
	wantFar(t, l, turned(withBits(head(), 1, 2, 3, 4), func(h *api.Header) { h.Source = 9 }), []int{3, 7, 9, 20})
}

// row has the tables of the routers 1 to 24 in a row, each with its own bit; the entries of all lead to the right.
func row(width int) []api.Table {
	var l []api.Table
	for self := 1; self <= 24; self++ {
		x := api.Table{Self: self, Width: width, Own: self}
		for id := self + 1; id <= 24; id++ {
			x.Entries = append(x.Entries, api.Entry{Set: (id - 1) / width, Bit: (id-1)%width + 1, Owner: id, Next: []int{self + 1}})
		}
		l = append(l, x)
	}
	return l
}

func TestFarGoesAsFarAsTheHops(t *testing.T) {
	for hops := range 16 {
		for source := 1; source <= 24; source++ {
			h := api.Header{Width: 32, Hops: hops, Source: source, Bits: of(upTo(24)...)}
			wantFar(t, row(32), h, upTo(24)[source-1:min(24, source+hops)])
			h.Bits = of(min(24, source+hops))
			wantFar(t, row(32), h, []int{min(24, source+hops)})
			if source+hops < 24 {
				h.Bits = of(source + hops + 1)
				wantFar(t, row(32), h, nil)
			}
		}
	}
	// At the width 8 the ids 9 to 16 are of the set 1: it has bits on the way that others own in other sets.
	h := api.Header{Width: 8, Set: 1, Hops: 15, Source: 1, Bits: of(upTo(8)...)}
	wantFar(t, row(8), h, []int{9, 10, 11, 12, 13, 14, 15, 16})
}

// A copy for a router without a table is gone; those for the others go on.
func TestFarOfRoutersWithoutATable(t *testing.T) {
	wantFar(t, []api.Table{first(), two()}, head(), []int{1, 2})
	wantFar(t, []api.Table{first(), three()}, head(), []int{1, 3})
	h := api.Header{Width: 32, Hops: 15, Source: 1, Bits: of(upTo(24)...)}
	for gone := 2; gone <= 16; gone++ {
		l := slices.DeleteFunc(row(32), func(x api.Table) bool { return x.Self == gone })
		wantFar(t, l, h, upTo(gone-1))
	}
	wantNoFar(t, row(32)[1:], h)
}

// ring has the tables of routers in a ring, none of which owns a bit of the set 0, and each sends it on.
func ring(n int) []api.Table {
	var l []api.Table
	for self := 1; self <= n; self++ {
		next := self%n + 1
		l = append(l, tab(self, 8, 8+self, fmt.Sprintf("0.1 of %d by %d, 0.2 of %d by %d", next, next, next, next)))
	}
	return l
}

func TestFarOfRings(t *testing.T) {
	for n := 2; n <= 8; n++ {
		for hops := range 16 {
			h := api.Header{Width: 8, Hops: hops, Source: 1, Bits: of(1, 2, 3)}
			wantFar(t, ring(n), h, nil)
			// One of the ring has the bit 2: it is delivered there once, and goes round no more.
			for at := 1; at <= n; at++ {
				l := ring(n)
				l[at-1].Own = 2
				l[at-1].Entries = l[at-1].Entries[:1]
				want := []int{at}
				if at-1 > hops {
					want = nil
				}
				wantFar(t, l, h, want)
			}
		}
	}
	// Two send the packet to and fro.
	l := []api.Table{tab(1, 8, 3, "0.1 of 2 by 2, 0.2 of 2 by 2"), tab(2, 8, 4, "0.1 of 1 by 1, 0.2 of 1 by 1, 0.3 of 1 by 1")}
	wantFar(t, l, api.Header{Width: 8, Hops: 15, Source: 2, Bits: of(1, 2, 3, 4)}, []int{1, 2})
	wantFar(t, l, api.Header{Width: 8, Hops: 15, Source: 1, Bits: of(1, 2, 3, 4)}, []int{1})
}

// Ways part, and meet again at one router, to which two copies of a packet come.
func TestFarOfWaysThatMeet(t *testing.T) {
	l := []api.Table{
		tab(1, 8, 0, "0.1 of 4 by 2, 0.2 of 4 by 3, 0.3 of 5 by 3"),
		tab(2, 8, 0, "0.1 of 4 by 4"),
		tab(3, 8, 0, "0.2 of 4 by 4, 0.3 of 5 by 4"),
		tab(4, 8, 1, "0.2 of 5 by 5, 0.3 of 6 by 6"),
		tab(5, 8, 2, ""),
		tab(6, 8, 3, ""),
	}
	h := api.Header{Width: 8, Hops: 3, Source: 1, Bits: of(1, 2, 3)}
	wantFar(t, l, h, []int{4, 5, 6})
	wantFar(t, l, withHops(h, 2), []int{4})
	wantFar(t, l, withHops(h, 1), nil)
}

func TestFarRefusesTables(t *testing.T) {
	good := []api.Table{first(), two(), three()}
	for _, x := range badTables() {
		wantNoFar(t, []api.Table{x}, head())
		for at := range 4 {
			wantNoFar(t, slices.Insert(slices.Clone(good), at, x), head())
			wantNoFar(t, slices.Insert(slices.Clone(good[:1]), min(at, 1), x), head())
		}
	}
	// One that nobody comes to has to be right, too.
	lone := tab(24, 8, 0, "0.1 of 2 by 2")
	wantFar(t, append(slices.Clone(good), lone), head(), []int{1, 2, 3})
	lone.Entries[0].Next[0] = 24
	wantNoFar(t, append(slices.Clone(good), lone), head())
	wantNoFar(t, nil, head())
	wantNoFar(t, []api.Table{}, head())
	wantNoFar(t, nil, api.Header{})
}

func TestFarRefusesTwoOfOneSelf(t *testing.T) {
	good := []api.Table{first(), two(), three()}
	for _, x := range append(slices.Clone(good), tab(1, 8, 0, ""), tab(2, 8, 5, ""), tab(3, 8, 3, "0.4 of 4 by 24")) {
		for at := range 4 {
			wantNoFar(t, slices.Insert(slices.Clone(good), at, x), head())
			// Nobody looks at their tables.
			wantNoFar(t, slices.Insert(slices.Clone(good), at, x), withHops(withBits(head()), 0))
		}
	}
	wantNoFar(t, []api.Table{first(), first()}, head())
	for at := range 24 {
		wantNoFar(t, append(row(32), row(32)[at]), api.Header{Width: 32, Hops: 15, Source: 1, Bits: of(1)})
	}
	wantNoFar(t, slices.Repeat([]api.Table{first()}, 1<<16), head())
}

func TestFarRefusesUnlikeWidths(t *testing.T) {
	for _, a := range widths {
		for _, b := range widths {
			h := api.Header{Width: b, Hops: 3, Source: 1, Bits: of(1)}
			x, y := api.Table{Self: 1, Width: a, Own: 1}, api.Table{Self: 2, Width: b, Own: 1}
			if a == b {
				wantFar(t, []api.Table{x}, h, []int{1})
				wantFar(t, []api.Table{x, y}, h, []int{1})
				continue
			}
			wantNoFar(t, []api.Table{x}, h)
			wantNoFar(t, []api.Table{x, y}, h)
			wantNoFar(t, []api.Table{y, x}, h)
			// The one of the Source fits, another one does not.
			wantNoFar(t, []api.Table{x, y}, turned(h, func(h *api.Header) { h.Source = 2 }))
			wantNoFar(t, []api.Table{y, x}, turned(h, func(h *api.Header) { h.Source = 2 }))
		}
	}
}

func TestFarRefusesHeaders(t *testing.T) {
	for _, h := range badHeaders() {
		wantNoFar(t, []api.Table{first(), two(), three()}, h)
		wantNoFar(t, []api.Table{first()}, h)
		wantNoFar(t, nil, h)
	}
	for source := 1; source <= 24; source++ {
		h := turned(head(), func(h *api.Header) { h.Source = source })
		if source > 3 {
			wantNoFar(t, []api.Table{three(), first(), two()}, h)
			wantNoFar(t, []api.Table{three(), first(), two()}, withBits(h))
		}
		if source > 1 {
			wantNoFar(t, []api.Table{first()}, h)
		}
	}
}

func TestFarOfMadeUpTables(t *testing.T) {
	var d dice = 11
	named, hops, refused := 0, 0, 0
	for range 2500 {
		l := d.tables(d.width())
		h := d.distant(l[d.below(len(l))])
		switch d.below(12) {
		case 0:
			at := d.below(len(l))
			l[at] = d.spoilt(l[at])
		case 1:
			h = d.spoiltHeader(h)
		case 2:
			h.Source = 1 + d.below(24)
		}
		if !farMayBe(l, h) {
			wantNoFar(t, l, h)
			refused++
			continue
		}
		wantFar(t, l, h, farOf(l, h))
		named += len(farOf(l, h))
		for _, bit := range listed(h.Bits) {
			if router, n := walk(l, h, bit); router > 0 && n > 2 {
				hops++
			}
		}
	}
	if named < 1000 || hops < 100 || refused < 200 {
		t.Errorf("%d named, %d far away, %d refused: these are no cases of this", named, hops, refused)
	}
}

// builtTables are those of a net of records: each router is linked with some.
func builtTables(d *dice, width int) []api.Table {
	var records []api.Record
	var linked [25][25]bool
	for a := 2; a <= 24; a++ {
		for range 2 {
			b := 1 + d.below(a-1)
			linked[a][b], linked[b][a] = true, true
		}
	}
	for n := 1; n <= 24; n++ {
		r := api.Record{Origin: n, Epoch: 1, Seq: 1, Claim: n}
		for m := 1; m <= 24 && len(r.Adjs) < 16; m++ {
			if linked[n][m] {
				r.Adjs = append(r.Adjs, api.Adj{To: m, Cost: 1})
			}
		}
		records = append(records, r)
	}
	var l []api.Table
	for n := 1; n <= 24; n++ {
		x, _ := table.Build(n, width, records)
		l = append(l, x)
	}
	return l
}

// By tables that are built of one net's records a packet comes to all whose bits it has.
func TestFarOfBuiltTables(t *testing.T) {
	var d dice = 13
	for range 20 {
		for _, width := range []int{32, 256} {
			l := builtTables(&d, width)
			for source := 1; source <= 24; source++ {
				if len(l[source-1].Entries) != 23 {
					t.Fatalf("%v: this is no case of this", l[source-1])
				}
				wantFar(t, l, api.Header{Width: width, Entropy: d.entropy(), Hops: 15, Source: source, Bits: of(upTo(width)...)}, upTo(24))
				want := d.some(upTo(24), 24)
				wantFar(t, l, api.Header{Width: width, Entropy: d.entropy(), Hops: 15, Source: source, Bits: of(want...)}, want)
			}
		}
	}
}

// P14.4

// One copy for each neighbour, one with all bits, one for each bit, none: whole, all of them.
func TestNoMoreCopiesThanBits(t *testing.T) {
	x, h := fan()
	for n := range 33 {
		h.Bits = of(upTo(n)...)
		wantParted(t, x, h)
		d, _ := step.Do(x, h)
		if len(d.Copies) != min(16, max(0, n-1)) {
			t.Fatalf("%d copies of %d bits", len(d.Copies), n)
		}
	}
	for i := range x.Entries {
		x.Entries[i].Next = []int{20}
	}
	h.Bits = of(upTo(32)...)
	wantDo(t, x, h, api.Done{Local: true, Copies: []api.Copy{onward(20, h, upTo(17)[1:]...)}, Lost: of(append(upTo(31)[17:], 1)...)})
	wantParted(t, x, h)
}

// P14.5

// deliveries tells how often each router delivers, step by step as P14.3 says, and holds each step against W1.
func deliveries(t *testing.T, l []api.Table, h api.Header) map[int]int {
	t.Helper()
	times := map[int]int{}
	for now := []api.Copy{{To: h.Source, Header: h}}; len(now) > 0; {
		var then []api.Copy
		for _, c := range now {
			x, ok := tableOf(l, c.To)
			if !ok {
				continue
			}
			wantParted(t, x, c.Header)
			d, _ := step.Do(x, c.Header)
			if d.Local {
				times[c.To]++
			}
			then = append(then, d.Copies...)
		}
		now = then
	}
	return times
}

// wantOnce: what P14.5 says of those that Far names, whoever they are.
func wantOnce(t *testing.T, l []api.Table, h api.Header) {
	t.Helper()
	named, e := step.Far(l, h)
	if e != api.OK {
		t.Fatalf("Far(%v, %v): %d", l, h, e)
	}
	times := deliveries(t, l, h)
	owns := map[int]bool{}
	for _, router := range named {
		x, ok := tableOf(l, router)
		own := ownOf(x, h.Set)
		if !ok || own == 0 || !has(h.Bits, own) || owns[x.Own] || times[router] != 1 {
			t.Fatalf("Far(%v, %v) = %v: %d has the own bit %d, and delivers %d times", l, h, named, router, own, times[router])
		}
		owns[x.Own] = true
		if h.Hops == 0 && router != h.Source {
			t.Fatalf("Far(%v, %v) = %v: without a hop", l, h, named)
		}
	}
	if len(times) != len(named) {
		t.Fatalf("Far(%v, %v) = %v; it should be those of %v", l, h, named, times)
	}
}

func TestOfOneOwnOneIsNamed(t *testing.T) {
	// All of a row own the bit 1: the first one to whom it comes delivers it.
	for _, source := range []int{1, 2, 5} {
		var l []api.Table
		for self := 1; self <= 5; self++ {
			l = append(l, api.Table{Self: self, Width: 8, Own: 1})
		}
		l = append(l, tab(6, 8, 0, "0.1 of 3 by 3"), tab(7, 8, 0, "0.1 of 1 by 1 2 3 4 5"))
		h := api.Header{Width: 8, Hops: 15, Source: source, Bits: of(1)}
		wantFar(t, l, h, []int{source})
		wantOnce(t, l, h)
		h.Source = 6
		wantFar(t, l, h, []int{3})
		wantOnce(t, l, h)
		h.Source = 7
		for _, h.Entropy = range someEntropies {
			wantFar(t, l, h, []int{takenOf(l[6], 0, 1, h.Entropy)})
			wantOnce(t, l, h)
		}
	}
	// One has both bits of it on its way, and two own the same one of them.
	l := []api.Table{tab(1, 8, 2, "0.1 of 2 by 2 3"), tab(2, 8, 1, "0.2 of 1 by 1"), tab(3, 8, 1, "0.2 of 1 by 1")}
	for source := 1; source <= 3; source++ {
		for _, entropy := range someEntropies {
			h := api.Header{Width: 8, Entropy: entropy, Hops: 15, Source: source, Bits: of(1, 2)}
			other := source
			if source == 1 {
				other = takenOf(l[0], 0, 1, entropy)
			}
			wantFar(t, l, h, []int{1, other})
			wantOnce(t, l, h)
		}
	}
}

func TestFarWithoutHops(t *testing.T) {
	for source := 1; source <= 24; source++ {
		h := api.Header{Width: 32, Source: source, Bits: of(upTo(32)...)}
		wantFar(t, row(32), h, []int{source})
		h.Bits = bits.AndNot(h.Bits, of(source))
		wantFar(t, row(32), h, nil)
	}
}

func TestOnceByMadeUpTables(t *testing.T) {
	var d dice = 17
	twice := 0
	for range 1500 {
		l := d.tables([]int{8, 16, 32}[d.below(3)])
		h := d.distant(l[0])
		wantOnce(t, l, h)
		wantFar(t, l, h, farOf(l, h))
		if len(farOf(l, h)) > 1 {
			twice++
		}
		h.Hops = 0
		wantOnce(t, l, h)
	}
	if twice < 100 {
		t.Errorf("%d with several: these are no cases of this", twice)
	}
}

// R1 and R2: at all numbers each call answers, and zero values beside an error.
func TestAnyNumbers(t *testing.T) {
	numbers := append([]int{-1, 0, 1, 2, 8, 15, 16, 24, 25, 127, 128, 256, 1024, 1025}, far...)
	for _, a := range numbers {
		for _, b := range numbers {
			for _, c := range numbers {
				x := api.Table{Self: a, Width: b, Own: c}
				h := api.Header{Width: b, Set: c, Hops: a, Source: c, Group: a, Bits: of(1, 2)}
				for _, h := range []api.Header{h, turned(head(), func(h *api.Header) { h.Width = b })} {
					if fit(x, h) {
						wantStep(t, x, h)
					} else {
						wantNoStep(t, x, h)
					}
					if !farMayBe([]api.Table{x}, h) {
						wantNoFar(t, []api.Table{x}, h)
					}
				}
				d := api.Done{Copies: []api.Copy{{To: a, Header: h}, {To: b, Header: h}}}
				wantWhole(t, first(), head(), d, false)
			}
		}
	}
}

// R5: what is handed in stays as it was, the room behind its ends too.

const behind = -77

// roomy has room behind each end, filled.
func roomy(t api.Table) api.Table {
	more := api.Entry{Set: behind, Bit: behind, Owner: behind, Next: []int{behind}}
	t.Entries = append(slices.Clone(t.Entries), more, more)[:len(t.Entries)]
	for i, x := range t.Entries {
		t.Entries[i].Next = append(slices.Clone(x.Next), behind, behind)[:len(x.Next)]
	}
	return t
}

// all is a roomy table with the room behind its ends, as a text.
func all(t api.Table) string {
	t.Entries = slices.Clone(t.Entries[:len(t.Entries)+2])
	for i := range t.Entries {
		if n := len(t.Entries[i].Next); cap(t.Entries[i].Next) >= n+2 {
			t.Entries[i].Next = t.Entries[i].Next[:n+2]
		}
	}
	return fmt.Sprint(t)
}

func allOf(l []api.Table) string {
	var text []string
	for _, t := range l[:len(l)+2] {
		if t.Self == behind {
			text = append(text, fmt.Sprint(t))
		} else {
			text = append(text, all(t))
		}
	}
	return strings.Join(text, "\n")
}

func TestWhatIsHandedInStays(t *testing.T) {
	var d dice = 19
	for range 400 {
		x := d.table(1+d.below(24), d.width(), 24)
		h := d.header(x)
		if d.below(3) == 0 {
			x = d.spoilt(x)
		}
		x = roomy(x)
		was := all(x)
		done, _ := step.Do(x, h)
		for range step.Copies(x, h) {
		}
		more := onward(behind, h)
		done.Copies = append(slices.Clone(done.Copies), more, more)[:len(done.Copies)]
		wasDone := fmt.Sprint(done, done.Copies[:len(done.Copies)+2])
		step.Whole(x, h, done)
		if all(x) != was || fmt.Sprint(done, done.Copies[:len(done.Copies)+2]) != wasDone {
			t.Fatalf("%s was changed to %s, or %s", was, all(x), wasDone)
		}
	}
	for range 200 {
		given := d.tables(d.width())
		h := d.distant(given[0])
		more := api.Table{Self: behind, Entries: []api.Entry{{Set: behind}}}
		l := append(shuffled(&d, given), more, more)[:len(given)]
		for i := range l {
			l[i] = roomy(l[i])
		}
		was := allOf(l)
		step.Far(l, h)
		if allOf(l) != was {
			t.Fatalf("%s was changed to %s", was, allOf(l))
		}
	}
}

func TestWhatIsAnsweredIsNew(t *testing.T) {
	x, h := fan()
	want := doneOf(x, h)
	one, _ := step.Do(x, h)
	other, _ := step.Do(x, h)
	room := one.Copies[:cap(one.Copies)]
	for i := range room {
		room[i] = api.Copy{To: -7}
	}
	if !sameDone(other, want) {
		t.Fatalf("%v; it should be %v", other, want)
	}
	wantDo(t, x, h, want)
	clear(x.Entries)
	if !sameDone(other, want) {
		t.Fatalf("%v; it should be %v", other, want)
	}
	l := row(32)
	h = api.Header{Width: 32, Hops: 15, Source: 1, Bits: of(upTo(24)...)}
	named, _ := step.Far(l, h)
	again, _ := step.Far(l, h)
	scrawl := named[:cap(named)]
	for i := range scrawl {
		scrawl[i] = -7
	}
	if !slices.Equal(again, upTo(16)) || !reflect.DeepEqual(l, row(32)) {
		t.Fatalf("%v, %v", again, l)
	}
	clear(l)
	if !slices.Equal(again, upTo(16)) {
		t.Fatalf("%v", again)
	}
}

// R6: what was asked before has no part in it.
func TestWhatWasAskedBeforeHasNoPart(t *testing.T) {
	var d dice = 23
	for range 100 {
		x := d.spoilt(d.table(1+d.below(24), 8, 24))
		step.Do(x, d.header(first()))
		step.Whole(x, d.header(first()), api.Done{Local: true})
		step.Far(d.tables(8), d.header(first()))
		for range step.Copies(first(), withBits(head(), 2)) {
			break
		}
		wantDo(t, first(), head(), doneOf(first(), head()))
		wantWhole(t, first(), head(), doneOf(first(), head()), true)
		wantFar(t, []api.Table{first(), two(), three()}, head(), []int{1, 2, 3})
		wantFar(t, []api.Table{first()}, head(), []int{1})
	}
}

// Made-up bytes.

// reader hands out bytes, and 0 behind the last one.
type reader []byte

func (r *reader) next() int {
	if len(*r) == 0 {
		return 0
	}
	n := int((*r)[0])
	*r = (*r)[1:]
	return n
}

func (r *reader) bits(width int) api.Bits {
	var b api.Bits
	for i := range width / 8 {
		b[i/8] |= uint64(r.next()) << (i % 8 * 8)
	}
	return b
}

// table may be for the most part.
func (r *reader) table(width int) api.Table {
	x := api.Table{Self: r.next() % 26, Width: width, Own: r.next() % 64}
	set, bit := 0, 0
	for range r.next() % 8 {
		set, bit = set+r.next()/200, (bit+r.next())%40
		y := api.Entry{Set: set, Bit: bit, Owner: r.next() % 26}
		to := 0
		for range r.next() % 5 {
			to += r.next() % 8
			y.Next = append(y.Next, to)
		}
		x.Entries = append(x.Entries, y)
	}
	return x
}

func (r *reader) header(width int) api.Header {
	return api.Header{Width: width, Set: r.next() / 100, Hops: r.next() % 17, Source: r.next() % 26, Group: r.next() % 9, Id: uint32(r.next()), Entropy: uint32(r.next()), Bits: r.bits(width)}
}

func FuzzStep(f *testing.F) {
	f.Add(8, []byte{0, 7, 1, 3, 9, 0, 31, 1, 1, 3, 0, 2, 2, 1, 2, 0, 1, 3, 2, 2, 1, 0, 1, 4, 1, 3})
	f.Add(256, []byte{0, 15, 24, 7})
	f.Add(24, []byte{})
	f.Add(16, []byte("each router on the way copies the packet for its neighbours and parts the bits among the copies"))
	f.Fuzz(func(t *testing.T, width int, raw []byte) {
		if !slices.Contains(widths, width) {
			wantNoStep(t, api.Table{Self: 1, Width: width}, api.Header{Width: width, Source: 1})
			width = widths[(width%6+6)%6]
		}
		r := reader(raw)
		h := r.header(width)
		x := r.table(width)
		was := cloned(x)
		if !fit(x, h) {
			wantNoStep(t, x, h)
			return
		}
		wantStep(t, x, h)
		d := doneOf(x, h)
		for len(r) > 0 {
			switch r.next() % 4 {
			case 0:
				d.Local = !d.Local
			case 1:
				d.Lost = bits.Or(d.Lost, of(1+r.next()))
			case 2:
				d.Expired = bits.AndNot(d.Expired, of(1+r.next()))
			case 3:
				d.Copies = append(d.Copies, onward(r.next()%26, h, 1+r.next()))
			}
			wantWhole(t, x, h, d, wholeOf(x, h, d))
		}
		if !reflect.DeepEqual(was, x) {
			t.Fatalf("%v was changed to %v", was, x)
		}
	})
}

func FuzzFar(f *testing.F) {
	f.Add([]byte{0, 7, 1, 3, 9, 0, 31, 1, 1, 1, 0, 2, 2, 1, 2, 2, 2, 0})
	f.Add([]byte{0, 15, 2, 0, 0, 0, 255, 2, 9, 1, 0, 1, 1, 1, 1, 1, 9, 1, 0, 1, 2, 1, 2})
	f.Add([]byte{})
	f.Add([]byte("a copy for one that has no table is gone, and so is all that it would have brought to others behind it"))
	f.Fuzz(func(t *testing.T, raw []byte) {
		r := reader(raw)
		h := r.header(8)
		var l []api.Table
		for len(r) > 0 && len(l) < 30 {
			l = append(l, r.table(8))
		}
		if !farMayBe(l, h) {
			wantNoFar(t, l, h)
			var good []api.Table
			for _, x := range l {
				if _, two := tableOf(good, x.Self); mayBe(x) && !two {
					good = append(good, x)
				}
			}
			if l = good; len(l) == 0 {
				return
			}
			h.Hops, h.Source, h.Group = h.Hops%16, l[0].Self, h.Group%8
		}
		wantFar(t, l, h, farOf(l, h))
		wantOnce(t, l, h)
	})
}
