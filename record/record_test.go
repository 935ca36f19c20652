package record_test

import (
	"encoding/binary"
	"fmt"
	"math"
	"reflect"
	"slices"
	"strings"
	"testing"

	"dandelion/api"
	"dandelion/record"
)

const (
	exampleBytes = "\x01\x00\x00\x00\x01\x00\x00\x00\x02\x01\x02\x01\x01\x02\x00\x05"
	stampBytes   = "\x03\x00\x00\x00\x01\x00\x00\x00\x01"
	// Where the fields stand in a record's bytes.
	claimAt, ingressAt, countAt, adjsAt = 9, 11, 12, 13
)

// far are numbers far from all routers, ids and costs, such as are like one in their lowest bits among them.
var far = []int{
	math.MinInt, math.MinInt + 1, math.MinInt + 2, math.MinInt32, math.MaxInt32, math.MaxInt - 1, math.MaxInt,
	1 << 16, 1<<16 + 1, 1<<16 + 2, 1<<16 + 24, 1 << 32, 1<<32 + 1, 1<<32 + 2, 1<<32 + 24,
	-1 << 16, 1 - 1<<16, 2 - 1<<16, -1 << 32, 1 - 1<<32, 2 - 1<<32, 1<<61 + 1, 1 << 62, 1<<62 + 2,
}

var (
	noRouters = append([]int{0, -1, -2, -24, -255, -254, 25, 26, 32, 48, 255, 256, 257, 258}, far...)
	noClaims  = append([]int{-1, -2, -1024, -1025, 1025, 1026, 2048}, far...)
	noCosts   = append([]int{0, -1, -2, -1000, 1001, 1002, 1024, 2000}, far...)
	numbers   = []uint32{0, 1, 2, 3, 255, 256, 257, 1<<16 - 1, 1 << 16, 1<<24 + 1, 1<<31 - 1, 1 << 31, 1<<31 + 1, math.MaxUint32 - 1, math.MaxUint32}
)

func example() api.Record {
	return api.Record{Origin: 1, Epoch: 1, Seq: 2, Claim: 258, Ingress: true, Adjs: []api.Adj{{To: 2, Cost: 5}}}
}

// adjs reads neighbours as "1/7 3/1".
func adjs(text string) []api.Adj {
	var l []api.Adj
	for _, s := range strings.Fields(text) {
		var a api.Adj
		fmt.Sscanf(s, "%d/%d", &a.To, &a.Cost)
		l = append(l, a)
	}
	return l
}

// others has so many neighbours of a router, from the least one on, and costs from the least to the greatest.
func others(origin, count int) []api.Adj {
	var l []api.Adj
	for to := 1; len(l) < count; to++ {
		if to != origin {
			l = append(l, api.Adj{To: to, Cost: 1 + len(l)*999/max(count-1, 1)})
		}
	}
	return l
}

// lastOnes has the greatest routers but that one as its neighbours.
func lastOnes(origin, count int) []api.Adj {
	var l []api.Adj
	for to := 24; len(l) < count; to-- {
		if to != origin {
			l = append(l, api.Adj{To: to, Cost: 1000 - len(l)})
		}
	}
	slices.Reverse(l)
	return l
}

// bases have no neighbour, one, several, as many as may be; an Ingress and none; a Claim and none.
func bases() []api.Record {
	return []api.Record{
		example(),
		{Origin: 1, Epoch: 1, Seq: 1},
		{Origin: 24, Epoch: math.MaxUint32, Seq: math.MaxUint32, Claim: 1024, Ingress: true, Adjs: lastOnes(24, 16)},
		{Origin: 12, Epoch: 0x01020304, Seq: 0x05060708, Claim: 1, Adjs: others(12, 16)},
		{Origin: 7, Epoch: 3, Seq: 9, Ingress: true, Adjs: adjs("1/1 6/1000 8/256 24/255")},
		{Origin: 2, Epoch: 2, Seq: 1, Claim: 255, Adjs: adjs("1/7 3/1")},
		{Origin: 3, Epoch: 1, Seq: 300, Claim: 256, Adjs: []api.Adj{}},
	}
}

func turned(r api.Record, turn func(r *api.Record)) api.Record {
	r.Adjs = slices.Clone(r.Adjs)
	turn(&r)
	return r
}

// records may be: each field at its least, its greatest and between.
func records() []api.Record {
	l := bases()
	add := func(turn func(r *api.Record)) {
		for _, r := range bases() {
			if r = turned(r, turn); mayBe(r) {
				l = append(l, r)
			}
		}
	}
	for n := 1; n <= 24; n++ {
		add(func(r *api.Record) { r.Origin = n })
		add(func(r *api.Record) { r.Origin, r.Adjs = n, nil })
	}
	for _, n := range numbers {
		add(func(r *api.Record) { r.Epoch = n })
		add(func(r *api.Record) { r.Seq = n })
	}
	for _, n := range []int{0, 1, 2, 127, 128, 255, 256, 257, 511, 512, 1023, 1024} {
		add(func(r *api.Record) { r.Claim = n })
	}
	add(func(r *api.Record) { r.Ingress = !r.Ingress })
	for n := range 17 {
		add(func(r *api.Record) { r.Adjs = others(r.Origin, n) })
		add(func(r *api.Record) { r.Adjs = lastOnes(r.Origin, n) })
	}
	for to := 1; to <= 24; to++ {
		for _, cost := range []int{1, 2, 255, 256, 257, 999, 1000} {
			add(func(r *api.Record) { r.Adjs = []api.Adj{{To: to, Cost: cost}} })
		}
	}
	return l
}

// noRecords may not be: one thing is wrong with each of them, and then all at once.
func noRecords() []api.Record {
	l := []api.Record{{}, {Origin: 25, Claim: 1025, Ingress: true, Adjs: make([]api.Adj, 17)}}
	add := func(turn func(r *api.Record)) {
		for _, r := range bases() {
			l = append(l, turned(r, turn))
		}
	}
	for _, n := range noRouters {
		add(func(r *api.Record) { r.Origin = n })
		add(func(r *api.Record) { r.Adjs = []api.Adj{{To: n, Cost: 5}} })
	}
	add(func(r *api.Record) { r.Epoch = 0 })
	add(func(r *api.Record) { r.Seq = 0 })
	for _, n := range noClaims {
		add(func(r *api.Record) { r.Claim = n })
	}
	for _, r := range bases() {
		for i := range r.Adjs {
			for _, n := range noRouters {
				l = append(l, turned(r, func(r *api.Record) { r.Adjs[i].To = n }))
			}
			for _, n := range noCosts {
				l = append(l, turned(r, func(r *api.Record) { r.Adjs[i].Cost = n }))
			}
		}
	}
	return append(l, noAdjs()...)
}

// noAdjs do not rise, come twice, name the Origin, or are too many.
func noAdjs() []api.Record {
	var l []api.Record
	add := func(r api.Record, list []api.Adj) {
		r.Adjs = list
		l = append(l, r)
	}
	for _, r := range bases() {
		for count := 1; count <= 16; count++ {
			good := others(r.Origin, count)
			for i := range good {
				named := slices.Clone(good)
				named[i].To = r.Origin
				add(r, named)
			}
			for i := range good[1:] {
				fell, twice, same := slices.Clone(good), slices.Clone(good), slices.Clone(good)
				fell[i], fell[i+1] = fell[i+1], fell[i]
				twice[i+1].To = twice[i].To
				same[i+1] = same[i]
				add(r, fell)
				add(r, twice)
				add(r, same)
			}
		}
		for _, count := range []int{17, 18, 23} {
			add(r, others(r.Origin, count))
			add(r, lastOnes(r.Origin, count))
		}
		// Counts that are like one that may be in their lowest bits.
		for _, count := range []int{24, 256, 257, 272, 1 << 16} {
			add(r, make([]api.Adj, count))
			add(r, slices.Repeat(adjs("22/1"), count))
		}
		// The neighbour that is the Origin stands where it would rise.
		if r.Origin <= 16 {
			add(r, others(25, r.Origin))
		}
		add(r, []api.Adj{{To: r.Origin, Cost: 1}})
	}
	return l
}

// mayBe is the document's words, one by one.
func mayBe(r api.Record) bool {
	if !(r.Origin >= 1 && r.Origin <= 24) || r.Epoch == 0 || r.Seq == 0 || len(r.Adjs) > 16 {
		return false
	}
	if r.Claim != 0 && !(r.Claim >= 1 && r.Claim <= 1024) {
		return false
	}
	for i, a := range r.Adjs {
		if !(a.To >= 1 && a.To <= 24) || a.To == r.Origin || !(a.Cost >= 1 && a.Cost <= 1000) {
			return false
		}
		for _, b := range r.Adjs[:i] {
			if b.To >= a.To {
				return false
			}
		}
	}
	return true
}

// laid is a record's bytes, by Go's library. It lays the lowest bits of numbers that may not be.
func laid(r api.Record) string {
	out := []byte(laidStamp(api.Stamp{Origin: r.Origin, Epoch: r.Epoch, Seq: r.Seq}))
	out = binary.BigEndian.AppendUint16(out, uint16(r.Claim))
	if r.Ingress {
		out = append(out, 1)
	} else {
		out = append(out, 0)
	}
	out = append(out, byte(len(r.Adjs)))
	for _, a := range r.Adjs {
		out = append(out, byte(a.To))
		out = binary.BigEndian.AppendUint16(out, uint16(a.Cost))
	}
	return string(out)
}

func laidStamp(s api.Stamp) string {
	out := []byte{byte(s.Origin)}
	out = binary.BigEndian.AppendUint32(out, s.Epoch)
	out = binary.BigEndian.AppendUint32(out, s.Seq)
	return string(out)
}

// told is the record whose bytes they are, and whether they are any that may be's.
func told(s string) (api.Record, bool) {
	b := []byte(s)
	if len(b) < adjsAt || len(b) != adjsAt+3*int(b[countAt]) || b[ingressAt] > 1 {
		return api.Record{}, false
	}
	r := api.Record{Origin: int(b[0]), Epoch: binary.BigEndian.Uint32(b[1:]), Seq: binary.BigEndian.Uint32(b[5:])}
	r.Claim = int(binary.BigEndian.Uint16(b[claimAt:]))
	r.Ingress = b[ingressAt] == 1
	for at := adjsAt; at < len(b); at += 3 {
		r.Adjs = append(r.Adjs, api.Adj{To: int(b[at]), Cost: int(binary.BigEndian.Uint16(b[at+1:]))})
	}
	if !mayBe(r) {
		return api.Record{}, false
	}
	return r, true
}

// like holds records against each other without the package that is tested; an empty list is like none.
func like(a, b api.Record) bool {
	if len(a.Adjs) == 0 {
		a.Adjs = nil
	}
	if len(b.Adjs) == 0 {
		b.Adjs = nil
	}
	return reflect.DeepEqual(a, b)
}

func isNothing(r api.Record) bool { return like(r, api.Record{}) }

// P8.1

func TestCheck(t *testing.T) {
	for _, r := range records() {
		if e := record.Check(r); e != api.OK {
			t.Errorf("Check(%v) = %d", r, e)
		}
	}
}

func TestCheckRefuses(t *testing.T) {
	for _, r := range noRecords() {
		if e := record.Check(r); e != api.ErrArg {
			t.Errorf("Check(%v) = %d", r, e)
		}
	}
}

func TestCheckAtTheEdges(t *testing.T) {
	for _, x := range []struct {
		what string
		turn func(r *api.Record)
		want api.Errno
	}{
		{"Origin 0", func(r *api.Record) { r.Origin = 0 }, api.ErrArg},
		{"Origin 1", func(r *api.Record) { r.Origin = 1 }, api.OK},
		{"Origin 24", func(r *api.Record) { r.Origin = 24 }, api.OK},
		{"Origin 25", func(r *api.Record) { r.Origin = 25 }, api.ErrArg},
		{"Epoch 0", func(r *api.Record) { r.Epoch = 0 }, api.ErrArg},
		{"Epoch 1", func(r *api.Record) { r.Epoch = 1 }, api.OK},
		{"the greatest Epoch", func(r *api.Record) { r.Epoch = math.MaxUint32 }, api.OK},
		{"Seq 0", func(r *api.Record) { r.Seq = 0 }, api.ErrArg},
		{"Seq 1", func(r *api.Record) { r.Seq = 1 }, api.OK},
		{"the greatest Seq", func(r *api.Record) { r.Seq = math.MaxUint32 }, api.OK},
		{"Claim -1", func(r *api.Record) { r.Claim = -1 }, api.ErrArg},
		{"Claim 0", func(r *api.Record) { r.Claim = 0 }, api.OK},
		{"Claim 1", func(r *api.Record) { r.Claim = 1 }, api.OK},
		{"Claim 1024", func(r *api.Record) { r.Claim = 1024 }, api.OK},
		{"Claim 1025", func(r *api.Record) { r.Claim = 1025 }, api.ErrArg},
		{"no Ingress", func(r *api.Record) { r.Ingress = false }, api.OK},
		{"no Adjs", func(r *api.Record) { r.Adjs = nil }, api.OK},
		{"an empty list", func(r *api.Record) { r.Adjs = []api.Adj{} }, api.OK},
		{"Adjs 3/1 2/1", func(r *api.Record) { r.Adjs = adjs("3/1 2/1") }, api.ErrArg},
		{"Adjs 2/1 3/1", func(r *api.Record) { r.Adjs = adjs("2/1 3/1") }, api.OK},
		{"Adjs 2/1 2/2", func(r *api.Record) { r.Adjs = adjs("2/1 2/2") }, api.ErrArg},
		{"Adjs 0/1", func(r *api.Record) { r.Adjs = adjs("0/1") }, api.ErrArg},
		{"Adjs 24/1", func(r *api.Record) { r.Adjs = adjs("24/1") }, api.OK},
		{"Adjs 25/1", func(r *api.Record) { r.Adjs = adjs("25/1") }, api.ErrArg},
		{"Adjs 2/0", func(r *api.Record) { r.Adjs = adjs("2/0") }, api.ErrArg},
		{"Adjs 2/1", func(r *api.Record) { r.Adjs = adjs("2/1") }, api.OK},
		{"Adjs 2/1000", func(r *api.Record) { r.Adjs = adjs("2/1000") }, api.OK},
		{"Adjs 2/1001", func(r *api.Record) { r.Adjs = adjs("2/1001") }, api.ErrArg},
		{"16 Adjs", func(r *api.Record) { r.Adjs = others(r.Origin, 16) }, api.OK},
		{"17 Adjs", func(r *api.Record) { r.Adjs = others(r.Origin, 17) }, api.ErrArg},
		{"the Origin itself", func(r *api.Record) { r.Adjs = adjs("1/1") }, api.ErrArg},
		{"the Origin among others", func(r *api.Record) { r.Origin, r.Adjs = 5, adjs("4/1 5/1 6/1") }, api.ErrArg},
	} {
		if e := record.Check(turned(example(), x.turn)); e != x.want {
			t.Errorf("%s: Check = %d", x.what, e)
		}
	}
}

func TestCheckOfAllSmallNumbers(t *testing.T) {
	for n := -1100; n <= 1100; n++ {
		for i, turn := range []func(r *api.Record){
			func(r *api.Record) { r.Origin = n },
			func(r *api.Record) { r.Claim = n },
			func(r *api.Record) { r.Adjs = []api.Adj{{To: n, Cost: 5}} },
			func(r *api.Record) { r.Adjs = []api.Adj{{To: 2, Cost: n}} },
			func(r *api.Record) { r.Adjs = []api.Adj{{To: 2, Cost: 1}, {To: n, Cost: 5}} },
			func(r *api.Record) { r.Adjs = []api.Adj{{To: 9, Cost: 1}, {To: 11, Cost: n}} },
		} {
			r := turned(example(), turn)
			want := api.ErrArg
			if mayBe(r) {
				want = api.OK
			}
			if e := record.Check(r); e != want {
				t.Errorf("turn %d, %d: Check = %d", i, n, e)
			}
		}
	}
}

func TestStamp(t *testing.T) {
	for _, r := range append(records(), noRecords()...) {
		want := api.Stamp{Origin: r.Origin, Epoch: r.Epoch, Seq: r.Seq}
		if s := record.Stamp(r); s != want {
			t.Errorf("Stamp(%v) = %v", r, s)
		}
	}
	for _, origin := range append(slices.Clone(far), 0, -1, 25) {
		r := api.Record{Origin: origin, Seq: 7}
		if s := record.Stamp(r); s != (api.Stamp{Origin: origin, Seq: 7}) {
			t.Errorf("Stamp(%v) = %v", r, s)
		}
	}
}

// P8.2

// stamps are any stamps: such as may not be among them.
func stamps() []api.Stamp {
	var l []api.Stamp
	for _, epoch := range numbers {
		for _, seq := range numbers {
			l = append(l, api.Stamp{Origin: 1 + len(l)%24, Epoch: epoch, Seq: seq})
		}
	}
	return l
}

// rank is a number that is greater for what is newer.
func rank(s api.Stamp) uint64 { return uint64(s.Epoch)<<32 | uint64(s.Seq) }

func TestNewerOfTheExamples(t *testing.T) {
	for _, x := range []struct {
		a, b api.Stamp
		want int
	}{
		{api.Stamp{Origin: 1, Epoch: 1, Seq: 9}, api.Stamp{Origin: 1, Epoch: 2, Seq: 1}, -1},
		{api.Stamp{Origin: 1, Epoch: 1, Seq: 9}, api.Stamp{Origin: 1, Epoch: 1, Seq: 9}, 0},
		{api.Stamp{Origin: 1, Epoch: 2, Seq: 3}, api.Stamp{Origin: 1, Epoch: 2, Seq: 2}, 1},
		{api.Stamp{}, api.Stamp{}, 0},
		{api.Stamp{Epoch: math.MaxUint32}, api.Stamp{Seq: math.MaxUint32}, 1},
		{api.Stamp{Epoch: 1}, api.Stamp{Epoch: math.MaxUint32}, -1},
		{api.Stamp{Seq: 0}, api.Stamp{Seq: 1 << 31}, -1},
		{api.Stamp{Seq: math.MaxUint32}, api.Stamp{Seq: 0}, 1},
	} {
		if n := record.Newer(x.a, x.b); n != x.want {
			t.Errorf("Newer(%v, %v) = %d", x.a, x.b, n)
		}
	}
}

func TestNewer(t *testing.T) {
	for _, a := range stamps() {
		for _, b := range stamps() {
			want := 0
			if rank(a) < rank(b) {
				want = -1
			}
			if rank(a) > rank(b) {
				want = 1
			}
			if n := record.Newer(a, b); n != want {
				t.Fatalf("Newer(%v, %v) = %d", a, b, n)
			}
		}
	}
}

func TestNewerWhateverTheOrigins(t *testing.T) {
	origins := append([]int{1, 2, 24}, noRouters...)
	for _, x := range []struct {
		a, b api.Stamp
		want int
	}{
		{api.Stamp{Epoch: 2, Seq: 2}, api.Stamp{Epoch: 2, Seq: 2}, 0},
		{api.Stamp{Epoch: 2, Seq: 2}, api.Stamp{Epoch: 2, Seq: 3}, -1},
		{api.Stamp{Epoch: 2, Seq: 2}, api.Stamp{Epoch: 1, Seq: 3}, 1},
	} {
		for _, m := range origins {
			for _, n := range origins {
				x.a.Origin, x.b.Origin = m, n
				if got := record.Newer(x.a, x.b); got != x.want {
					t.Errorf("Newer(%v, %v) = %d", x.a, x.b, got)
				}
			}
		}
	}
}

func TestSame(t *testing.T) {
	var l []api.Record
	for i, r := range append(records(), noRecords()...) {
		if !record.Same(r, turned(r, func(*api.Record) {})) {
			t.Errorf("Same(%v) of its like: false", r)
		}
		if i%5 == 0 {
			l = append(l, r)
		}
	}
	for _, a := range l {
		for _, b := range l {
			if got := record.Same(a, b); got != like(a, b) {
				t.Fatalf("Same(%v, %v) = %t", a, b, got)
			}
		}
	}
}

func TestSameAsksForEachField(t *testing.T) {
	for _, base := range bases() {
		for i, turn := range []func(r *api.Record){
			func(r *api.Record) { r.Origin++ },
			func(r *api.Record) { r.Origin += 1 << 32 },
			func(r *api.Record) { r.Epoch++ },
			func(r *api.Record) { r.Epoch ^= 1 << 31 },
			func(r *api.Record) { r.Seq++ },
			func(r *api.Record) { r.Seq ^= 1 << 31 },
			func(r *api.Record) { r.Epoch, r.Seq = r.Epoch+1, r.Seq-1 },
			func(r *api.Record) { r.Claim++ },
			func(r *api.Record) { r.Claim -= 1 << 16 },
			func(r *api.Record) { r.Ingress = !r.Ingress },
			func(r *api.Record) { r.Adjs = append(r.Adjs, api.Adj{}) },
			func(r *api.Record) { r.Adjs = append(r.Adjs, api.Adj{To: 24, Cost: 1}) },
			func(r *api.Record) { r.Adjs = slices.Insert(r.Adjs, 0, api.Adj{To: 1, Cost: 1}) },
		} {
			r := turned(base, turn)
			if record.Same(base, r) || record.Same(r, base) {
				t.Errorf("turn %d of %v: the same", i, base)
			}
		}
		for i := range base.Adjs {
			for _, turn := range []func(r *api.Record){
				func(r *api.Record) { r.Adjs[i].To++ },
				func(r *api.Record) { r.Adjs[i].Cost-- },
				func(r *api.Record) { r.Adjs[i].Cost += 1 << 16 },
				func(r *api.Record) { r.Adjs = slices.Delete(r.Adjs, i, i+1) },
				func(r *api.Record) { r.Adjs = r.Adjs[:i] },
			} {
				r := turned(base, turn)
				if record.Same(base, r) || record.Same(r, base) {
					t.Errorf("Same(%v, %v)", base, r)
				}
			}
		}
	}
}

func TestSameOfListsInUnlikeOrders(t *testing.T) {
	a, b := example(), example()
	a.Adjs, b.Adjs = adjs("2/5 3/6"), adjs("3/6 2/5")
	if record.Same(a, b) {
		t.Error("Adjs are held against each other one by one")
	}
}

func TestSameOfEmptyLists(t *testing.T) {
	none, empty, room := example(), example(), example()
	none.Adjs, empty.Adjs, room.Adjs = nil, []api.Adj{}, adjs("2/5 3/6")[:0]
	for _, a := range []api.Record{none, empty, room} {
		for _, b := range []api.Record{none, empty, room} {
			if !record.Same(a, b) {
				t.Errorf("Same(%#v, %#v): false", a, b)
			}
		}
		if record.Same(a, example()) || record.Same(example(), a) {
			t.Errorf("Same(%#v) of one with a neighbour", a)
		}
	}
	if !record.Same(api.Record{}, api.Record{}) {
		t.Error("Same of nothing: false")
	}
}

// P8.3

func TestEncodeOfTheExample(t *testing.T) {
	if s, e := record.Encode(example()); s != exampleBytes || e != api.OK {
		t.Errorf("Encode = %x, %d", s, e)
	}
	whole := api.Record{Origin: 24, Epoch: 0x01020304, Seq: 0xfffefdfc, Claim: 1024, Adjs: adjs("1/1 7/1000 23/256")}
	want := "\x18\x01\x02\x03\x04\xff\xfe\xfd\xfc\x04\x00\x00\x03\x01\x00\x01\x07\x03\xe8\x17\x01\x00"
	if s, e := record.Encode(whole); s != want || e != api.OK {
		t.Errorf("Encode = %x, %d", s, e)
	}
	least := "\x01\x00\x00\x00\x01\x00\x00\x00\x01\x00\x00\x00\x00"
	if s, e := record.Encode(api.Record{Origin: 1, Epoch: 1, Seq: 1}); s != least || e != api.OK {
		t.Errorf("Encode = %x, %d", s, e)
	}
}

func TestEncode(t *testing.T) {
	for _, r := range records() {
		s, e := record.Encode(r)
		if s != laid(r) || e != api.OK || len(s) != 13+3*len(r.Adjs) {
			t.Errorf("Encode(%v) = %x, %d", r, s, e)
		}
	}
}

func TestEncodeRefuses(t *testing.T) {
	for _, r := range noRecords() {
		if s, e := record.Encode(r); s != "" || e != api.ErrArg {
			t.Errorf("Encode(%v) = %x, %d", r, s, e)
		}
	}
}

func TestDecode(t *testing.T) {
	if r, e := record.Decode(exampleBytes); !like(r, example()) || e != api.OK {
		t.Errorf("Decode of the example = %v, %d", r, e)
	}
	for _, r := range records() {
		if got, e := record.Decode(laid(r)); !like(got, r) || e != api.OK {
			t.Errorf("Decode of %v = %v, %d", r, got, e)
		}
	}
}

func refuse(t *testing.T, s string) {
	t.Helper()
	if r, e := record.Decode(s); !isNothing(r) || e != api.ErrForm {
		t.Errorf("Decode(%x) = %v, %d", s, r, e)
	}
}

func set(s string, at int, c byte) string {
	b := []byte(s)
	b[at] = c
	return string(b)
}

func TestDecodeRefusesTheExamples(t *testing.T) {
	refuse(t, "")
	refuse(t, exampleBytes[:len(exampleBytes)-1])
	refuse(t, exampleBytes+"\x00")
	refuse(t, set(exampleBytes, ingressAt, 2))
}

func TestDecodeRefusesEnds(t *testing.T) {
	for _, r := range bases() {
		s := laid(r)
		for n := range len(s) {
			refuse(t, s[:n])
			refuse(t, s[n+1:])
		}
		for n := 1; n <= 60; n++ {
			refuse(t, s+strings.Repeat("\x00", n))
			refuse(t, s+strings.Repeat("\xff", n))
		}
		refuse(t, s+s)
		refuse(t, s+"\x18\x00\x01")
		refuse(t, "\x00"+s)
		refuse(t, s+strings.Repeat("\x01\x00\x01", 1<<16))
	}
	for n := range 100 {
		refuse(t, strings.Repeat("\x00", n))
		refuse(t, strings.Repeat("\xff", n))
	}
	// Twelve bytes, and so no count, and yet none too early in what stands ahead.
	refuse(t, strings.Repeat("\x01", countAt))
}

func TestDecodeRefusesBytesOfNone(t *testing.T) {
	for _, r := range noRecords() {
		s := laid(r)
		// What does not go into its bytes may be like another record there.
		if got, ok := told(s); ok && like(got, r) {
			t.Fatalf("%v may be", r)
		} else if !ok {
			refuse(t, s)
		}
	}
	for _, x := range []struct {
		at   int
		part string
	}{
		{0, "\x00"}, {0, "\x19"}, {0, "\x81"}, {0, "\xff"}, {0, "\x02"}, {1, "\x00\x00\x00\x00"}, {5, "\x00\x00\x00\x00"},
		{claimAt, "\x04\x01"}, {claimAt, "\x08\x00"}, {claimAt, "\x80\x00"}, {claimAt, "\xff\xff"},
		{adjsAt, "\x00"}, {adjsAt, "\x01"}, {adjsAt, "\x19"}, {adjsAt, "\xff"},
		{adjsAt + 1, "\x00\x00"}, {adjsAt + 1, "\x03\xe9"}, {adjsAt + 1, "\x80\x05"}, {adjsAt + 1, "\xff\xff"},
	} {
		refuse(t, exampleBytes[:x.at]+x.part+exampleBytes[x.at+len(x.part):])
	}
}

func TestDecodeRefusesOtherBytesForAnIngress(t *testing.T) {
	for _, r := range bases() {
		for c := 2; c < 256; c++ {
			refuse(t, set(laid(r), ingressAt, byte(c)))
		}
		for c := range 2 {
			want := r
			want.Ingress = c == 1
			if got, e := record.Decode(set(laid(r), ingressAt, byte(c))); !like(got, want) || e != api.OK {
				t.Errorf("%d for the Ingress of %v: %v, %d", c, r, got, e)
			}
		}
	}
}

func TestDecodeRefusesCounts(t *testing.T) {
	for count := range 17 {
		r := api.Record{Origin: 20, Epoch: 1, Seq: 1, Adjs: others(20, count)}
		for c := range 256 {
			if c != count {
				refuse(t, set(laid(r), countAt, byte(c)))
			}
		}
	}
	// As many follow as the count tells, but more than may be.
	for count := 17; count < 256; count++ {
		head := laid(api.Record{Origin: 24, Epoch: 1, Seq: 1})
		rising := ""
		for i := range count {
			rising += string([]byte{byte(1 + i), 0, 1})
		}
		refuse(t, set(head, countAt, byte(count))+rising)
	}
}

func TestDecodeRefusesAdjs(t *testing.T) {
	for _, r := range noAdjs() {
		if len(r.Adjs) < 256 {
			refuse(t, laid(r))
		}
	}
}

// decodeAsModel holds Decode against the document's words.
func decodeAsModel(t *testing.T, s string) {
	t.Helper()
	want, ok := told(s)
	if !ok {
		refuse(t, s)
		return
	}
	r, e := record.Decode(s)
	if !like(r, want) || e != api.OK {
		t.Errorf("Decode(%x) = %v, %d; %v is asked for", s, r, e, want)
	}
	if again, e := record.Encode(r); again != s || e != api.OK {
		t.Errorf("Encode of Decode(%x) = %x, %d", s, again, e)
	}
}

func TestDecodeWithOneByteTurned(t *testing.T) {
	for _, r := range bases() {
		s := laid(r)
		for at := range len(s) {
			for by := 1; by < 256; by++ {
				other := set(s, at, s[at]^byte(by))
				decodeAsModel(t, other)
				if got, e := record.Decode(other); e == api.OK && like(got, r) {
					t.Fatalf("Decode(%x) = %v, as of %x", other, got, s)
				}
			}
		}
	}
}

func TestDecodeOfAllClaimsAndCosts(t *testing.T) {
	for n := range 1 << 16 {
		part := string([]byte{byte(n >> 8), byte(n)})
		decodeAsModel(t, exampleBytes[:claimAt]+part+exampleBytes[claimAt+2:])
		decodeAsModel(t, exampleBytes[:adjsAt+1]+part)
	}
}

func FuzzDecode(f *testing.F) {
	f.Add("")
	for _, r := range bases() {
		f.Add(laid(r))
	}
	f.Fuzz(decodeAsModel)
}

// P8.4

func noStamps() []api.Stamp {
	var l []api.Stamp
	for _, n := range noRouters {
		l = append(l, api.Stamp{Origin: n, Epoch: 1, Seq: 1}, api.Stamp{Origin: n, Epoch: math.MaxUint32, Seq: math.MaxUint32})
	}
	for n := 1; n <= 24; n++ {
		for _, m := range numbers {
			l = append(l, api.Stamp{Origin: n, Epoch: 0, Seq: m}, api.Stamp{Origin: n, Epoch: m, Seq: 0})
		}
	}
	return append(l, api.Stamp{})
}

// goodStamps may be: each field at its least, its greatest and between.
func goodStamps() []api.Stamp {
	var l []api.Stamp
	for n := 1; n <= 24; n++ {
		for _, epoch := range numbers[1:] {
			for _, seq := range numbers[1:] {
				l = append(l, api.Stamp{Origin: n, Epoch: epoch, Seq: seq})
			}
		}
	}
	return l
}

func TestEncodeStamp(t *testing.T) {
	if s, e := record.EncodeStamp(api.Stamp{Origin: 3, Epoch: 1, Seq: 1}); s != stampBytes || e != api.OK {
		t.Errorf("EncodeStamp(3, 1, 1) = %x, %d", s, e)
	}
	want := "\x18\x01\x02\x03\x04\xff\xfe\xfd\xfc"
	if s, e := record.EncodeStamp(api.Stamp{Origin: 24, Epoch: 0x01020304, Seq: 0xfffefdfc}); s != want || e != api.OK {
		t.Errorf("EncodeStamp = %x, %d", s, e)
	}
	for _, x := range goodStamps() {
		if s, e := record.EncodeStamp(x); s != laidStamp(x) || e != api.OK {
			t.Errorf("EncodeStamp(%v) = %x, %d", x, s, e)
		}
	}
}

func TestEncodeStampRefuses(t *testing.T) {
	for _, x := range noStamps() {
		if s, e := record.EncodeStamp(x); s != "" || e != api.ErrArg {
			t.Errorf("EncodeStamp(%v) = %x, %d", x, s, e)
		}
	}
}

func refuseStamp(t *testing.T, s string) {
	t.Helper()
	if x, e := record.DecodeStamp(s); x != (api.Stamp{}) || e != api.ErrForm {
		t.Errorf("DecodeStamp(%x) = %v, %d", s, x, e)
	}
}

func TestDecodeStamp(t *testing.T) {
	if x, e := record.DecodeStamp(stampBytes); x != (api.Stamp{Origin: 3, Epoch: 1, Seq: 1}) || e != api.OK {
		t.Errorf("DecodeStamp of the example = %v, %d", x, e)
	}
	for _, x := range goodStamps() {
		if got, e := record.DecodeStamp(laidStamp(x)); got != x || e != api.OK {
			t.Errorf("DecodeStamp of %v = %v, %d", x, got, e)
		}
	}
}

func TestDecodeStampRefuses(t *testing.T) {
	refuseStamp(t, "")
	for _, x := range goodStamps()[:200] {
		s := laidStamp(x)
		for n := range len(s) {
			refuseStamp(t, s[:n])
		}
		refuseStamp(t, s+"\x00")
		refuseStamp(t, s+"\xff")
		refuseStamp(t, s+s)
		refuseStamp(t, "\x00"+s)
	}
	for _, x := range noStamps() {
		if x.Origin >= 0 && x.Origin <= 255 {
			refuseStamp(t, laidStamp(x))
		}
	}
	// A record is no stamp, and a stamp no record.
	for _, r := range bases() {
		refuseStamp(t, laid(r))
	}
	refuse(t, stampBytes)
	refuseStamp(t, stampBytes+strings.Repeat("\x00", 1<<16))
}

// stampAsModel holds DecodeStamp against the document's words.
func stampAsModel(t *testing.T, s string) {
	t.Helper()
	if len(s) != 9 || s[0] < 1 || s[0] > 24 || s[1:5] == "\x00\x00\x00\x00" || s[5:] == "\x00\x00\x00\x00" {
		refuseStamp(t, s)
		return
	}
	want := api.Stamp{Origin: int(s[0]), Epoch: binary.BigEndian.Uint32([]byte(s[1:])), Seq: binary.BigEndian.Uint32([]byte(s[5:]))}
	x, e := record.DecodeStamp(s)
	if x != want || e != api.OK {
		t.Errorf("DecodeStamp(%x) = %v, %d", s, x, e)
	}
	if again, e := record.EncodeStamp(x); again != s || e != api.OK {
		t.Errorf("EncodeStamp of DecodeStamp(%x) = %x, %d", s, again, e)
	}
}

func TestDecodeStampWithOneByteTurned(t *testing.T) {
	for _, s := range []string{stampBytes, "\x18\xff\xff\xff\xff\xff\xff\xff\xff", "\x01\x00\x00\x01\x00\x80\x00\x00\x00"} {
		for at := range len(s) {
			for c := range 256 {
				stampAsModel(t, set(s, at, byte(c)))
			}
		}
	}
}

func FuzzDecodeStamp(f *testing.F) {
	f.Add("")
	f.Add(stampBytes)
	f.Add(exampleBytes)
	f.Fuzz(stampAsModel)
}

// P8.5

// mixedBytes are bytes of one length from a fixed rule; of every second one, the fields are brought to such as may be.
func mixedBytes(count, adjs int) []string {
	var l []string
	x := uint32(adjs)*2 + 1
	for i := range count {
		b := make([]byte, adjsAt+3*adjs)
		for k := range b {
			x = x*1664525 + 1013904223
			b[k] = byte(x >> 24)
		}
		b[ingressAt], b[countAt] = b[ingressAt]%3, byte(adjs)
		if i%2 == 0 {
			b[0], b[claimAt], b[ingressAt] = 18+b[0]%7, b[claimAt]%4, b[ingressAt]%2
			for k := range adjs {
				at := adjsAt + 3*k
				b[at], b[at+1], b[at+2] = byte(k+1), b[at+1]%3, b[at+2]|1
			}
		}
		l = append(l, string(b))
	}
	return l
}

func TestBytesThereAndBack(t *testing.T) {
	for adjs := range 17 {
		taken := 0
		for _, s := range mixedBytes(500, adjs) {
			decodeAsModel(t, s)
			if _, e := record.Decode(s); e == api.OK {
				taken++
			}
		}
		if taken < 250 {
			t.Errorf("%d Adjs: Decode took %d of the bytes", adjs, taken)
		}
	}
}

func TestThereAndBack(t *testing.T) {
	for _, r := range records() {
		s, e := record.Encode(r)
		if e != api.OK {
			t.Fatalf("Encode(%v): %d", r, e)
		}
		got, e := record.Decode(s)
		if !like(got, r) || !record.Same(got, r) || e != api.OK {
			t.Errorf("Decode of Encode(%v) = %v, %d", r, got, e)
		}
		st, e := record.EncodeStamp(record.Stamp(r))
		if e != api.OK || st != s[:9] {
			t.Errorf("EncodeStamp of Stamp(%v) = %x, %d", r, st, e)
		}
		if x, e := record.DecodeStamp(st); x != record.Stamp(r) || e != api.OK {
			t.Errorf("DecodeStamp of EncodeStamp of Stamp(%v) = %v, %d", r, x, e)
		}
	}
}

func TestNoBytesBeginOthers(t *testing.T) {
	l := records()
	var bytes []string
	for _, r := range l {
		s, _ := record.Encode(r)
		bytes = append(bytes, s)
	}
	for i, a := range bytes {
		for k, b := range bytes {
			if strings.HasPrefix(b, a) && !like(l[i], l[k]) {
				t.Fatalf("%x of %v begins %x of %v", a, l[i], b, l[k])
			}
		}
	}
	// With more neighbours behind the same ones.
	for count := range 16 {
		a := api.Record{Origin: 24, Epoch: 1, Seq: 1, Adjs: others(24, 16)[:count]}
		b := api.Record{Origin: 24, Epoch: 1, Seq: 1, Adjs: others(24, 16)[:count+1]}
		s, e := record.Encode(a)
		u, f := record.Encode(b)
		if e != api.OK || f != api.OK || strings.HasPrefix(u, s) {
			t.Errorf("%x begins %x", s, u)
		}
	}
}

func TestNewerIsAnOrder(t *testing.T) {
	l := stamps()
	for _, a := range l {
		for _, b := range l {
			if record.Newer(a, b) != -record.Newer(b, a) {
				t.Fatalf("Newer(%v, %v) turned about is not turned", a, b)
			}
		}
	}
	for i := 0; i < len(l); i += 3 {
		for k := 1; k < len(l); k += 2 {
			for m := 0; m < len(l); m += 4 {
				a, b, c := l[i], l[k], l[m]
				if record.Newer(a, b) >= 0 && record.Newer(b, c) >= 0 && record.Newer(a, c) != max(record.Newer(a, b), record.Newer(b, c)) {
					t.Fatalf("Newer over %v, %v, %v", a, b, c)
				}
			}
		}
	}
}

// R5

func TestWhatIsHandedInStays(t *testing.T) {
	for _, base := range append(bases(), noRecords()[:200]...) {
		room := append(slices.Clone(base.Adjs), adjs("9/9 8/8 7/7")...)
		was := slices.Clone(room)
		r := base
		r.Adjs = room[:len(base.Adjs)]
		record.Check(r)
		record.Stamp(r)
		record.Same(r, base)
		record.Same(base, r)
		record.Encode(r)
		if !slices.Equal(room, was) {
			t.Errorf("%v with the room behind it became %v", was, room)
		}
	}
}

func TestBytesStayWhenTheRecordChanges(t *testing.T) {
	r := bases()[2]
	s, _ := record.Encode(r)
	was := strings.Clone(s)
	for i := range r.Adjs {
		r.Adjs[i] = api.Adj{To: 1, Cost: 1}
	}
	if s != was {
		t.Error("the bytes hang on the list that was handed in")
	}
}

func TestWhatIsAnsweredIsNew(t *testing.T) {
	for _, base := range bases() {
		s := laid(base)
		a, _ := record.Decode(s)
		b, _ := record.Decode(s)
		for i := range a.Adjs {
			a.Adjs[i] = api.Adj{To: -1, Cost: -1}
		}
		if room := a.Adjs[:cap(a.Adjs)]; len(room) > 0 {
			room[len(room)-1] = api.Adj{To: -2, Cost: -2}
		}
		c, _ := record.Decode(s)
		if !like(b, base) || !like(c, base) || s != laid(base) {
			t.Errorf("what Decode answers for %v shares its list: %v, %v", base, b, c)
		}
	}
}

// R6

func TestCallsHangOnTheirArgumentsAlone(t *testing.T) {
	for _, r := range records() {
		record.Encode(bases()[2])
		a, e := record.Encode(r)
		record.Decode(laid(bases()[3]))
		record.EncodeStamp(api.Stamp{Origin: 9, Epoch: 9, Seq: 9})
		b, f := record.Encode(r)
		if a != b || e != f {
			t.Errorf("Encode(%v) = %x, %d, then %x, %d", r, a, e, b, f)
		}
	}
}
