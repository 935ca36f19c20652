package flood_test

import (
	"fmt"
	"math"
	"slices"
	"strings"
	"testing"

	"dandelion/api"
	"dandelion/flood"
)

const (
	maxTick = 1 << 40
	topSeq  = math.MaxUint32
)

// far are numbers far from all that may be, such as are like one that may in their lowest bits among them.
var far = []int{
	math.MinInt, math.MinInt + 1, math.MinInt + 24, math.MinInt32, math.MinInt32 + 1, math.MaxInt32, math.MaxInt - 1, math.MaxInt,
	1<<8 + 1, 1<<8 + 2, 1<<8 + 24, 1<<16 + 1, 1<<16 + 2, 1<<16 + 24, 1 << 32, 1<<32 + 1, 1<<32 + 2, 1<<32 + 24,
	1 - 1<<8, 2 - 1<<8, 24 - 1<<8, 1 - 1<<16, 2 - 1<<16, -1 << 32, 1 - 1<<32, 2 - 1<<32, 24 - 1<<32, 1<<61 + 1, 1 << 62, 1<<62 + 2,
}

var noRouters = append([]int{0, -1, -2, -3, -24, -25, 25, 26, 27, 32, 48, 64, 255, 256}, far...)

var noTicks = []uint64{maxTick + 1, maxTick + 2, maxTick + 64, 1<<41 - 1, 1 << 41, 3 << 40, 1<<62 + 5, 1 << 63, 1<<63 + 5, math.MaxUint64 - 1, math.MaxUint64}

// call is one call of a flood, as words tell it.
type call struct {
	what string
	port int
	r    api.Record // of Take; its stamp is that of Ack; its Claim, Ingress and Adjs are those of Own
	now  uint64
}

// answer of a call; what a kind of call does not answer is a zero value.
type answer struct {
	changed bool
	told    []api.Send
	e       api.Errno
}

// rec reads "5.1.2", and a claim behind it as "5.1.2/7".
func rec(text string) api.Record {
	var r api.Record
	stamp, claim, _ := strings.Cut(text, "/")
	fmt.Sscanf(stamp, "%d.%d.%d", &r.Origin, &r.Epoch, &r.Seq)
	fmt.Sscanf(claim, "%d", &r.Claim)
	return r
}

func recs(text string) []api.Record {
	var l []api.Record
	for _, s := range strings.Fields(text) {
		l = append(l, rec(s))
	}
	return l
}

func stampOf(r api.Record) api.Stamp {
	return api.Stamp{Origin: r.Origin, Epoch: r.Epoch, Seq: r.Seq}
}

// told reads "2:1.1.1 3:1.1.1".
func told(text string) []api.Send {
	var l []api.Send
	for _, s := range strings.Fields(text) {
		port, r, _ := strings.Cut(s, ":")
		x := api.Send{Record: rec(r)}
		fmt.Sscanf(port, "%d", &x.To)
		l = append(l, x)
	}
	return l
}

// calls reads "own 7 @0, up 2 @0, take 2 5.1.1 @6, ack 2 5.1.1, tick @9, down 2".
func calls(text string) []call {
	var l []call
	for _, s := range strings.Split(text, ",") {
		w := strings.Fields(s)
		if len(w) == 0 {
			continue
		}
		c := call{what: w[0]}
		if last := w[len(w)-1]; last[0] == '@' {
			fmt.Sscanf(last, "@%d", &c.now)
			w = w[:len(w)-1]
		}
		switch {
		case c.what == "own":
			fmt.Sscanf(w[1], "%d", &c.r.Claim)
		case len(w) > 1:
			fmt.Sscanf(w[1], "%d", &c.port)
		}
		if len(w) > 2 && c.what != "own" {
			c.r = rec(w[2])
		}
		l = append(l, c)
	}
	return l
}

func clonedOne(r api.Record) api.Record {
	r.Adjs = slices.Clone(r.Adjs)
	return r
}

// like holds records against each other; an empty list is like none.
func like(a, b api.Record) bool {
	return stampOf(a) == stampOf(b) && a.Claim == b.Claim && a.Ingress == b.Ingress && slices.Equal(a.Adjs, b.Adjs)
}

func alike(a, b []api.Record) bool { return slices.EqualFunc(a, b, like) }

func likeTold(a, b []api.Send) bool {
	return slices.EqualFunc(a, b, func(x, y api.Send) bool { return x.To == y.To && like(x.Record, y.Record) })
}

func likeAnswer(a, b answer) bool {
	return a.changed == b.changed && likeTold(a.told, b.told) && a.e == b.e
}

func do(f *flood.Flood, c call) answer {
	var a answer
	switch c.what {
	case "up":
		a.told, a.e = f.Up(c.port, c.now)
	case "down":
		a.e = f.Down(c.port)
	case "own":
		a.told, a.e = f.Own(c.r.Claim, c.r.Ingress, c.r.Adjs, c.now)
	case "take":
		a.changed, a.told, a.e = f.Take(c.port, c.r, c.now)
	case "ack":
		a.e = f.Ack(c.port, stampOf(c.r))
	case "tick":
		a.told, a.e = f.Tick(c.now)
	}
	return a
}

// owing is an Origin that is owed to a port.
type owing struct {
	port, origin int
	at           uint64
}

// model has all in lists without an order, and looks through the whole of them each time.
type model struct {
	self  int
	epoch uint32
	again int
	last  uint64
	has   []api.Record
	ports []int
	owed  []owing
}

func (m *model) copied() *model {
	c := *m
	c.has, c.ports, c.owed = slices.Clone(m.has), slices.Clone(m.ports), slices.Clone(m.owed)
	return &c
}

func (m *model) get(origin int) (api.Record, bool) {
	for _, r := range m.has {
		if r.Origin == origin {
			return r, true
		}
	}
	return api.Record{}, false
}

func (m *model) put(r api.Record) {
	m.has = slices.DeleteFunc(m.has, func(x api.Record) bool { return x.Origin == r.Origin })
	m.has = append(m.has, clonedOne(r))
}

func (m *model) all() []api.Record {
	var l []api.Record
	for n := 1; n <= 24; n++ {
		if r, ok := m.get(n); ok {
			l = append(l, r)
		}
	}
	return l
}

func (m *model) forget(port, origin int) {
	m.owed = slices.DeleteFunc(m.owed, func(o owing) bool { return o.port == port && o.origin == origin })
}

func (m *model) owe(port, origin int, now uint64) api.Send {
	m.forget(port, origin)
	m.owed = append(m.owed, owing{port, origin, now})
	r, _ := m.get(origin)
	return api.Send{To: port, Record: r}
}

func (m *model) oweAllBut(from, origin int, now uint64) []api.Send {
	var l []api.Send
	for n := 1; n <= 24; n++ {
		if slices.Contains(m.ports, n) && n != from {
			l = append(l, m.owe(n, origin, now))
		}
	}
	return l
}

func (m *model) other(n int) bool { return 1 <= n && n <= 24 && n != m.self }

func (m *model) tick(now uint64) bool { return now <= maxTick && now >= m.last }

func recordMayBe(r api.Record) bool {
	if r.Origin < 1 || r.Origin > 24 || r.Epoch == 0 || r.Seq == 0 || r.Claim < 0 || r.Claim > 1024 || len(r.Adjs) > 16 {
		return false
	}
	for i, a := range r.Adjs {
		if a.To < 1 || a.To > 24 || a.To == r.Origin || a.Cost < 1 || a.Cost > 1000 || i > 0 && a.To <= r.Adjs[i-1].To {
			return false
		}
	}
	return true
}

func refused(e api.Errno) answer { return answer{e: e} }

func (m *model) do(c call) answer {
	up := slices.Contains(m.ports, c.port)
	switch c.what {
	case "up":
		if !m.other(c.port) || !m.tick(c.now) {
			return refused(api.ErrArg)
		}
		if up {
			return refused(api.ErrBusy)
		}
		m.last, m.ports = c.now, append(m.ports, c.port)
		var a answer
		for _, r := range m.all() {
			a.told = append(a.told, m.owe(c.port, r.Origin, c.now))
		}
		return a
	case "down":
		if !m.other(c.port) {
			return refused(api.ErrArg)
		}
		if !up {
			return refused(api.ErrNone)
		}
		m.ports = slices.DeleteFunc(m.ports, func(n int) bool { return n == c.port })
		m.owed = slices.DeleteFunc(m.owed, func(o owing) bool { return o.port == c.port })
	case "own":
		return m.own(c)
	case "take":
		if !m.other(c.port) || !recordMayBe(c.r) || !m.tick(c.now) {
			return refused(api.ErrArg)
		}
		if !up {
			return refused(api.ErrDown)
		}
		m.last = c.now
		return m.take(c.port, c.r, c.now)
	case "ack":
		s := stampOf(c.r)
		if !m.other(c.port) || s.Origin < 1 || s.Origin > 24 || s.Epoch < 1 || s.Seq < 1 {
			return refused(api.ErrArg)
		}
		if !up {
			return refused(api.ErrDown)
		}
		if r, ok := m.get(s.Origin); ok && stampOf(r) == s {
			m.forget(c.port, s.Origin)
		}
	case "tick":
		if !m.tick(c.now) {
			return refused(api.ErrArg)
		}
		m.last = c.now
		return m.tellAgain(c.now)
	}
	return answer{}
}

func (m *model) own(c call) answer {
	was, _ := m.get(m.self)
	r := api.Record{Origin: m.self, Epoch: m.epoch, Seq: 1, Claim: c.r.Claim, Ingress: c.r.Ingress, Adjs: c.r.Adjs}
	if !m.tick(c.now) || !recordMayBe(r) {
		return refused(api.ErrArg)
	}
	seq := uint64(was.Seq) + 1
	if seq > 1<<32-1 {
		return refused(api.ErrFull)
	}
	r.Seq = uint32(seq)
	m.last = c.now
	m.put(r)
	return answer{told: m.oweAllBut(0, m.self, c.now)}
}

// age is greater for the newer one of two stamps.
func age(r api.Record) uint64 { return uint64(r.Epoch)<<32 | uint64(r.Seq) }

func (m *model) take(from int, r api.Record, now uint64) answer {
	have, ok := m.get(r.Origin)
	if ok && age(have) == age(r) {
		m.forget(from, r.Origin)
		return answer{}
	}
	if ok && age(have) > age(r) {
		return answer{told: []api.Send{m.owe(from, r.Origin, now)}}
	}
	if r.Origin != m.self {
		m.put(r)
		m.forget(from, r.Origin)
		return answer{changed: true, told: m.oweAllBut(from, r.Origin, now)}
	}
	if !ok {
		return answer{}
	}
	if have.Epoch == r.Epoch && r.Seq < 1<<32-1 {
		have.Seq = r.Seq + 1
		m.put(have)
		return answer{changed: true, told: m.oweAllBut(0, m.self, now)}
	}
	return answer{told: []api.Send{m.owe(from, m.self, now)}}
}

func (m *model) tellAgain(now uint64) answer {
	var a answer
	l := slices.Clone(m.owed)
	slices.SortFunc(l, func(x, y owing) int { return (x.port-y.port)*100 + x.origin - y.origin })
	for _, o := range l {
		if o.at+uint64(m.again) <= now {
			a.told = append(a.told, m.owe(o.port, o.origin, now))
		}
	}
	return a
}

func made(t *testing.T, self int, epoch uint32, again int, l ...call) (*flood.Flood, *model) {
	t.Helper()
	f, e := flood.New(self, epoch, again)
	if f == nil || e != api.OK {
		t.Fatalf("New(%d, %d, %d) = %v, %d", self, epoch, again, f, e)
	}
	m := &model{self: self, epoch: epoch, again: again}
	run(t, f, m, l...)
	return f, m
}

// run does all calls to both, and holds their answers, All and Pending against each other.
func run(t *testing.T, f *flood.Flood, m *model, l ...call) {
	t.Helper()
	for _, c := range l {
		before := m.copied()
		want := m.do(c)
		if got := do(f, c); !likeAnswer(got, want) {
			t.Fatalf("%v with %+v = %v; it should be %v", c, *before, got, want)
		}
		if have := f.All(); !alike(have, m.all()) {
			t.Fatalf("%v with %+v: All = %v; it should be %v", c, *before, have, m.all())
		}
		if n := f.Pending(); n != len(m.owed) {
			t.Fatalf("%v with %+v: Pending = %d; it should be %d", c, *before, n, len(m.owed))
		}
	}
}

// wantState looks, by copies, at all that later calls could tell: who is up, which ticks may be, what is owed and when it was told.
func wantState(t *testing.T, f *flood.Flood, m *model) {
	t.Helper()
	run(t, f.Copy(), m.copied(), call{what: "tick", now: m.last})
	if m.last > 0 {
		run(t, f.Copy(), m.copied(), call{what: "tick", now: m.last - 1})
	}
	ats := map[uint64]bool{}
	for _, o := range m.owed {
		ats[o.at] = true
	}
	for at := range ats {
		for _, now := range []uint64{at + uint64(m.again) - 1, at + uint64(m.again)} {
			if now >= m.last {
				run(t, f.Copy(), m.copied(), call{what: "tick", now: now})
			}
		}
	}
	c, cm := f.Copy(), m.copied()
	for n := range 26 {
		if got, want := c.Down(n), cm.do(call{what: "down", port: n}).e; got != want {
			t.Fatalf("Down(%d) with %+v = %d; it should be %d", n, *cm, got, want)
		}
	}
}

// dice are the same each time.
type dice uint64

func (d *dice) below(n int) int {
	*d = *d*6364136223846793005 + 1442695040888963407
	return int(uint64(*d) >> 33 % uint64(n))
}

func (d *dice) adjs(but int) []api.Adj {
	var l []api.Adj
	for n := 1; n <= 24 && len(l) < 16; n++ {
		if n != but && d.below(6) == 0 {
			l = append(l, api.Adj{To: n, Cost: 1 + d.below(1000)})
		}
	}
	return l
}

func (d *dice) record(origins, ages int) api.Record {
	r := api.Record{Origin: 1 + d.below(origins), Epoch: uint32(1 + d.below(ages)), Seq: uint32(1 + d.below(ages)), Claim: d.below(1025), Ingress: d.below(2) == 0}
	r.Adjs = d.adjs(r.Origin)
	return r
}

func shuffled[T any](d *dice, l []T) []T {
	l = slices.Clone(l)
	for i := range l {
		k := i + d.below(len(l)-i)
		l[i], l[k] = l[k], l[i]
	}
	return l
}

// noRecords may not be, each for one thing.
func noRecords() []api.Record {
	good := api.Record{Origin: 5, Epoch: 1, Seq: 1, Claim: 3, Adjs: []api.Adj{{To: 1, Cost: 1}, {To: 3, Cost: 1000}}}
	var l []api.Record
	add := func(change func(r *api.Record)) {
		r := clonedOne(good)
		change(&r)
		l = append(l, r)
	}
	for _, n := range noRouters {
		add(func(r *api.Record) { r.Origin = n })
		add(func(r *api.Record) { r.Adjs[0].To = n })
		add(func(r *api.Record) { r.Adjs[1].To = n })
	}
	for _, n := range append([]int{-1, 1025, 1026, 2048, 65537}, far...) {
		add(func(r *api.Record) { r.Claim = n })
	}
	for _, n := range append([]int{0, -1, 1001, 65537}, far...) {
		add(func(r *api.Record) { r.Adjs[1].Cost = n })
	}
	add(func(r *api.Record) { r.Epoch = 0 })
	add(func(r *api.Record) { r.Seq = 0 })
	add(func(r *api.Record) { r.Epoch, r.Seq = 0, 0 })
	add(func(r *api.Record) { r.Adjs[1].To = 5 })
	add(func(r *api.Record) { r.Adjs[1].To = 1 })
	add(func(r *api.Record) { r.Adjs[0].To = 4 })
	add(func(r *api.Record) {
		r.Adjs = nil
		for n := 6; n <= 22; n++ {
			r.Adjs = append(r.Adjs, api.Adj{To: n, Cost: 1})
		}
	})
	l = append(l, api.Record{})
	// Some of far are ids or costs.
	return slices.DeleteFunc(l, recordMayBe)
}

// fullest have as many and as great parts as may be.
func fullest() []api.Record {
	var l []api.Record
	for _, origin := range []int{1, 5, 24} {
		r := api.Record{Origin: origin, Epoch: topSeq, Seq: topSeq, Claim: 1024, Ingress: true}
		for n := 24; n >= 1 && len(r.Adjs) < 16; n-- {
			if n != origin {
				r.Adjs = append(r.Adjs, api.Adj{To: n, Cost: 1000})
			}
		}
		slices.Reverse(r.Adjs)
		l = append(l, r)
	}
	return l
}

// The examples of the chapter

func TestAsTheExamplesTell(t *testing.T) {
	f, m := made(t, 1, 1, 4)
	for _, x := range []struct {
		call    string
		changed bool
		told    string
		e       api.Errno
		pending int
	}{
		{"own 7 @0", false, "", api.OK, 0},
		{"up 2 @0", false, "2:1.1.1/7", api.OK, 1},
		{"up 2 @0", false, "", api.ErrBusy, 1},
		{"up 1 @0", false, "", api.ErrArg, 1},
		{"tick @3", false, "", api.OK, 1},
		{"tick @4", false, "2:1.1.1/7", api.OK, 1},
		{"tick @4", false, "", api.OK, 1},
		{"ack 2 1.1.1", false, "", api.OK, 0},
		{"ack 3 1.1.1", false, "", api.ErrDown, 0},
		{"up 3 @5", false, "3:1.1.1/7", api.OK, 1},
		{"take 2 5.1.1 @6", true, "3:5.1.1", api.OK, 2},
		{"take 2 5.1.1 @6", false, "", api.OK, 2},
		{"take 2 5.1.1 @5", false, "", api.ErrArg, 2},
		{"take 3 5.1.1 @7", false, "", api.OK, 1},
		{"take 2 1.1.9 @8", true, "2:1.1.10/7 3:1.1.10/7", api.OK, 2},
		{"take 2 1.2.1 @9", false, "2:1.1.10/7", api.OK, 2},
		{"take 2 5.1.1 @9", false, "", api.OK, 2},
		{"down 2", false, "", api.OK, 1},
		{"down 2", false, "", api.ErrNone, 1},
	} {
		c := calls(x.call)[0]
		if got := do(f, c); !likeAnswer(got, answer{x.changed, told(x.told), x.e}) {
			t.Errorf("%s = %v", x.call, got)
		}
		if n := f.Pending(); n != x.pending {
			t.Errorf("%s: Pending = %d", x.call, n)
		}
		// The model is held against the document, too.
		if got := m.do(c); !likeAnswer(got, answer{x.changed, told(x.told), x.e}) || len(m.owed) != x.pending {
			t.Errorf("the model: %s = %v", x.call, got)
		}
		if x.call == "take 2 1.1.9 @8" && !alike(f.All(), recs("1.1.10/7 5.1.1")) {
			t.Errorf("All = %v", f.All())
		}
	}
	wantState(t, f, m)
}

// P10.1

func TestNewRefuses(t *testing.T) {
	wrong := func(self int, epoch uint32, again int) {
		t.Helper()
		if f, e := flood.New(self, epoch, again); f != nil || e != api.ErrArg {
			t.Errorf("New(%d, %d, %d) = %v, %d", self, epoch, again, f, e)
		}
	}
	for _, n := range noRouters {
		wrong(n, 1, 1)
		wrong(n, topSeq, 64)
	}
	for _, self := range []int{1, 12, 24} {
		wrong(self, 0, 1)
		wrong(self, 0, 64)
		for _, again := range append([]int{0, -1, -2, -64, 65, 66, 128, 257, 320}, far...) {
			wrong(self, 1, again)
			wrong(self, topSeq, again)
		}
	}
	wrong(0, 0, 0)
}

func TestNewHasNothing(t *testing.T) {
	for self := 1; self <= 24; self++ {
		for _, epoch := range []uint32{1, 2, 1 << 31, topSeq} {
			for _, again := range []int{1, 2, 63, 64} {
				f, m := made(t, self, epoch, again)
				if l := f.All(); len(l) != 0 {
					t.Errorf("All = %v", l)
				}
				if n := f.Pending(); n != 0 {
					t.Errorf("Pending = %d", n)
				}
				wantState(t, f, m)
				// No tick was handed in yet: 0 may be.
				run(t, f, m, calls("tick @0, own 5 @0")...)
				if l := f.All(); len(l) != 1 || !like(l[0], api.Record{Origin: self, Epoch: epoch, Seq: 1, Claim: 5}) {
					t.Errorf("All = %v", l)
				}
			}
		}
	}
}

func TestFloodsAreApart(t *testing.T) {
	a, am := made(t, 1, 1, 2, calls("own 1 @0, up 2 @3, take 2 7.1.1 @4")...)
	b, bm := made(t, 1, 1, 2, calls("own 2 @0, up 3 @1")...)
	run(t, a, am, calls("up 4 @9, ack 2 1.1.1")...)
	run(t, b, bm, calls("take 3 7.1.2 @2, tick @3")...)
	wantState(t, a, am)
	wantState(t, b, bm)
}

// full is a flood of self with a record of each router and all others up, at the tick 30.
func full(t *testing.T, self int, again int) (*flood.Flood, *model) {
	t.Helper()
	var d dice = 5
	f, m := made(t, self, 3, again)
	feeder := 1
	if self == 1 {
		feeder = 2
	}
	var numbers []int
	for n := 1; n <= 24; n++ {
		if n != self && n != feeder {
			numbers = append(numbers, n)
		}
	}
	run(t, f, m, call{what: "own", r: api.Record{Claim: 9, Ingress: true, Adjs: d.adjs(self)}, now: 1}, call{what: "up", port: feeder, now: 2})
	for _, n := range shuffled(&d, append(numbers, feeder)) {
		run(t, f, m, call{what: "take", port: feeder, r: api.Record{Origin: n, Epoch: uint32(n), Seq: uint32(25 - n), Claim: n, Adjs: d.adjs(n)}, now: 2})
	}
	for i, n := range shuffled(&d, numbers) {
		run(t, f, m, call{what: "up", port: n, now: uint64(3 + i)})
	}
	run(t, f, m, call{what: "tick", now: 30})
	return f, m
}

func TestAllRises(t *testing.T) {
	for _, self := range []int{1, 12, 24} {
		f, m := full(t, self, 1)
		if l := f.All(); len(l) != 24 || !slices.IsSortedFunc(l, func(a, b api.Record) int { return a.Origin - b.Origin }) {
			t.Errorf("All = %v", l)
		}
		// The feeder is owed the own record alone, which was there ahead of it; the other 22 all 24.
		if n := f.Pending(); n != 22*24+1 {
			t.Errorf("Pending = %d", n)
		}
		wantState(t, f, m)
	}
}

func TestPendingCountsOverAllPorts(t *testing.T) {
	f, m := made(t, 1, 1, 4)
	for i, x := range []struct {
		call string
		n    int
	}{
		{"up 2 @0", 0}, {"up 3 @0", 0}, {"own 0 @0", 2}, {"take 2 5.1.1 @0", 3}, {"own 0 @1", 3}, {"take 3 6.1.1 @1", 4},
		{"up 4 @1", 7}, {"ack 4 5.1.1", 6}, {"ack 4 5.1.1", 6}, {"tick @9", 6}, {"down 4", 4}, {"take 2 6.1.1 @9", 3}, {"down 3", 1}, {"down 2", 0},
	} {
		run(t, f, m, calls(x.call)...)
		if n := f.Pending(); n != x.n {
			t.Errorf("%d: %s: Pending = %d", i, x.call, n)
		}
	}
}

func TestCopyIsAsItIs(t *testing.T) {
	for _, text := range []string{
		"", "own 7 @0", "up 2 @5", "own 7 @0, up 2 @1, up 3 @2", "up 3 @2, take 3 5.1.1 @4, up 2 @7, ack 2 5.1.1",
		"own 1 @1, up 2 @1, up 3 @3, take 2 1.1.9 @5, down 2", "tick @1099511627776",
	} {
		f, m := made(t, 1, 1, 3, calls(text)...)
		c := f.Copy()
		if c == nil || c == f {
			t.Fatalf("Copy = %v", c)
		}
		wantState(t, f, m)
		wantState(t, c, m)
		wantState(t, c.Copy().Copy(), m)
	}
}

func TestACopyGoesItsOwnWay(t *testing.T) {
	rows := []string{
		"", "own 2 @9", "up 4 @9", "down 2", "down 3", "take 2 5.1.9 @9", "take 3 1.1.7 @10", "take 2 6.1.1 @9", "ack 2 1.1.1", "ack 3 5.1.1", "tick @9", "tick @50",
		"down 2, up 2 @20, tick @30", "down 3, take 2 9.1.1 @70",
	}
	for _, one := range rows {
		for _, other := range rows {
			f, m := made(t, 1, 1, 3, calls("own 7 @0, up 2 @1, up 3 @2, take 2 5.1.1 @3")...)
			c, cm := f.Copy(), m.copied()
			run(t, f, m, calls(one)...)
			wantState(t, c, cm)
			run(t, c, cm, calls(other)...)
			wantState(t, f, m)
			wantState(t, c, cm)
			run(t, f, m, calls(other)...)
			wantState(t, f, m)
			wantState(t, c, cm)
		}
	}
}

// P10.2

func TestUpTellsAllRecords(t *testing.T) {
	f, m := made(t, 12, 1, 4, calls("up 1 @0, take 1 24.1.1 @0, take 1 3.2.1 @1, own 8 @1, take 1 1.1.1 @1, take 1 3.2.2 @2")...)
	for _, x := range []struct{ call, told string }{
		{"up 24 @2", "24:1.1.1 24:3.2.2 24:12.1.1/8 24:24.1.1"},
		{"up 3 @3", "3:1.1.1 3:3.2.2 3:12.1.1/8 3:24.1.1"},
	} {
		c := calls(x.call)[0]
		want := m.do(c)
		got := do(f, c)
		if !likeAnswer(got, want) || !likeTold(got.told, told(x.told)) {
			t.Errorf("%s = %v", x.call, got)
		}
	}
	// All are owed from that tick on: to 24 since 2, to 3 since 3, and the own one to 1 since 1.
	wantState(t, f, m)
	run(t, f, m, calls("tick @4, tick @5, tick @6, tick @7")...)
}

func TestUpWithoutRecords(t *testing.T) {
	f, m := made(t, 1, 1, 4)
	for n := 24; n >= 2; n-- {
		run(t, f, m, call{what: "up", port: n, now: 0})
	}
	if f.Pending() != 0 || len(f.All()) != 0 {
		t.Errorf("Pending = %d, All = %v", f.Pending(), f.All())
	}
	wantState(t, f, m)
	run(t, f, m, calls("own 1 @0")...)
	if n := f.Pending(); n != 23 {
		t.Errorf("Pending = %d", n)
	}
}

func TestUpAndDownRefuse(t *testing.T) {
	for _, self := range []int{1, 2, 12, 24} {
		for _, text := range []string{"", "own 7 @5", "up 3 @5", "own 7 @4, up 3 @5, up 4 @5"} {
			f, m := made(t, self, 1, 4, calls(text)...)
			for _, n := range append([]int{self}, noRouters...) {
				for _, now := range []uint64{0, 5, 6, maxTick, maxTick + 1} {
					if l, e := f.Up(n, now); len(l) != 0 || e != api.ErrArg {
						t.Errorf("self %d: Up(%d, %d) = %v, %d", self, n, now, l, e)
					}
				}
				if e := f.Down(n); e != api.ErrArg {
					t.Errorf("self %d: Down(%d) = %d", self, n, e)
				}
			}
			for _, now := range append([]uint64{4, 0}, noTicks...) {
				if now < 5 && text == "" {
					continue
				}
				for _, n := range []int{3, 7, 23} {
					// Also of one that is up: the tick is looked at ahead.
					if l, e := f.Up(n, now); len(l) != 0 || e != api.ErrArg {
						t.Errorf("%s: Up(%d, %d) = %v, %d", text, n, now, l, e)
					}
				}
			}
			wantState(t, f, m)
		}
	}
}

func TestUpOfOneThatIsUp(t *testing.T) {
	f, m := made(t, 1, 1, 4, calls("own 7 @0, up 2 @5, up 3 @5, ack 3 1.1.1")...)
	for _, n := range []int{2, 3} {
		for _, now := range []uint64{5, 6, 100, maxTick} {
			if l, e := f.Up(n, now); len(l) != 0 || e != api.ErrBusy {
				t.Errorf("Up(%d, %d) = %v, %d", n, now, l, e)
			}
		}
	}
	// Neither what is owed, nor the ticks that may be, have changed.
	wantState(t, f, m)
	run(t, f, m, calls("tick @5, tick @8, tick @9")...)
}

func TestDown(t *testing.T) {
	f, m := made(t, 1, 1, 4, calls("own 7 @0, up 2 @5, up 3 @5, up 24 @6")...)
	for _, n := range []int{4, 5, 23} {
		if e := f.Down(n); e != api.ErrNone {
			t.Errorf("Down(%d) = %d", n, e)
		}
	}
	wantState(t, f, m)
	run(t, f, m, calls("down 2")...)
	if n := f.Pending(); n != 2 {
		t.Errorf("Pending = %d", n)
	}
	wantState(t, f, m)
	// What was owed before is owed no more: up again all is owed from then on, once.
	run(t, f, m, calls("tick @9, own 8 @9, down 24, tick @13, up 2 @14, tick @17, tick @18, down 2, down 2, down 3, down 24, tick @99, own 9 @100")...)
	if n := f.Pending(); n != 0 {
		t.Errorf("Pending = %d", n)
	}
	wantState(t, f, m)
}

func TestUpAgainOwesAllAgain(t *testing.T) {
	f, m := made(t, 1, 1, 4, calls("own 7 @0, up 2 @0, ack 2 1.1.1, up 3 @1, take 3 5.1.1 @1, ack 2 5.1.1, down 2")...)
	c := calls("up 2 @2")[0]
	m.do(c)
	if got := do(f, c); !likeAnswer(got, answer{told: told("2:1.1.1/7 2:5.1.1")}) {
		t.Errorf("up again: %v", got)
	}
	wantState(t, f, m)
}

// P10.3

func TestOwnGoesOnByOne(t *testing.T) {
	for _, epoch := range []uint32{1, 2, topSeq} {
		f, m := made(t, 3, epoch, 4, calls("up 24 @0, up 1 @0, up 2 @0")...)
		for i := 1; i <= 40; i++ {
			r := api.Record{Origin: 3, Epoch: epoch, Seq: uint32(i), Claim: i % 3, Ingress: i%2 == 0}
			if i%4 > 0 {
				r.Adjs = []api.Adj{{To: 1, Cost: i}, {To: 24, Cost: 1000}}
			}
			c := call{what: "own", r: api.Record{Claim: r.Claim, Ingress: r.Ingress, Adjs: r.Adjs}, now: uint64(i / 2)}
			m.do(c)
			got := do(f, c)
			if !likeAnswer(got, answer{told: []api.Send{{To: 1, Record: r}, {To: 2, Record: r}, {To: 24, Record: r}}}) {
				t.Fatalf("own %d = %v", i, got)
			}
			if l := f.All(); !alike(l, []api.Record{r}) {
				t.Fatalf("own %d: All = %v", i, l)
			}
			wantState(t, f, m)
		}
	}
}

func TestOwnOwesToThoseWhoHadIt(t *testing.T) {
	f, m := made(t, 1, 1, 4, calls("own 1 @0, up 2 @0, up 3 @0, ack 2 1.1.1, own 2 @3")...)
	if n := f.Pending(); n != 2 {
		t.Errorf("Pending = %d", n)
	}
	// That of the former one is no ack of this one; it is told from the later tick on.
	run(t, f, m, calls("ack 2 1.1.1, ack 3 1.1.1, tick @4, tick @6, tick @7, ack 3 1.1.2, tick @11")...)
	if n := f.Pending(); n != 1 {
		t.Errorf("Pending = %d", n)
	}
	wantState(t, f, m)
}

func TestOwnRefuses(t *testing.T) {
	long := make([]api.Adj, 17)
	for i := range long {
		long[i] = api.Adj{To: i + 3, Cost: 1}
	}
	lists := [][]api.Adj{
		{{To: 1, Cost: 1}}, {{To: 2, Cost: 1}, {To: 2, Cost: 1}}, {{To: 3, Cost: 1}, {To: 2, Cost: 1}}, long,
		{{To: 2, Cost: 0}}, {{To: 2, Cost: 1001}}, {{To: 2, Cost: -1}}, {{To: 2, Cost: 5}, {To: 3, Cost: 1 << 32}}, {{}},
	}
	for _, n := range noRouters {
		lists = append(lists, []api.Adj{{To: n, Cost: 1}}, []api.Adj{{To: 2, Cost: 1}, {To: n, Cost: 1}})
	}
	for _, text := range []string{"tick @5", "own 7 @5", "own 7 @4, up 2 @5", "up 2 @5", "own 7 @4, up 2 @4, take 2 1.1.4294967294 @5"} {
		f, m := made(t, 1, 1, 4, calls(text)...)
		for _, l := range lists {
			if l, e := f.Own(0, false, l, 5); len(l) != 0 || e != api.ErrArg {
				t.Errorf("%s: Own with wrong Adjs = %v, %d", text, l, e)
			}
		}
		for _, claim := range append([]int{-1, -2, 1025, 2048, 65537, -1024}, far...) {
			if claim >= 0 && claim <= 1024 {
				continue
			}
			if l, e := f.Own(claim, true, nil, 5); len(l) != 0 || e != api.ErrArg {
				t.Errorf("%s: Own(%d) = %v, %d", text, claim, l, e)
			}
		}
		for _, now := range append([]uint64{4, 0, 1}, noTicks...) {
			if l, e := f.Own(1, false, []api.Adj{{To: 2, Cost: 1}}, now); len(l) != 0 || e != api.ErrArg {
				t.Errorf("%s: Own at %d = %v, %d", text, now, l, e)
			}
		}
		if l, e := f.Own(0, false, lists[0], 100); len(l) != 0 || e != api.ErrArg {
			t.Errorf("%s: %v, %d", text, l, e)
		}
		wantState(t, f, m)
	}
}

func TestOwnAtTheEdges(t *testing.T) {
	for _, r := range fullest() {
		f, m := made(t, r.Origin, topSeq, 64, calls("up 2 @0, up 23 @0")...)
		run(t, f, m, call{what: "own", r: r, now: 0}, call{what: "own", now: maxTick}, call{what: "own", r: api.Record{Claim: 1024, Adjs: []api.Adj{}}, now: maxTick})
		run(t, f, m, call{what: "own", r: api.Record{Claim: 1, Adjs: r.Adjs[:1]}, now: maxTick})
		wantState(t, f, m)
	}
}

// Neighbours that are told need not be ports, nor ports be told.
func TestOwnAdjsAreNoPorts(t *testing.T) {
	f, m := made(t, 1, 1, 4, calls("up 9 @0")...)
	run(t, f, m, call{what: "own", r: api.Record{Adjs: []api.Adj{{To: 2, Cost: 1}, {To: 3, Cost: 1}}}, now: 0})
	if n := f.Pending(); n != 1 {
		t.Errorf("Pending = %d", n)
	}
	wantState(t, f, m)
}

func TestNoSeqIsLeft(t *testing.T) {
	f, m := made(t, 1, 1, 4, calls("own 7 @0, up 2 @0, up 3 @0, take 2 1.1.4294967293 @1")...)
	c := calls("own 8 @2")[0]
	m.do(c)
	if got := do(f, c); !likeAnswer(got, answer{told: told("2:1.1.4294967295/8 3:1.1.4294967295/8")}) {
		t.Errorf("the last own one: %v", got)
	}
	for _, now := range []uint64{2, 3, 99, maxTick} {
		for _, adjs := range [][]api.Adj{nil, {{To: 2, Cost: 1}}} {
			if l, e := f.Own(3, true, adjs, now); len(l) != 0 || e != api.ErrFull {
				t.Errorf("Own at %d = %v, %d", now, l, e)
			}
		}
	}
	// What may not be is told ahead, and the tick of what was refused does not count.
	for _, l := range []call{
		{what: "own", r: api.Record{Claim: 1025}, now: 2}, {what: "own", r: api.Record{Claim: -1}, now: 2}, {what: "own", now: 1}, {what: "own", now: maxTick + 1},
		{what: "own", r: api.Record{Adjs: []api.Adj{{To: 1, Cost: 1}}}, now: 2}, {what: "own", r: api.Record{Adjs: []api.Adj{{To: 2}}}, now: 2},
	} {
		if got := do(f, l); !likeAnswer(got, refused(api.ErrArg)) {
			t.Errorf("%v = %v", l, got)
		}
	}
	if l := f.All(); !alike(l, recs("1.1.4294967295/8")) {
		t.Errorf("All = %v", l)
	}
	wantState(t, f, m)
	run(t, f, m, calls("take 2 1.1.4294967295 @2, take 3 1.1.4294967294 @2, take 3 1.2.1 @3, own 1 @3, tick @9")...)
	wantState(t, f, m)
}

// P10.4

// Each stamp behind each other one, from a port to which it is owed and from one to which it is not.
func TestTakeOfEachTwo(t *testing.T) {
	numbers := []uint32{1, 2, 255, 256, 1 << 16, 1<<31 - 1, 1 << 31, topSeq - 1, topSeq}
	for _, epoch := range numbers {
		for _, seq := range numbers {
			for _, epoch2 := range numbers {
				for _, seq2 := range numbers {
					first := api.Record{Origin: 5, Epoch: epoch, Seq: seq, Claim: 1}
					second := api.Record{Origin: 5, Epoch: epoch2, Seq: seq2, Claim: 2}
					for from := 2; from <= 3; from++ {
						f, m := made(t, 1, 1, 4, calls("up 4 @0, up 3 @0, up 2 @0")...)
						run(t, f, m, call{what: "take", port: 2, r: first, now: 1})
						got := do(f, call{what: "take", port: from, r: second, now: 2})
						var want answer
						switch {
						case age(second) > age(first) && from == 2:
							want = answer{changed: true, told: []api.Send{{To: 3, Record: second}, {To: 4, Record: second}}}
						case age(second) > age(first):
							want = answer{changed: true, told: []api.Send{{To: 2, Record: second}, {To: 4, Record: second}}}
						case age(second) < age(first):
							want = answer{told: []api.Send{{To: from, Record: first}}}
						}
						if !likeAnswer(got, want) {
							t.Fatalf("%v, then %v from %d = %v", first, second, from, got)
						}
					}
				}
			}
		}
	}
}

func TestTakeByWhatItHas(t *testing.T) {
	const start = "own 7 @0, up 2 @1, up 3 @2, up 4 @3, take 2 5.2.3 @5, take 3 5.2.3 @5"
	for _, x := range []struct {
		call    string
		changed bool
		told    string
		pending int // 1.1.1 is owed to three, 5.2.3 to 4
	}{
		// The same stamp, from those to whom it is owed, and from those to whom it is not.
		{"take 2 5.2.3 @5", false, "", 4}, {"take 4 5.2.3 @5", false, "", 3}, {"take 4 5.2.3/9 @9", false, "", 3},
		{"take 2 1.1.1 @6", false, "", 3}, {"take 4 1.1.1 @6", false, "", 3},
		// None of it.
		{"take 2 6.1.1 @6", true, "3:6.1.1 4:6.1.1", 6}, {"take 3 6.1.1/9 @6", true, "2:6.1.1/9 4:6.1.1/9", 6}, {"take 4 2.9.9 @6", true, "2:2.9.9 3:2.9.9", 6}, {"take 2 2.1.1 @6", true, "3:2.1.1 4:2.1.1", 6},
		// An older one.
		{"take 2 5.2.4 @6", true, "3:5.2.4 4:5.2.4", 5}, {"take 4 5.2.4 @6", true, "2:5.2.4 3:5.2.4", 5}, {"take 4 5.3.1 @6", true, "2:5.3.1 3:5.3.1", 5}, {"take 3 5.4294967295.4294967295 @6", true, "2:5.4294967295.4294967295 4:5.4294967295.4294967295", 5},
		// A newer one.
		{"take 2 5.2.2 @6", false, "2:5.2.3", 5}, {"take 3 5.1.9 @6", false, "3:5.2.3", 5}, {"take 4 5.2.2 @6", false, "4:5.2.3", 4}, {"take 4 5.1.4294967295 @6", false, "4:5.2.3", 4},
		// Self: newer, in its epoch.
		{"take 2 1.1.2 @6", true, "2:1.1.3/7 3:1.1.3/7 4:1.1.3/7", 4}, {"take 4 1.1.9/5 @6", true, "2:1.1.10/7 3:1.1.10/7 4:1.1.10/7", 4},
		{"take 3 1.1.4294967293 @6", true, "2:1.1.4294967294/7 3:1.1.4294967294/7 4:1.1.4294967294/7", 4},
		{"take 3 1.1.4294967294 @6", true, "2:1.1.4294967295/7 3:1.1.4294967295/7 4:1.1.4294967295/7", 4},
		// Self: none can be above it.
		{"take 3 1.1.4294967295 @6", false, "3:1.1.1/7", 4},
		// Self: in another epoch.
		{"take 3 1.2.1 @6", false, "3:1.1.1/7", 4}, {"take 4 1.2.9 @6", false, "4:1.1.1/7", 4}, {"take 2 1.4294967295.4294967295 @6", false, "2:1.1.1/7", 4},
	} {
		f, m := made(t, 1, 1, 4, calls(start)...)
		c := calls(x.call)[0]
		if got := m.do(c); !likeAnswer(got, answer{changed: x.changed, told: told(x.told)}) {
			t.Fatalf("the model: %s = %v", x.call, got)
		}
		if got := do(f, c); !likeAnswer(got, answer{changed: x.changed, told: told(x.told)}) {
			t.Errorf("%s = %v", x.call, got)
		}
		if n := f.Pending(); n != x.pending {
			t.Errorf("%s: Pending = %d", x.call, n)
		}
		if l := f.All(); !alike(l, m.all()) {
			t.Errorf("%s: All = %v", x.call, l)
		}
		wantState(t, f, m)
	}
}

// What is owed and told anew is told again from the later tick on.
func TestTakeOfAnOlderOneIsToldNow(t *testing.T) {
	f, m := made(t, 1, 1, 4, calls("up 2 @0, up 3 @0, take 2 5.1.5 @0, take 3 5.1.4 @3")...)
	for _, x := range []struct{ call, told string }{{"tick @4", ""}, {"tick @6", ""}, {"tick @7", "3:5.1.5"}, {"take 2 5.1.1 @8", "2:5.1.5"}, {"tick @11", "3:5.1.5"}, {"tick @12", "2:5.1.5"}} {
		c := calls(x.call)[0]
		m.do(c)
		if got := do(f, c); !likeAnswer(got, answer{told: told(x.told)}) {
			t.Errorf("%s = %v", x.call, got)
		}
	}
	wantState(t, f, m)
}

// Of one stamp what it has stays, however unlike what comes is.
func TestOfOneStampTheFirstStays(t *testing.T) {
	unlike := []api.Record{
		rec("5.3.4"), rec("5.3.4/1"), {Origin: 5, Epoch: 3, Seq: 4, Ingress: true}, {Origin: 5, Epoch: 3, Seq: 4, Adjs: []api.Adj{{To: 1, Cost: 1}}},
		{Origin: 5, Epoch: 3, Seq: 4, Claim: 1024, Ingress: true, Adjs: []api.Adj{{To: 1, Cost: 1}, {To: 2, Cost: 7}}},
	}
	for _, a := range unlike {
		for _, b := range unlike {
			f, m := made(t, 1, 1, 4, calls("up 2 @0, up 3 @0, up 4 @0")...)
			run(t, f, m, call{what: "take", port: 2, r: a, now: 1}, call{what: "take", port: 3, r: b, now: 1}, call{what: "take", port: 2, r: b, now: 1})
			if l := f.All(); !alike(l, []api.Record{a}) {
				t.Errorf("%v, then %v: All = %v", a, b, l)
			}
			wantState(t, f, m)
			run(t, f, m, call{what: "tick", now: 9})
		}
	}
}

// All else of the own record stays as it was; what else comes with the newer one counts for nothing.
func TestTheOwnOneOutrunsAll(t *testing.T) {
	for _, own := range append(fullest()[:1], api.Record{}, api.Record{Claim: 3, Ingress: true}, api.Record{Adjs: []api.Adj{{To: 7, Cost: 9}}}) {
		f, m := made(t, 1, 6, 4, calls("up 24 @0, up 2 @0")...)
		run(t, f, m, call{what: "own", r: own, now: 0})
		for _, seq := range []uint32{2, 4, 6, 100, 1 << 31, topSeq - 2} {
			r := api.Record{Origin: 1, Epoch: 6, Seq: seq, Claim: 55, Ingress: !own.Ingress, Adjs: []api.Adj{{To: 3, Cost: 3}}}
			want := api.Record{Origin: 1, Epoch: 6, Seq: seq + 1, Claim: own.Claim, Ingress: own.Ingress, Adjs: own.Adjs}
			m.do(call{what: "take", port: 24, r: r, now: 1})
			changed, l, e := f.Take(24, r, 1)
			if !changed || !likeTold(l, []api.Send{{To: 2, Record: want}, {To: 24, Record: want}}) || e != api.OK {
				t.Fatalf("%v comes back: %v, %v, %d", r, changed, l, e)
			}
			wantState(t, f, m)
		}
		run(t, f, m, calls("own 5 @1, own 5 @1")...)
		wantState(t, f, m)
	}
}

// A newer one that comes again and again is outrun each time; one that is behind by then is told what there is.
func TestOutrunGoesOn(t *testing.T) {
	f, m := made(t, 1, 1, 4, calls("own 7 @0, up 2 @0, take 2 1.1.9 @1")...)
	for _, x := range []struct {
		call    string
		changed bool
		told    string
	}{
		{"take 2 1.1.9 @1", false, "2:1.1.10/7"}, {"take 2 1.1.10 @1", false, ""}, {"take 2 1.1.11 @2", true, "2:1.1.12/7"}, {"own 8 @2", false, "2:1.1.13/8"},
		{"take 2 1.2.13 @2", false, "2:1.1.13/8"}, {"take 2 1.1.4294967294 @3", true, "2:1.1.4294967295/8"}, {"take 2 1.1.4294967294 @3", false, "2:1.1.4294967295/8"},
		{"take 2 1.1.4294967295 @3", false, ""},
	} {
		c := calls(x.call)[0]
		m.do(c)
		if got := do(f, c); !likeAnswer(got, answer{changed: x.changed, told: told(x.told)}) {
			t.Errorf("%s = %v", x.call, got)
		}
	}
	wantState(t, f, m)
}

func TestTakeOfSelfWithoutAnOwnOne(t *testing.T) {
	f, m := made(t, 1, 2, 4, calls("up 2 @0, up 3 @0")...)
	for _, text := range []string{"1.1.1", "1.1.9", "1.2.1", "1.2.4294967295", "1.3.1", "1.4294967295.4294967295"} {
		m.do(call{what: "take", port: 2, r: rec(text), now: 4})
		if changed, l, e := f.Take(2, rec(text), 4); changed || len(l) != 0 || e != api.OK {
			t.Errorf("%s: %v, %v, %d", text, changed, l, e)
		}
		if f.Pending() != 0 || len(f.All()) != 0 {
			t.Errorf("%s: Pending = %d, All = %v", text, f.Pending(), f.All())
		}
	}
	// Its tick counts all the same, and the first own one has the Seq 1.
	if _, e := f.Tick(3); e != api.ErrArg {
		t.Errorf("a tick before: %d", e)
	}
	run(t, f, m, calls("own 7 @4, take 2 1.2.1 @4, take 3 1.1.9 @5, take 3 1.2.2 @5")...)
	wantState(t, f, m)
}

func TestTakeRefuses(t *testing.T) {
	wrong := noRecords()
	for _, text := range []string{"tick @5", "own 7 @5", "own 7 @4, up 2 @5", "own 7 @1, up 2 @4, up 3 @4, take 2 5.1.1 @5"} {
		f, m := made(t, 1, 1, 4, calls(text)...)
		want := func(from int, r api.Record, now uint64, e api.Errno) {
			t.Helper()
			if got := do(f, call{"take", from, r, now}); !likeAnswer(got, refused(e)) {
				t.Errorf("%s: Take(%d, %v, %d) = %v", text, from, r, now, got)
			}
		}
		for _, n := range append([]int{1}, noRouters...) {
			want(n, rec("5.1.9"), 5, api.ErrArg)
			want(n, rec("1.1.9"), 5, api.ErrArg)
			want(n, wrong[0], maxTick+1, api.ErrArg)
		}
		// 2 may be up, 9 is not: what may not be is told ahead.
		for _, n := range []int{2, 9} {
			for _, r := range wrong {
				want(n, r, 5, api.ErrArg)
				want(n, r, 6, api.ErrArg)
			}
			for _, now := range append([]uint64{4, 0}, noTicks...) {
				want(n, rec("5.1.9"), now, api.ErrArg)
				want(n, rec("1.1.9"), now, api.ErrArg)
			}
		}
		for _, n := range []int{4, 9, 24} {
			for _, r := range append(fullest(), rec("5.1.9"), rec("1.1.9"), rec("9.1.1"), rec("1.1.1")) {
				want(n, r, 5, api.ErrDown)
				want(n, r, 100, api.ErrDown)
				want(n, r, maxTick, api.ErrDown)
			}
		}
		wantState(t, f, m)
	}
}

func TestTakeAtTheEdges(t *testing.T) {
	for _, self := range []int{1, 24, 7} {
		f, m := made(t, self, 1, 1, calls("up 2 @0, up 23 @0, own 5 @0")...)
		for _, r := range fullest() {
			run(t, f, m, call{what: "take", port: 23, r: r, now: 0})
			run(t, f, m, call{what: "take", port: 2, r: r, now: 0})
		}
		for _, text := range []string{"3.1.1", "3.1.4294967295", "3.2.1", "2.1.1/1024", "23.1.1", "3.4294967295.1"} {
			run(t, f, m, call{what: "take", port: 2, r: rec(text), now: maxTick})
		}
		run(t, f, m, call{what: "take", port: 2, r: api.Record{Origin: 9, Epoch: 1, Seq: 1, Adjs: []api.Adj{}}, now: maxTick})
		wantState(t, f, m)
	}
}

// A record of the port itself comes by it, too.
func TestTakeOfTheSendersOwn(t *testing.T) {
	f, m := made(t, 1, 1, 4, calls("own 7 @0, up 2 @0, up 3 @0, take 2 2.1.1 @1, take 3 2.1.1 @1, take 3 2.1.2 @1, take 2 2.1.1 @2, take 2 2.1.3 @2, take 3 3.1.1 @3, take 2 3.1.1 @3")...)
	wantState(t, f, m)
	run(t, f, m, calls("tick @4, tick @6, tick @7, tick @8, down 3, take 2 3.1.2 @9, up 3 @9")...)
	wantState(t, f, m)
}

// P10.5

func TestAck(t *testing.T) {
	const start = "own 7 @0, up 2 @0, up 3 @0, take 3 5.2.3 @1, own 8 @1"
	for _, x := range []struct {
		ack     string
		pending int // 1.1.2 is owed to 2 and 3, 5.2.3 to 2
	}{
		{"ack 2 1.1.2", 2}, {"ack 3 1.1.2", 2}, {"ack 2 5.2.3", 2}, {"ack 3 5.2.3", 3},
		// Older ones, newer ones, those of none.
		{"ack 2 1.1.1", 3}, {"ack 2 1.1.3", 3}, {"ack 2 1.2.2", 3}, {"ack 2 1.4294967295.4294967295", 3}, {"ack 2 5.2.2", 3}, {"ack 2 5.2.4", 3},
		{"ack 2 5.1.3", 3}, {"ack 2 5.3.3", 3}, {"ack 2 5.3.2", 3}, {"ack 2 6.2.3", 3}, {"ack 2 2.1.1", 3}, {"ack 3 24.1.1", 3}, {"ack 2 7.4294967295.4294967295", 3},
	} {
		f, m := made(t, 1, 1, 4, calls(start)...)
		all := f.All()
		if e := f.Ack(2, stampOf(rec("9.9.9"))); e != api.OK {
			t.Errorf("an ack of none: %d", e)
		}
		m.do(calls(x.ack)[0])
		if got := do(f, calls(x.ack)[0]); !likeAnswer(got, answer{}) {
			t.Errorf("%s = %v", x.ack, got)
		}
		if n := f.Pending(); n != x.pending {
			t.Errorf("%s: Pending = %d", x.ack, n)
		}
		if !alike(f.All(), all) {
			t.Errorf("%s: All = %v", x.ack, f.All())
		}
		wantState(t, f, m)
		run(t, f, m, calls(x.ack+","+x.ack+", tick @5")...)
		wantState(t, f, m)
	}
}

func TestAckRefuses(t *testing.T) {
	for _, text := range []string{"own 7 @0", "own 7 @0, up 2 @0", "own 7 @0, up 2 @0, up 3 @0, take 3 5.1.1 @4"} {
		f, m := made(t, 1, 1, 4, calls(text)...)
		want := func(from int, s api.Stamp, e api.Errno) {
			t.Helper()
			if got := f.Ack(from, s); got != e {
				t.Errorf("%s: Ack(%d, %v) = %d", text, from, s, got)
			}
		}
		for _, n := range append([]int{1}, noRouters...) {
			want(n, stampOf(rec("1.1.1")), api.ErrArg)
			want(n, api.Stamp{}, api.ErrArg)
			want(n, stampOf(rec("5.1.1")), api.ErrArg)
		}
		for _, from := range []int{2, 9} {
			for _, n := range noRouters {
				want(from, api.Stamp{Origin: n, Epoch: 1, Seq: 1}, api.ErrArg)
			}
			for _, s := range []api.Stamp{{}, {Origin: 1}, {Origin: 1, Epoch: 1}, {Origin: 1, Seq: 1}, {Epoch: 1, Seq: 1}, {Origin: 5, Seq: 1}, {Origin: 5, Epoch: 1}, {Origin: 6}} {
				want(from, s, api.ErrArg)
			}
		}
		for _, from := range []int{4, 9, 24} {
			for _, s := range []string{"1.1.1", "5.1.1", "1.1.2", "24.4294967295.4294967295"} {
				want(from, stampOf(rec(s)), api.ErrDown)
			}
		}
		wantState(t, f, m)
	}
}

func TestTickTellsAgainTicksBehind(t *testing.T) {
	for _, again := range []int{1, 2, 3, 17, 63, 64} {
		for _, start := range []uint64{0, 1, 5, 1 << 32, maxTick - 200} {
			f, m := made(t, 1, 1, again)
			run(t, f, m, call{what: "own", now: start}, call{what: "up", port: 3, now: start})
			for round := 1; round <= 3; round++ {
				due := start + uint64(again*round)
				if round > 1 && due > maxTick {
					break
				}
				if l, e := f.Copy().Tick(due - 1); len(l) != 0 || e != api.OK {
					t.Errorf("again %d: a tick before: %v, %d", again, l, e)
				}
				if again > 1 {
					run(t, f, m, call{what: "tick", now: due - 1})
				}
				m.do(call{what: "tick", now: due})
				if l, e := f.Tick(due); !likeTold(l, told("3:1.1.1")) || e != api.OK {
					t.Errorf("again %d: at %d: %v, %d", again, due, l, e)
				}
				wantState(t, f, m)
			}
		}
	}
}

// A Tick that is late tells once, and counts from then on.
func TestTickThatIsLate(t *testing.T) {
	f, m := made(t, 1, 1, 4, calls("own 7 @0, up 2 @0")...)
	for _, x := range []struct{ call, told string }{
		{"tick @99", "2:1.1.1/7"}, {"tick @100", ""}, {"tick @102", ""}, {"tick @103", "2:1.1.1/7"}, {"tick @107", "2:1.1.1/7"}, {"tick @110", ""},
		{"tick @1099511627776", "2:1.1.1/7"}, {"tick @1099511627776", ""},
	} {
		c := calls(x.call)[0]
		m.do(c)
		if got := do(f, c); !likeAnswer(got, answer{told: told(x.told)}) {
			t.Errorf("%s = %v", x.call, got)
		}
	}
	wantState(t, f, m)
}

func TestTickTellsRisingByPortThenByOrigin(t *testing.T) {
	f, m := made(t, 12, 1, 4, calls("up 24 @0, up 2 @0, up 13 @0, take 24 23.1.1 @1, take 24 1.1.1 @1, own 7 @1, take 2 11.1.1 @2, ack 13 1.1.1")...)
	want := "2:1.1.1 2:12.1.1/7 2:23.1.1 13:11.1.1 13:12.1.1/7 13:23.1.1 24:11.1.1 24:12.1.1/7"
	m.do(call{what: "tick", now: 6})
	if l, e := f.Tick(6); !likeTold(l, told(want)) || e != api.OK {
		t.Errorf("Tick = %v, %d", l, e)
	}
	wantState(t, f, m)
	// Of what is owed, only that which is old enough.
	run(t, f, m, calls("take 2 1.1.2 @8, tick @10, tick @12")...)
	wantState(t, f, m)
}

func TestTickRefuses(t *testing.T) {
	for _, text := range []string{"tick @5", "own 7 @5", "up 2 @5", "own 7 @0, up 2 @5", "own 7 @0, up 2 @1, take 2 5.1.1 @5", "own 7 @0, up 2 @1, take 2 1.2.1 @5", "own 7 @0, up 2 @1, take 2 1.1.1 @5"} {
		f, m := made(t, 1, 1, 1, calls(text)...)
		for _, now := range append([]uint64{4, 3, 0}, noTicks...) {
			if l, e := f.Tick(now); len(l) != 0 || e != api.ErrArg {
				t.Errorf("%s: Tick(%d) = %v, %d", text, now, l, e)
			}
		}
		wantState(t, f, m)
		run(t, f, m, calls("tick @5, tick @5, tick @6, tick @1099511627776, tick @1099511627776, tick @1099511627775")...)
	}
}

// Ticks of calls that were refused do not count as handed in; calls without a tick leave it.
func TestTicksOfRefusedCallsDoNotCount(t *testing.T) {
	f, m := made(t, 1, 1, 4, calls("own 7 @0, up 2 @5")...)
	for _, text := range []string{
		"up 2 @90", "up 1 @90", "up 25 @90", "own -1 @90", "own 1025 @90", "take 3 5.1.1 @90", "take 1 5.1.1 @90", "take 2 0.1.1 @90", "take 2 5.0.1 @90", "take 2 25.1.1 @90", "take 0 5.1.1 @90",
		"tick @1099511627777", "own 1 @1099511627777", "up 3 @1099511627777", "take 2 5.1.1 @1099511627777", "tick @4", "own 1 @4", "up 3 @4", "take 2 5.1.1 @4",
		"down 3", "down 1", "ack 3 1.1.1", "ack 2 0.1.1",
	} {
		run(t, f, m, calls(text)...)
		wantState(t, f, m)
		if _, e := f.Copy().Tick(5); e != api.OK {
			t.Fatalf("%s: the tick 5 may not be any more: %d", text, e)
		}
		if _, e := f.Copy().Tick(4); e != api.ErrArg {
			t.Fatalf("%s: the tick 4 may be: %d", text, e)
		}
	}
}

func TestEachCallWithATickCounts(t *testing.T) {
	for _, text := range []string{"up 3 @9", "own 1 @9", "take 2 5.1.1 @9", "take 2 1.1.1 @9", "take 2 1.1.9 @9", "take 2 1.2.1 @9", "take 2 7.1.1 @9", "take 2 7.1.2 @9", "take 2 7.2.1 @9", "tick @9"} {
		for _, start := range []string{"up 2 @5, take 2 7.1.2 @5", "up 2 @5, own 7 @5, take 2 7.1.2 @5"} {
			f, m := made(t, 1, 1, 4, calls(start)...)
			run(t, f, m, calls(text)...)
			for _, late := range []string{"up 4 @8", "own 2 @8", "take 2 6.1.1 @8", "tick @8"} {
				if got := do(f, calls(late)[0]); !likeAnswer(got, refused(api.ErrArg)) {
					t.Errorf("%s, then %s: %v", text, late, got)
				}
			}
			wantState(t, f, m)
			run(t, f, m, calls("up 4 @9, own 2 @9, take 2 6.1.1 @9, tick @9")...)
			wantState(t, f, m)
		}
	}
}

// Rows of calls

// Each row of a few calls, out of several beginnings: at each fork both sides go on with copies.
func TestAllShortRows(t *testing.T) {
	var steps []call
	for i, text := range []string{
		"up 2", "up 3", "down 2", "own 7", "take 2 5.1.1", "take 3 5.1.1", "take 2 5.1.2", "take 3 5.2.1", "take 2 1.1.1", "take 3 1.1.3", "take 3 1.2.1",
		"ack 2 1.1.1", "ack 2 5.1.1", "ack 3 5.1.2", "tick @0", "tick @1", "tick @2",
	} {
		c := calls(text)[0]
		if i%4 == 1 && c.what != "tick" {
			c.now = 1
		}
		steps = append(steps, c)
	}
	var grow func(f *flood.Flood, m *model, left int)
	grow = func(f *flood.Flood, m *model, left int) {
		if left < 2 {
			wantState(t, f, m)
		}
		if left == 0 {
			return
		}
		for _, c := range steps {
			c.now += m.last
			g, gm := f.Copy(), m.copied()
			run(t, g, gm, c)
			grow(g, gm, left-1)
		}
	}
	for _, start := range []string{"", "own 7 @0, up 2 @0", "up 3 @0, up 2 @0, own 7 @0, take 2 5.1.1 @0", "up 2 @3, up 3 @4, up 4 @5, own 1 @5"} {
		f, m := made(t, 1, 1, 2, calls(start)...)
		grow(f, m, 3)
	}
}

// next is a call, mostly right, now and then wrong in one thing.
func (d *dice) next(m *model, origins, ages int) call {
	c := call{what: []string{"up", "up", "down", "own", "take", "take", "take", "take", "ack", "ack", "ack", "tick", "tick"}[d.below(13)]}
	c.port, c.now = 1+d.below(origins), m.last+uint64(d.below(3))
	c.r = d.record(origins, ages)
	if c.what == "own" {
		c.r = api.Record{Claim: d.below(1025), Ingress: d.below(2) == 0, Adjs: d.adjs(m.self)}
	}
	if c.what == "take" && d.below(3) == 0 && c.r.Origin == m.self {
		c.r.Epoch = m.epoch
	}
	if l := m.all(); c.what == "ack" && len(l) > 0 && d.below(4) > 0 {
		c.r = l[d.below(len(l))]
	}
	switch d.below(40) {
	case 0:
		c.port = noRouters[d.below(len(noRouters))]
	case 1:
		c.port = m.self
	case 2:
		c.now = noTicks[d.below(len(noTicks))]
	case 3:
		c.now = m.last - min(m.last, 1)
	case 4:
		l := noRecords()
		c.r = l[d.below(len(l))]
	case 5:
		c.r.Claim = 1025
	}
	return c
}

func TestLongRows(t *testing.T) {
	var d dice = 17
	for _, x := range []struct{ origins, ages, again int }{{3, 2, 1}, {4, 3, 2}, {6, 3, 5}, {24, 2, 3}, {24, 4, 64}} {
		for range 20 {
			self := 1 + d.below(x.origins)
			f, m := made(t, self, uint32(1+d.below(x.ages)), x.again)
			for i := range 150 {
				run(t, f, m, d.next(m, x.origins, x.ages))
				if i%10 == 9 {
					wantState(t, f, m)
				}
			}
			wantState(t, f, m)
		}
	}
}

// P10.6

// message goes from one flood to another: a record, or the ack of one.
type message struct {
	from, to int
	ack      bool
	r        api.Record
}

// field is floods, links between them, and messages on their way.
type field struct {
	t      *testing.T
	d      dice
	now    uint64
	floods map[int]*flood.Flood
	epochs map[int]uint32
	links  map[[2]int]bool // up or not
	flying []message
	again  int
}

func newField(t *testing.T, seed dice, again int, links ...[2]int) *field {
	w := &field{t: t, d: seed, again: again, floods: map[int]*flood.Flood{}, epochs: map[int]uint32{}, links: map[[2]int]bool{}}
	for _, l := range links {
		w.links[l] = false
		for _, n := range l {
			if w.floods[n] == nil {
				w.start(n)
			}
		}
	}
	return w
}

func (w *field) numbers() []int {
	var l []int
	for n := 1; n <= 24; n++ {
		if w.floods[n] != nil {
			l = append(l, n)
		}
	}
	return l
}

func (w *field) pairs() [][2]int {
	var l [][2]int
	for a := 1; a <= 24; a++ {
		for b := 1; b <= 24; b++ {
			if _, ok := w.links[[2]int{a, b}]; ok {
				l = append(l, [2]int{a, b})
			}
		}
	}
	return l
}

func (w *field) ok(e api.Errno) {
	w.t.Helper()
	if e != api.OK {
		w.t.Fatalf("refused: %d", e)
	}
}

func (w *field) fly(from int, l []api.Send) {
	for _, s := range l {
		w.flying = append(w.flying, message{from: from, to: s.To, r: s.Record})
	}
}

func (w *field) own(n int) {
	w.t.Helper()
	l, e := w.floods[n].Own(w.d.below(1025), w.d.below(2) == 0, w.d.adjs(n), w.now)
	w.ok(e)
	w.fly(n, l)
}

// start is a new life: what was on its way to and from the former one is gone, as its links were.
func (w *field) start(n int) {
	w.t.Helper()
	for _, p := range w.pairs() {
		if w.links[p] && (p[0] == n || p[1] == n) {
			w.cut(p)
		}
	}
	w.flying = slices.DeleteFunc(w.flying, func(m message) bool { return m.from == n || m.to == n })
	w.epochs[n]++
	f, e := flood.New(n, w.epochs[n], w.again)
	w.ok(e)
	w.floods[n] = f
	w.own(n)
}

func (w *field) cut(p [2]int) {
	w.t.Helper()
	w.links[p] = false
	w.ok(w.floods[p[0]].Down(p[1]))
	w.ok(w.floods[p[1]].Down(p[0]))
}

func (w *field) mend(p [2]int) {
	w.t.Helper()
	w.links[p] = true
	for _, x := range [][2]int{p, {p[1], p[0]}} {
		l, e := w.floods[x[0]].Up(x[1], w.now)
		w.ok(e)
		w.fly(x[0], l)
	}
}

func (w *field) deliver(m message) {
	w.t.Helper()
	f := w.floods[m.to]
	if m.ack {
		if e := f.Ack(m.from, stampOf(m.r)); e != api.OK && e != api.ErrDown {
			w.t.Fatalf("Ack: %d", e)
		}
		return
	}
	before := f.All()
	changed, l, e := f.Take(m.from, m.r, w.now)
	if e == api.ErrDown {
		return
	}
	w.ok(e)
	if changed == alike(before, f.All()) {
		w.t.Fatalf("Take(%v) says %v of %v, then %v", m.r, changed, before, f.All())
	}
	w.fly(m.to, l)
	w.flying = append(w.flying, message{from: m.to, to: m.from, ack: true, r: m.r})
}

// wild lets messages be lost, doubled, late, come in any order, while routers tell anew, start again, and links come and go.
func (w *field) wild(ticks int) {
	w.t.Helper()
	for range ticks {
		w.now += uint64(w.d.below(3))
		l := shuffled(&w.d, w.flying)
		w.flying = nil
		for _, m := range l {
			switch w.d.below(6) {
			case 0: // lost
			case 1: // late
				w.flying = append(w.flying, m)
			case 2: // doubled, the second one late
				w.deliver(m)
				w.flying = append(w.flying, m)
			default:
				w.deliver(m)
			}
		}
		numbers, pairs := w.numbers(), w.pairs()
		if w.d.below(4) == 0 {
			w.own(numbers[w.d.below(len(numbers))])
		}
		if w.d.below(25) == 0 {
			w.start(numbers[w.d.below(len(numbers))])
		}
		if p := pairs[w.d.below(len(pairs))]; w.d.below(3) == 0 {
			if w.links[p] {
				w.cut(p)
			} else {
				w.mend(p)
			}
		}
		w.tick()
	}
}

func (w *field) tick() {
	w.t.Helper()
	for _, n := range w.numbers() {
		if w.d.below(4) > 0 {
			l, e := w.floods[n].Tick(w.now)
			w.ok(e)
			w.fly(n, l)
		}
	}
}

func (w *field) pending() int {
	n := 0
	for _, f := range w.floods {
		n += f.Pending()
	}
	return n
}

// calm lets all messages come, some of them late, till nothing is pending.
func (w *field) calm() {
	w.t.Helper()
	for range 3000 {
		if w.pending() == 0 && len(w.flying) == 0 {
			return
		}
		w.now++
		l := shuffled(&w.d, w.flying)
		w.flying = nil
		for _, m := range l {
			if w.d.below(4) == 0 {
				w.flying = append(w.flying, m)
			} else {
				w.deliver(m)
			}
		}
		w.tick()
	}
	w.t.Fatalf("%d are pending still", w.pending())
}

func (w *field) part(root int) []int {
	met := map[int]bool{root: true}
	for range w.floods {
		for p, up := range w.links {
			if up && (met[p[0]] || met[p[1]]) {
				met[p[0]], met[p[1]] = true, true
			}
		}
	}
	var l []int
	for _, n := range w.numbers() {
		if met[n] {
			l = append(l, n)
		}
	}
	return l
}

func (w *field) wantSame() {
	w.t.Helper()
	for _, n := range w.numbers() {
		mine := w.floods[n].All()
		for _, other := range w.part(n) {
			if theirs := w.floods[other].All(); !alike(mine, theirs) {
				w.t.Fatalf("%d has %v, %d has %v", n, mine, other, theirs)
			}
			// Each has the other's own one, of its life.
			i := slices.IndexFunc(mine, func(r api.Record) bool { return r.Origin == other })
			if i < 0 || mine[i].Epoch != w.epochs[other] {
				w.t.Fatalf("%d has %v: not %d's in its life %d", n, mine, other, w.epochs[other])
			}
		}
	}
}

var fields = [][][2]int{
	{{1, 2}},
	{{1, 2}, {2, 3}},
	{{1, 2}, {2, 3}, {1, 3}},
	{{1, 24}, {24, 12}, {12, 6}, {6, 1}, {6, 24}},
	{{1, 2}, {3, 4}, {2, 4}, {4, 5}, {5, 6}, {6, 7}, {7, 1}, {9, 10}},
	{{1, 2}, {1, 3}, {1, 4}, {1, 5}, {1, 6}, {1, 7}, {1, 8}, {8, 2}},
}

func TestAllComeToTheSameAtLast(t *testing.T) {
	for i, links := range fields {
		for seed := range 12 {
			w := newField(t, dice(seed*100+i), 1+seed%5, links...)
			for range 3 {
				w.wild(60)
				w.calm()
				w.wantSame()
			}
			// And once all are linked.
			for _, p := range w.pairs() {
				if !w.links[p] {
					w.mend(p)
				}
			}
			w.calm()
			w.wantSame()
		}
	}
}

// Most are lost: it is told again till one comes, and its ack comes.
func TestMostAreLost(t *testing.T) {
	for seed := range 20 {
		w := newField(t, dice(seed), 2, fields[seed%len(fields)]...)
		for _, p := range w.pairs() {
			w.mend(p)
		}
		for range 2000 {
			w.now++
			l := w.flying
			w.flying = nil
			for _, m := range l {
				if w.d.below(5) == 0 {
					w.deliver(m)
				}
			}
			w.tick()
		}
		if n := w.pending(); n != 0 {
			t.Fatalf("%d are pending still", n)
		}
		w.wantSame()
	}
}

// A whole chain of 24, and a star of 24: all come to all.
func TestAllRoutersComeToTheSame(t *testing.T) {
	var chain, star [][2]int
	for n := 2; n <= 24; n++ {
		chain, star = append(chain, [2]int{n - 1, n}), append(star, [2]int{1, n})
	}
	for seed, links := range [][][2]int{chain, star} {
		w := newField(t, dice(seed), 3, links...)
		for _, p := range w.pairs() {
			w.mend(p)
		}
		w.calm()
		w.wantSame()
		if l := w.floods[24].All(); len(l) != 24 {
			t.Errorf("24 has %d records", len(l))
		}
	}
}

// Another flood has one of its records from before, in the same life: at last all have one that is newer still.
func TestOneFromBeforeIsOutrunEverywhere(t *testing.T) {
	w := newField(t, 3, 4, [2]int{1, 2}, [2]int{2, 3}, [2]int{3, 4})
	f := w.floods[4]
	l, e := f.Up(9, 0)
	w.ok(e)
	_, l, e = f.Take(9, rec("1.1.77/5"), 0)
	w.ok(e)
	w.ok(f.Down(9))
	if len(l) != 0 {
		t.Errorf("told: %v", l)
	}
	for _, p := range w.pairs() {
		w.mend(p)
	}
	own := w.floods[1].All()[0]
	w.calm()
	w.wantSame()
	own.Seq = 78
	if l := w.floods[4].All(); !like(l[0], own) {
		t.Errorf("All = %v; the first should be %v", l, own)
	}
}

// P10.7

func TestTheSecondTickTellsNothing(t *testing.T) {
	var d dice = 29
	for _, again := range []int{1, 2, 64} {
		for range 40 {
			self := 1 + d.below(6)
			f, m := made(t, self, 1, again)
			for range 60 {
				run(t, f, m, d.next(m, 6, 3))
				f.Tick(m.last)
				m.do(call{what: "tick", now: m.last})
				for range 2 {
					if l, e := f.Tick(m.last); len(l) != 0 || e != api.OK {
						t.Fatalf("the second Tick(%d) = %v, %d", m.last, l, e)
					}
				}
				// Nor does what was told at this tick by another call come again at it.
				for _, c := range []call{{what: "own", now: m.last}, {what: "up", port: 7, now: m.last}} {
					run(t, f, m, c)
					if l, e := f.Tick(m.last); len(l) != 0 || e != api.OK {
						t.Fatalf("Tick(%d) behind %v = %v, %d", m.last, c, l, e)
					}
				}
				run(t, f, m, call{what: "down", port: 7})
			}
		}
	}
}

// What is told is what it has, to ports that are up; what it has never grows older.
func TestNothingGrowsOlder(t *testing.T) {
	var d dice = 31
	for round := range 60 {
		self := 1 + d.below(8)
		f, m := made(t, self, 2, 1+round%6)
		newest := map[int]uint64{}
		for range 200 {
			c := d.next(m, 8, 4)
			before := f.Copy()
			a := do(f, c)
			m.do(c)
			have := f.All()
			for _, r := range have {
				if age(r) < newest[r.Origin] {
					t.Fatalf("%v: %v has grown older", c, r)
				}
				newest[r.Origin] = age(r)
			}
			if len(have) < len(before.All()) {
				t.Fatalf("%v: %v, then %v", c, before.All(), have)
			}
			for _, s := range a.told {
				if !slices.ContainsFunc(have, func(r api.Record) bool { return like(r, s.Record) }) || f.Copy().Down(s.To) != api.OK {
					t.Fatalf("%v: %v is told; it has %v", c, s, have)
				}
			}
			if c.what != "own" && a.changed == alike(before.All(), have) {
				t.Fatalf("%v says changed %v: %v, then %v", c, a.changed, before.All(), have)
			}
		}
	}
}

// R3

func wantNotThere(t *testing.T, f *flood.Flood) {
	t.Helper()
	for _, n := range append([]int{1, 2, 24}, noRouters...) {
		for _, now := range append([]uint64{0, 1, maxTick}, noTicks...) {
			for _, c := range []call{{"up", n, rec("1.1.1"), now}, {"take", n, rec("2.1.1"), now}, {"take", n, api.Record{}, now}, {"own", 0, rec("1.1.1"), now}, {"own", 0, api.Record{Claim: n}, now}, {"tick", 0, api.Record{}, now}} {
				if got := do(f, c); !likeAnswer(got, refused(api.ErrNil)) {
					t.Fatalf("%v = %v", c, got)
				}
			}
		}
		if e := f.Down(n); e != api.ErrNil {
			t.Errorf("Down(%d) = %d", n, e)
		}
		for _, s := range []api.Stamp{{}, {Origin: 1, Epoch: 1, Seq: 1}, {Origin: 25}} {
			if e := f.Ack(n, s); e != api.ErrNil {
				t.Errorf("Ack(%d, %v) = %d", n, s, e)
			}
		}
	}
	if n, l, c := f.Pending(), f.All(), f.Copy(); n != 0 || len(l) != 0 || c != nil {
		t.Errorf("Pending, All, Copy: %d, %v, %v", n, l, c)
	}
}

func TestFloodsThatAreNotThere(t *testing.T) {
	var none flood.Flood
	wrong, _ := flood.New(0, 1, 1)
	for range 2 {
		wantNotThere(t, nil)
		wantNotThere(t, wrong)
		wantNotThere(t, new(flood.Flood))
		wantNotThere(t, &none)
		wantNotThere(t, (*flood.Flood)(nil).Copy())
		wantNotThere(t, none.Copy())
	}
}

// The order of a map is never seen: the same calls answer the same each time, and by rising numbers.
func TestNoOrderIsSeen(t *testing.T) {
	byPortThenOrigin := func(a, b api.Send) int { return (a.To-b.To)*100 + a.Record.Origin - b.Record.Origin }
	var first []answer
	for round := range 25 {
		f, _ := full(t, 12, 2)
		var l []answer
		for _, c := range calls("tick @40, own 5 @41, take 3 5.90.1 @41, down 7, up 7 @42, take 9 12.3.40 @43, ack 5 6.6.19, tick @60") {
			for range 2 {
				f = f.Copy()
			}
			a := do(f, c)
			if a.e != api.OK || !slices.IsSortedFunc(a.told, byPortThenOrigin) {
				t.Fatalf("%v = %v", c, a)
			}
			l = append(l, a, answer{told: []api.Send{{To: f.Pending()}}})
		}
		if round == 0 {
			first = l
		} else if !slices.EqualFunc(l, first, likeAnswer) {
			t.Fatalf("the same calls: %v, then %v", first, l)
		}
	}
}

// R5

var mark = api.Adj{To: -9, Cost: -9}

// guarded has marked room behind its end.
func guarded(l []api.Adj) []api.Adj { return append(slices.Clone(l), mark, mark, mark)[:len(l)] }

func wantGuarded(t *testing.T, what string, l, was []api.Adj) {
	t.Helper()
	if !slices.Equal(l, was) || !slices.Equal(l[:len(l)+3][len(l):], []api.Adj{mark, mark, mark}) {
		t.Errorf("%s: %v became %v", what, was, l[:len(l)+3])
	}
}

func scribble(l []api.Adj) {
	l = l[:cap(l)]
	for i := range l {
		l[i] = api.Adj{To: -7, Cost: -7}
	}
}

func TestWhatIsHandedInStays(t *testing.T) {
	lists := [][]api.Adj{nil, {}, {{To: 3, Cost: 5}}, {{To: 3, Cost: 5}, {To: 9, Cost: 1000}}, fullest()[0].Adjs, {{To: 9, Cost: 5}, {To: 3, Cost: 1}}, {{To: 1, Cost: 1}}}
	for _, text := range []string{"tick @0", "up 2 @0, up 3 @0", "own 7 @0, up 2 @0, up 4 @0, take 2 5.1.1 @0"} {
		f, _ := made(t, 1, 1, 4, calls(text)...)
		for _, was := range lists {
			l := guarded(was)
			for i := range 3 {
				f.Own(i, false, l, 1)
				f.Take(2, api.Record{Origin: 5, Epoch: 1, Seq: uint32(3 - i), Adjs: l}, 1)
				f.Take(2, api.Record{Origin: 6, Epoch: 1, Seq: uint32(i + 1), Adjs: l}, 1)
				f.Take(4, api.Record{Origin: 1, Epoch: 1, Seq: uint32(i*9 + 1), Adjs: l}, 1)
				f.Tick(uint64(9 * i))
			}
			wantGuarded(t, text, l, was)
		}
	}
}

func TestWhatIsHandedInIsNotKept(t *testing.T) {
	f, m := made(t, 1, 1, 4, calls("up 2 @0, up 3 @0")...)
	for i := range 6 {
		l := guarded([]api.Adj{{To: 4, Cost: 1 + i}, {To: 7, Cost: 7}})
		for _, c := range []call{
			{what: "own", r: api.Record{Claim: i, Adjs: l}, now: 1}, {what: "take", port: 2, r: api.Record{Origin: 5, Epoch: 1, Seq: uint32(1 + i), Adjs: l}, now: 1},
			{what: "take", port: 3, r: api.Record{Origin: 1, Epoch: 1, Seq: uint32(10 * (i + 1)), Adjs: l}, now: 1},
		} {
			run(t, f, m, c)
		}
		scribble(l)
		if have := f.All(); !alike(have, m.all()) {
			t.Fatalf("All = %v; it should be %v", have, m.all())
		}
		wantState(t, f, m)
	}
}

// Each of several answers of a call is scribbled over: neither the others, nor the flood, nor a copy may tell it.
func TestWhatIsAnsweredIsNew(t *testing.T) {
	adjs := []api.Adj{{To: 4, Cost: 1}, {To: 7, Cost: 7}}
	full := api.Record{Origin: 5, Epoch: 1, Seq: 5, Adjs: adjs}
	for _, c := range []call{
		{what: "own", r: full, now: 3}, {what: "up", port: 9, now: 3}, {what: "take", port: 2, r: api.Record{Origin: 6, Epoch: 1, Seq: 1, Adjs: slices.Clone(adjs)}, now: 3},
		{what: "take", port: 2, r: api.Record{Origin: 1, Epoch: 1, Seq: 9, Adjs: slices.Clone(adjs)}, now: 3}, {what: "take", port: 3, r: rec("5.1.1"), now: 3},
		{what: "take", port: 3, r: rec("1.2.1"), now: 3}, {what: "tick", now: 30},
	} {
		f, m := made(t, 1, 1, 4, calls("up 2 @0, up 3 @0, up 4 @0")...)
		run(t, f, m, call{what: "own", r: full, now: 0}, call{what: "take", port: 2, r: full, now: 1})
		k := f.Copy()
		km := m.copied()
		want := m.do(c)
		got := do(f, c)
		for i := range got.told {
			if !likeTold(got.told[i:], want.told[i:]) {
				t.Fatalf("%v: what was answered is shared: %v", c, got.told)
			}
			scribble(got.told[i].Record.Adjs)
		}
		for i := range got.told[:cap(got.told)] {
			got.told[:cap(got.told)][i] = api.Send{To: -7}
		}
		if !slices.Equal(full.Adjs, adjs) || c.r.Adjs != nil && !slices.Equal(c.r.Adjs, []api.Adj{{To: 4, Cost: 1}, {To: 7, Cost: 7}}) {
			t.Fatalf("%v: what was handed in is answered", c)
		}
		for range 2 {
			l := f.All()
			if !alike(l, m.all()) {
				t.Fatalf("%v: All = %v; it should be %v", c, l, m.all())
			}
			for i := range l {
				if !alike(l[i:], m.all()[i:]) {
					t.Fatalf("%v: the lists of All are shared", c)
				}
				scribble(l[i].Adjs)
				l[i] = api.Record{}
			}
		}
		wantState(t, f, m)
		wantState(t, k, km)
	}
}

// What one flood tells is taken by another: they have nothing in common.
func TestWhatIsToldOnIsNotShared(t *testing.T) {
	a, am := made(t, 1, 1, 4, calls("up 2 @0")...)
	b, bm := made(t, 2, 1, 4, calls("up 1 @0, up 3 @0")...)
	run(t, a, am, call{what: "own", r: api.Record{Adjs: []api.Adj{{To: 2, Cost: 5}}}, now: 0})
	l, _ := a.Tick(4)
	am.do(call{what: "tick", now: 4})
	run(t, b, bm, call{what: "take", port: 1, r: l[0].Record, now: 4})
	scribble(l[0].Record.Adjs)
	wantState(t, a, am)
	wantState(t, b, bm)
}

// R6

func TestAskingChangesNothing(t *testing.T) {
	var d dice = 41
	for range 30 {
		f, m := made(t, 3, 1, 3)
		for range 60 {
			run(t, f, m, d.next(m, 6, 3))
			f.All()
			f.Pending()
			f.Copy().Tick(m.last + 50)
			f.Copy().Down(2)
		}
		wantState(t, f, m)
	}
}

// Each two bytes of what is made up are a call, right or wrong.
func FuzzFlood(f *testing.F) {
	f.Add([]byte{0, 1, 2, 3, 4, 5, 6, 7})
	f.Add([]byte("own, then up, then take, then ack, then tick"))
	f.Add([]byte{0xff, 0, 0xfe, 1, 0x80, 0x81, 0x82, 0x83, 0x10, 0x11, 0x12, 0x13, 0x20, 0x21})
	f.Fuzz(func(t *testing.T, raw []byte) {
		g, m := made(t, 2, 2, 3)
		for len(raw) >= 2 {
			a, b := int(raw[0]), int(raw[1])
			raw = raw[2:]
			c := call{what: []string{"up", "down", "own", "take", "ack", "tick", "take", "ack"}[a%8], port: a / 8 % 6, now: m.last + uint64(b%4)}
			c.r = api.Record{Origin: b / 4 % 6, Epoch: uint32(a / 48), Seq: uint32(b / 24 % 4), Claim: b * 4 % 1030, Ingress: b%2 == 0}
			if b > 250 {
				c.r.Seq = uint32(1<<32 - 256 + b)
			}
			if to := b % 26; to%3 == 0 {
				c.r.Adjs = []api.Adj{{To: to, Cost: a * 4}}
			}
			if a%8 == 7 {
				if l := m.all(); len(l) > 0 {
					c.r = l[b%len(l)]
				}
			}
			run(t, g, m, c)
		}
		wantState(t, g, m)
	})
}
