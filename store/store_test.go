package store_test

import (
	"fmt"
	"math"
	"reflect"
	"slices"
	"strings"
	"testing"

	"dandelion/api"
	"dandelion/store"
)

// far are numbers far from all routers, such as are like one in their lowest bits among them.
var far = []int{
	math.MinInt, math.MinInt + 1, math.MinInt + 24, math.MinInt32, math.MinInt32 + 1, math.MaxInt32, math.MaxInt - 1, math.MaxInt,
	1<<8 + 1, 1<<8 + 24, 1<<16 + 1, 1<<16 + 2, 1<<16 + 24, 1 << 32, 1<<32 + 1, 1<<32 + 2, 1<<32 + 24,
	1 - 1<<8, 24 - 1<<8, 1 - 1<<16, 2 - 1<<16, -1 << 32, 1 - 1<<32, 2 - 1<<32, 24 - 1<<32, 1<<61 + 1, 1 << 62, 1<<62 + 2,
}

var noRouters = append([]int{0, -1, -2, -3, -24, -25, 25, 26, 27, 32, 48, 255}, far...)

var numbers = []uint32{1, 2, 3, 255, 256, 257, 1 << 16, 1<<31 - 1, 1 << 31, 1<<31 + 1, math.MaxUint32 - 1, math.MaxUint32}

// adjs reads neighbours as "1/7 3/1".
func adjs(text string) []api.Adj {
	var l []api.Adj
	for _, s := range strings.Fields(text) {
		var a api.Adj
		fmt.Sscanf(s, "%d/%d", &a.To, &a.Cost)
		l = append(l, a)
	}
	return l
}

// rec reads "1 2.1", and neighbours behind it as "1 2.1 2/5 3/1".
func rec(text string) api.Record {
	var r api.Record
	fmt.Sscanf(text, "%d %d.%d", &r.Origin, &r.Epoch, &r.Seq)
	if f := strings.Fields(text); len(f) > 2 {
		r.Adjs = adjs(strings.Join(f[2:], " "))
	}
	return r
}

// recs reads records that are parted by commas.
func recs(text string) []api.Record {
	var l []api.Record
	for _, s := range strings.Split(text, ",") {
		if s = strings.TrimSpace(s); s != "" {
			l = append(l, rec(s))
		}
	}
	return l
}

func stampOf(r api.Record) api.Stamp {
	return api.Stamp{Origin: r.Origin, Epoch: r.Epoch, Seq: r.Seq}
}

func stampsOf(l []api.Record) []api.Stamp {
	var out []api.Stamp
	for _, r := range l {
		out = append(out, stampOf(r))
	}
	return out
}

func stamps(text string) []api.Stamp { return stampsOf(recs(text)) }

func originsOf(l []api.Record) []int {
	var out []int
	for _, r := range l {
		out = append(out, r.Origin)
	}
	return out
}

// cloned shares nothing with l.
func cloned(l []api.Record) []api.Record {
	l = slices.Clone(l)
	for i := range l {
		l[i].Adjs = slices.Clone(l[i].Adjs)
	}
	return l
}

// like holds records against each other; an empty list is like none.
func like(a, b api.Record) bool {
	if len(a.Adjs) == 0 && len(b.Adjs) == 0 {
		a.Adjs, b.Adjs = nil, nil
	}
	return reflect.DeepEqual(a, b)
}

func alike(a, b []api.Record) bool { return slices.EqualFunc(a, b, like) }

func likeGraph(a, b api.Graph) bool {
	return slices.Equal(a.Nodes, b.Nodes) && slices.Equal(a.Edges, b.Edges)
}

func isNothing(r api.Record) bool { return like(r, api.Record{}) }

// age is greater for the newer one of two stamps.
func age(s api.Stamp) uint64 { return uint64(s.Epoch)<<32 | uint64(s.Seq) }

// model has all that was put, in that order, and looks through the whole of it each time.
type model struct{ put []api.Record }

func (m *model) get(origin int) (api.Record, bool) {
	var best api.Record
	for _, r := range m.put {
		if r.Origin == origin && age(stampOf(r)) > age(stampOf(best)) {
			best = r
		}
	}
	return best, best.Epoch > 0
}

func (m *model) all() []api.Record {
	var l []api.Record
	for n := 1; n <= 24; n++ {
		if r, ok := m.get(n); ok {
			l = append(l, r)
		}
	}
	return l
}

func (m *model) answer(r api.Record) int {
	have, ok := m.get(r.Origin)
	switch {
	case !ok || age(stampOf(r)) > age(stampOf(have)):
		return 1
	case age(stampOf(r)) < age(stampOf(have)):
		return -1
	}
	return 0
}

func tells(l []api.Record, from, to int) (int, bool) {
	for _, r := range l {
		for _, a := range r.Adjs {
			if r.Origin == from && a.To == to {
				return a.Cost, true
			}
		}
	}
	return 0, false
}

func graphOf(l []api.Record) api.Graph {
	g := api.Graph{Nodes: originsOf(l)}
	for _, a := range g.Nodes {
		for _, b := range g.Nodes {
			cost, there := tells(l, a, b)
			if _, back := tells(l, b, a); there && back {
				g.Edges = append(g.Edges, api.Edge{From: a, To: b, Cost: cost})
			}
		}
	}
	return g
}

// liveOf goes over all edges again and again, till nobody is met any more.
func liveOf(l []api.Record, root int) []api.Record {
	met := map[int]bool{root: slices.Contains(originsOf(l), root)}
	for range l {
		for _, e := range graphOf(l).Edges {
			met[e.To] = met[e.To] || met[e.From]
		}
	}
	var out []api.Record
	for _, r := range l {
		if met[r.Origin] {
			out = append(out, r)
		}
	}
	return out
}

func missingOf(l []api.Record, theirs []api.Stamp) (send []api.Record, want []int) {
	for n := 1; n <= 24; n++ {
		var own, their uint64
		var r api.Record
		for _, x := range l {
			if x.Origin == n {
				r, own = x, age(stampOf(x))
			}
		}
		for _, x := range theirs {
			if x.Origin == n {
				their = age(x)
			}
		}
		if own > their {
			send = append(send, r)
		}
		if own < their {
			want = append(want, n)
		}
	}
	return send, want
}

// put puts records to both, and looks at what Put answers.
func put(t *testing.T, s *store.Store, m *model, l ...api.Record) {
	t.Helper()
	for _, r := range l {
		want := m.answer(r)
		if n, e := s.Put(r); n != want || e != api.OK {
			t.Fatalf("Put(%v) with %v = %d, %d; it should be %d", r, m.all(), n, e, want)
		}
		m.put = append(m.put, cloned([]api.Record{r})...)
	}
}

// made is a store with these records put, and what should be in it.
func made(t *testing.T, l ...api.Record) (*store.Store, *model) {
	t.Helper()
	s, m := store.New(), &model{}
	if s == nil {
		t.Fatal("New is nil")
	}
	put(t, s, m, l...)
	return s, m
}

func wantMissing(t *testing.T, s *store.Store, have []api.Record, l []api.Stamp) {
	t.Helper()
	send, want, e := s.Missing(l)
	shouldSend, shouldWant := missingOf(have, l)
	if !alike(send, shouldSend) || !slices.Equal(want, shouldWant) || e != api.OK {
		t.Fatalf("Missing(%v) with %v = %v, %v, %d; it should be %v, %v", l, have, send, want, e, shouldSend, shouldWant)
	}
}

// wantAll looks through all that a store tells.
func wantAll(t *testing.T, s *store.Store, m *model) {
	t.Helper()
	have := m.all()
	if l := s.All(); !alike(l, have) {
		t.Fatalf("All = %v; it should be %v", l, have)
	}
	if l := s.Stamps(); !slices.Equal(l, stampsOf(have)) {
		t.Fatalf("Stamps of %v = %v", have, l)
	}
	for n := -1; n <= 26; n++ {
		want, there := m.get(n)
		if r, ok := s.Get(n); !like(r, want) || ok != there {
			t.Fatalf("Get(%d) = %v, %v; it should be %v, %v", n, r, ok, want, there)
		}
	}
	if g, e := s.Graph(); !likeGraph(g, graphOf(have)) || e != api.OK {
		t.Fatalf("Graph of %v = %v, %d", have, g, e)
	}
	wantMissing(t, s, have, nil)
	wantMissing(t, s, have, stampsOf(have))
}

func wantLive(t *testing.T, s *store.Store, have []api.Record, root int) {
	t.Helper()
	want := liveOf(have, root)
	if l, e := s.Live(root); !alike(l, want) || e != api.OK {
		t.Fatalf("Live(%d) of %v = %v, %d; it should be %v", root, have, l, e, originsOf(want))
	}
}

// oneOfEach has a record of each router: each says that the ones beside it are its neighbours, but 8 and 9 do not say so of each other.
func oneOfEach() []api.Record {
	var l []api.Record
	for n := 1; n <= 24; n++ {
		r := api.Record{Origin: n, Epoch: uint32(n%5 + 1), Seq: uint32(30 - n), Claim: n * 40, Ingress: n%3 == 0}
		for _, to := range []int{n - 1, n + 1} {
			if to >= 1 && to <= 24 && n+to != 17 {
				r.Adjs = append(r.Adjs, api.Adj{To: to, Cost: n*10 + to})
			}
		}
		l = append(l, r)
	}
	return l
}

// fullest have as many neighbours as may be, such that all of them say so of each other.
func fullest() []api.Record {
	var l []api.Record
	for n := range 24 {
		r := api.Record{Origin: n + 1, Epoch: math.MaxUint32, Seq: math.MaxUint32, Claim: 1024, Ingress: true}
		for to := range 24 {
			if off := (to - n + 24) % 24; off >= 1 && off <= 8 || off >= 16 {
				r.Adjs = append(r.Adjs, api.Adj{To: to + 1, Cost: 1000 - off})
			}
		}
		l = append(l, r)
	}
	return l
}

// dice is a row of numbers that is the same each time.
type dice uint64

func (d *dice) below(n int) int {
	*d = *d*6364136223846793005 + 1442695040888963407
	return int(uint64(*d) >> 33 % uint64(n))
}

// record has an Origin and numbers below these limits, so that many are of one Origin, and some of one stamp.
func (d *dice) record(origins, ages int) api.Record {
	r := api.Record{Origin: 1 + d.below(origins), Epoch: uint32(1 + d.below(ages)), Seq: uint32(1 + d.below(ages)), Claim: d.below(1025), Ingress: d.below(2) == 0}
	for to := 1; to <= origins && len(r.Adjs) < 16; to++ {
		if to != r.Origin && d.below(4) < 2 {
			r.Adjs = append(r.Adjs, api.Adj{To: to, Cost: 1 + d.below(1000)})
		}
	}
	return r
}

func (d *dice) records(count, origins, ages int) []api.Record {
	var l []api.Record
	for range count {
		l = append(l, d.record(origins, ages))
	}
	return l
}

func shuffled[T any](d *dice, l []T) []T {
	l = slices.Clone(l)
	for i := len(l) - 1; i > 0; i-- {
		k := d.below(i + 1)
		l[i], l[k] = l[k], l[i]
	}
	return l
}

// eachOrder goes through all orders of l.
func eachOrder[T any](l []T, do func(l []T)) {
	var from func(at int)
	from = func(at int) {
		if at == len(l) {
			do(slices.Clone(l))
			return
		}
		for i := at; i < len(l); i++ {
			l[at], l[i] = l[i], l[at]
			from(at + 1)
			l[at], l[i] = l[i], l[at]
		}
	}
	from(0)
}

// noRecords may not be: one thing is wrong with each of them. Their stamps are the newest ones, where it is not the stamp that is wrong.
func noRecords() []api.Record {
	const top = math.MaxUint32
	l := []api.Record{{}, {Origin: 1}, {Origin: 24, Epoch: 0, Seq: top}, {Origin: 24, Epoch: top, Seq: 0}, {Origin: 1, Epoch: 0, Seq: 1}, {Origin: 1, Epoch: 1, Seq: 0}}
	for _, n := range noRouters {
		l = append(l, api.Record{Origin: n, Epoch: top, Seq: top}, api.Record{Origin: n, Epoch: 1, Seq: 1})
		l = append(l, api.Record{Origin: 2, Epoch: top, Seq: top, Adjs: []api.Adj{{To: n, Cost: 1}}})
	}
	for _, n := range append([]int{-1, 1025, 2048}, far...) {
		if n < 0 || n > 1024 {
			l = append(l, api.Record{Origin: 3, Epoch: top, Seq: top, Claim: n})
		}
	}
	for _, text := range []string{"3/1 2/1", "2/1 2/1", "2/1 2/2", "5/1", "4/1 5/1 6/1", "2/0", "2/-1", "2/1001", "2/1 3/1001", "2/1 25/1", "0/1 2/1"} {
		l = append(l, api.Record{Origin: 5, Epoch: top, Seq: top, Adjs: adjs(text)})
	}
	for _, count := range []int{17, 18, 23} {
		r := api.Record{Origin: 24, Epoch: top, Seq: top}
		for n := range count {
			r.Adjs = append(r.Adjs, api.Adj{To: n + 1, Cost: 1})
		}
		l = append(l, r)
	}
	return append(l, api.Record{Origin: 7, Epoch: top, Seq: top, Adjs: make([]api.Adj, 1<<16)})
}

// P9.1

func TestNewHasNoRecords(t *testing.T) {
	s, m := made(t)
	wantAll(t, s, m)
	for root := 1; root <= 24; root++ {
		wantLive(t, s, nil, root)
	}
}

func TestStoresAreApart(t *testing.T) {
	a, am := made(t, rec("1 1.1"), rec("2 5.5"))
	b, bm := made(t)
	wantAll(t, b, bm)
	put(t, b, bm, rec("2 1.1 3/1"), rec("3 1.1 2/1"))
	wantAll(t, a, am)
	wantAll(t, b, bm)
}

func TestPutAsTheExamplesTell(t *testing.T) {
	s := store.New()
	for _, x := range []struct {
		r api.Record
		n int
		e api.Errno
	}{
		{rec("1 1.1"), 1, api.OK}, {rec("1 1.1"), 0, api.OK}, {rec("1 1.2"), 1, api.OK}, {rec("1 1.1"), -1, api.OK},
		{rec("1 2.1"), 1, api.OK}, {rec("0 1.1"), 0, api.ErrArg}, {rec("3 1.1"), 1, api.OK},
	} {
		if n, e := s.Put(x.r); n != x.n || e != x.e {
			t.Errorf("Put(%v) = %d, %d", x.r, n, e)
		}
	}
	if l := s.All(); !alike(l, recs("1 2.1, 3 1.1")) {
		t.Errorf("All = %v", l)
	}
	if r, ok := s.Get(1); !like(r, rec("1 2.1")) || !ok {
		t.Errorf("Get(1) = %v, %v", r, ok)
	}
	if r, ok := s.Get(2); !isNothing(r) || ok {
		t.Errorf("Get(2) = %v, %v", r, ok)
	}
}

// Each stamp behind each other one, a newer Epoch with a lesser Seq among them.
func TestPutOfEachTwo(t *testing.T) {
	for _, origin := range []int{1, 12, 24} {
		for _, epoch := range numbers {
			for _, seq := range numbers {
				for _, epoch2 := range numbers {
					for _, seq2 := range numbers {
						first := api.Record{Origin: origin, Epoch: epoch, Seq: seq, Claim: 1}
						second := api.Record{Origin: origin, Epoch: epoch2, Seq: seq2, Claim: 2}
						want, left := 0, first
						if epoch2 > epoch || epoch2 == epoch && seq2 > seq {
							want, left = 1, second
						} else if epoch2 != epoch || seq2 != seq {
							want = -1
						}
						s := store.New()
						s.Put(first)
						if n, e := s.Put(second); n != want || e != api.OK {
							t.Fatalf("Put(%v) behind %v = %d, %d", second, first, n, e)
						}
						if r, ok := s.Get(origin); !like(r, left) || !ok {
							t.Fatalf("%v, then %v: Get = %v, %v", first, second, r, ok)
						}
					}
				}
			}
		}
	}
}

// unlike have one stamp.
func unlike() []api.Record {
	return []api.Record{
		rec("2 3.4"), rec("2 3.4 1/5"), rec("2 3.4 1/6"), rec("2 3.4 3/5"), rec("2 3.4 1/5 3/5"),
		{Origin: 2, Epoch: 3, Seq: 4, Claim: 1}, {Origin: 2, Epoch: 3, Seq: 4, Claim: 1024, Adjs: adjs("1/5")},
		{Origin: 2, Epoch: 3, Seq: 4, Ingress: true}, {Origin: 2, Epoch: 3, Seq: 4, Claim: 1, Ingress: true},
	}
}

func TestOfOneStampTheFirstStays(t *testing.T) {
	for _, a := range unlike() {
		for _, b := range unlike() {
			s, m := made(t, rec("1 1.1 2/9"), a)
			for range 3 {
				if n, e := s.Put(b); n != 0 || e != api.OK {
					t.Fatalf("Put(%v) behind %v = %d, %d", b, a, n, e)
				}
				wantAll(t, s, m)
			}
			if r, _ := s.Get(2); !like(r, a) {
				t.Fatalf("%v, then %v: Get = %v", a, b, r)
			}
			// What is older leaves it, what is newer takes its place whole.
			old, young := b, b
			old.Seq, young.Seq = 3, 5
			put(t, s, m, old)
			wantAll(t, s, m)
			put(t, s, m, young)
			wantAll(t, s, m)
			if r, _ := s.Get(2); !like(r, young) {
				t.Fatalf("%v, then %v: Get = %v", a, young, r)
			}
		}
	}
}

func TestPutOfOneOriginLeavesTheOthers(t *testing.T) {
	for n := 1; n <= 24; n++ {
		s, m := made(t, oneOfEach()...)
		for _, r := range []api.Record{{Origin: n, Epoch: 9, Seq: 1}, {Origin: n, Epoch: 1, Seq: 1}, {Origin: n, Epoch: 9, Seq: 2, Claim: 5}} {
			put(t, s, m, r)
			wantAll(t, s, m)
		}
	}
}

func wantRefused(t *testing.T, s *store.Store, m *model) {
	t.Helper()
	for _, r := range noRecords() {
		if n, e := s.Put(r); n != 0 || e != api.ErrArg {
			t.Errorf("Put(%v) = %d, %d", r, n, e)
		}
		if l := s.All(); !alike(l, m.all()) {
			t.Fatalf("Put(%v) left %v", r, l)
		}
	}
	wantAll(t, s, m)
	for _, n := range noRouters {
		if r, ok := s.Get(n); !isNothing(r) || ok {
			t.Errorf("Get(%d) = %v, %v", n, r, ok)
		}
	}
}

func TestPutRefuses(t *testing.T) {
	for _, l := range [][]api.Record{nil, {rec("1 1.1")}, oneOfEach(), fullest()} {
		s, m := made(t, l...)
		wantRefused(t, s, m)
	}
}

func TestPutAtTheEdges(t *testing.T) {
	const top = math.MaxUint32
	for _, r := range append(fullest(), api.Record{Origin: 1, Epoch: 1, Seq: 1}, api.Record{Origin: 24, Epoch: 1, Seq: 1, Adjs: []api.Adj{}},
		api.Record{Origin: 1, Epoch: top, Seq: 1, Adjs: adjs("2/1 24/1000")}, api.Record{Origin: 24, Epoch: 1, Seq: top, Claim: 1024, Adjs: adjs("1/1000 23/1")}) {
		s, m := made(t, r)
		wantAll(t, s, m)
		wantLive(t, s, m.all(), r.Origin)
	}
}

// P9.2

func TestOneOfEachRouter(t *testing.T) {
	for _, l := range [][]api.Record{oneOfEach(), fullest()} {
		s, m := made(t)
		for _, r := range l {
			put(t, s, m, r)
			wantAll(t, s, m)
		}
		slices.Reverse(l)
		s, m = made(t)
		for _, r := range l {
			put(t, s, m, r)
			wantAll(t, s, m)
		}
	}
}

func TestGetOfWhatIsNoRouter(t *testing.T) {
	for _, l := range [][]api.Record{nil, oneOfEach()} {
		s, m := made(t, l...)
		for _, n := range noRouters {
			if r, ok := s.Get(n); !isNothing(r) || ok {
				t.Errorf("Get(%d) = %v, %v", n, r, ok)
			}
		}
		wantAll(t, s, m)
	}
}

func TestGetOfWhatIsNamedAlone(t *testing.T) {
	// 2 is a neighbour, and has no record.
	s, m := made(t, rec("1 1.1 2/5"))
	if r, ok := s.Get(2); !isNothing(r) || ok {
		t.Errorf("Get(2) = %v, %v", r, ok)
	}
	wantAll(t, s, m)
}

func TestListsRise(t *testing.T) {
	eachOrder(recs("3 1.1, 24 9.9, 1 7.2, 10 2.1, 2 1.5"), func(l []api.Record) {
		s, m := made(t, l...)
		wantAll(t, s, m)
		if l := s.Stamps(); !slices.Equal(l, stamps("1 7.2, 2 1.5, 3 1.1, 10 2.1, 24 9.9")) {
			t.Fatalf("Stamps = %v", l)
		}
	})
}

func TestCopy(t *testing.T) {
	for _, l := range [][]api.Record{nil, {rec("1 1.1")}, {rec("24 1.1 1/1")}, oneOfEach(), fullest()} {
		s, m := made(t, l...)
		c := s.Copy()
		if c == nil || c == s {
			t.Fatal("Copy is none, or the store itself")
		}
		wantAll(t, c, m)
		wantAll(t, c.Copy(), m)
		wantAll(t, s, m)
	}
}

func TestACopyGoesOnByItself(t *testing.T) {
	for _, l := range [][]api.Record{nil, recs("1 1.1 2/5, 2 1.1 1/5"), oneOfEach()} {
		s, m := made(t, l...)
		c, cm := s.Copy(), &model{put: slices.Clone(m.put)}
		cc, ccm := c.Copy(), &model{put: slices.Clone(m.put)}
		put(t, c, cm, recs("1 9.1 3/1, 3 9.1 1/1, 24 9.9")...)
		wantAll(t, s, m)
		wantAll(t, cc, ccm)
		put(t, s, m, recs("2 9.1 4/1, 4 9.1 2/1, 24 9.8")...)
		wantAll(t, c, cm)
		wantAll(t, cc, ccm)
		put(t, cc, ccm, recs("5 9.1 6/1, 24 9.7")...)
		wantAll(t, s, m)
		wantAll(t, c, cm)
		wantAll(t, cc, ccm)
	}
}

// scribble goes over all lists of records that were told, and the room behind their ends.
func scribble(l []api.Record) {
	for i := range l {
		room := l[i].Adjs[:cap(l[i].Adjs)]
		for k := range room {
			room[k] = api.Adj{To: -7, Cost: -7}
		}
	}
	for i := range l[:cap(l)] {
		l[:cap(l)][i] = api.Record{Origin: -7}
	}
}

func TestACopySharesNothing(t *testing.T) {
	s, m := made(t, oneOfEach()...)
	c := s.Copy()
	scribble(c.All())
	for n := 1; n <= 24; n++ {
		r, _ := c.Get(n)
		scribble([]api.Record{r})
		r, _ = s.Get(n)
		scribble([]api.Record{r})
	}
	wantAll(t, s, m)
	wantAll(t, c, m)
}

// P9.3

func TestGraphAsTheExamplesTell(t *testing.T) {
	s, _ := made(t, recs("1 1.1 2/5, 2 1.1 1/7 3/1, 3 1.1")...)
	want := api.Graph{Nodes: []int{1, 2, 3}, Edges: []api.Edge{{From: 1, To: 2, Cost: 5}, {From: 2, To: 1, Cost: 7}}}
	if g, e := s.Graph(); !likeGraph(g, want) || e != api.OK {
		t.Errorf("Graph = %v, %d", g, e)
	}
	s, _ = made(t)
	if g, e := s.Graph(); len(g.Nodes) != 0 || len(g.Edges) != 0 || e != api.OK {
		t.Errorf("Graph of none = %v, %d", g, e)
	}
	s, _ = made(t, rec("24 1.1 1/5"))
	if g, e := s.Graph(); !likeGraph(g, api.Graph{Nodes: []int{24}}) || e != api.OK {
		t.Errorf("Graph of one = %v, %d", g, e)
	}
}

func TestGraphGoesWithTheNewest(t *testing.T) {
	s, m := made(t)
	for _, text := range []string{"1 1.1 2/5", "2 1.1 1/7", "1 1.2 3/1", "3 1.1 1/2 2/2", "2 1.2 1/7 3/4", "1 1.1 2/5", "1 2.1 2/9 3/9", "2 2.1", "3 1.2"} {
		put(t, s, m, rec(text))
		wantAll(t, s, m)
		for root := 1; root <= 4; root++ {
			wantLive(t, s, m.all(), root)
		}
	}
}

func TestGraphOfTheFullestRecords(t *testing.T) {
	s, m := made(t, fullest()...)
	g, e := s.Graph()
	if len(g.Nodes) != 24 || len(g.Edges) != 384 || e != api.OK {
		t.Errorf("Graph has %d nodes, %d edges, %d", len(g.Nodes), len(g.Edges), e)
	}
	for root := 1; root <= 24; root++ {
		wantLive(t, s, m.all(), root)
	}
}

func TestLiveAsTheExamplesTell(t *testing.T) {
	s, _ := made(t, recs("1 1.1 2/5, 2 1.1 1/5, 3 1.1")...)
	for root, want := range map[int]string{1: "1 1.1 2/5, 2 1.1 1/5", 2: "1 1.1 2/5, 2 1.1 1/5", 3: "3 1.1", 4: "", 24: ""} {
		if l, e := s.Live(root); !alike(l, recs(want)) || e != api.OK {
			t.Errorf("Live(%d) = %v, %d", root, l, e)
		}
	}
	if l, e := s.Live(0); len(l) != 0 || e != api.ErrArg {
		t.Errorf("Live(0) = %v, %d", l, e)
	}
}

func TestLiveRefuses(t *testing.T) {
	for _, l := range [][]api.Record{nil, recs("1 1.1 2/5, 2 1.1 1/5"), oneOfEach(), fullest()} {
		s, m := made(t, l...)
		for _, root := range noRouters {
			if l, e := s.Live(root); len(l) != 0 || e != api.ErrArg {
				t.Errorf("Live(%d) = %v, %d", root, l, e)
			}
		}
		wantAll(t, s, m)
	}
}

func TestLiveOfRoots(t *testing.T) {
	for _, x := range []struct {
		have string
		root int
		want []int
	}{
		{"", 1, nil},
		{"1 1.1", 1, []int{1}},
		{"24 1.1", 24, []int{24}},
		{"24 1.1", 1, nil},
		// A root without a record, which others name.
		{"1 1.1 2/5, 3 1.1 2/5", 2, nil},
		{"1 1.1 2/5, 3 1.1 2/5", 1, []int{1}},
		// Named one way alone.
		{"1 1.1 2/5, 2 1.1", 1, []int{1}},
		{"1 1.1 2/5, 2 1.1", 2, []int{2}},
		{"1 1.1 2/5, 2 1.1 3/5, 3 1.1 1/5", 1, []int{1}},
		// Over others, there and back by unlike costs.
		{"1 1.1 24/1, 2 1.1 24/1000, 24 1.1 1/9 2/1", 2, []int{1, 2, 24}},
		{"1 1.1 4/1, 2 1.1 3/1, 3 1.1 2/1, 4 1.1 1/1", 4, []int{1, 4}},
		{"1 1.1 4/1, 2 1.1 3/1, 3 1.1 2/1, 4 1.1 1/1", 2, []int{2, 3}},
	} {
		s, m := made(t, recs(x.have)...)
		if l, e := s.Live(x.root); !slices.Equal(originsOf(l), x.want) || e != api.OK {
			t.Errorf("%s: Live(%d) = %v, %d", x.have, x.root, l, e)
		}
		wantLive(t, s, m.all(), x.root)
	}
}

func TestLiveOfAChain(t *testing.T) {
	// 8 and 9 do not name each other.
	s, m := made(t, oneOfEach()...)
	for root := 1; root <= 24; root++ {
		wantLive(t, s, m.all(), root)
		l, _ := s.Live(root)
		if want := 8; root <= 8 && len(l) != want || root > 8 && len(l) != 24-want {
			t.Errorf("Live(%d) = %v", root, originsOf(l))
		}
	}
}

// All ways in which four routers can name each other.
func TestAllRecordsOfFourRouters(t *testing.T) {
	for names := range 1 << 12 {
		var l []api.Record
		bit := 0
		for a := 1; a <= 4; a++ {
			r := api.Record{Origin: a, Epoch: 1, Seq: 1}
			for b := 1; b <= 4; b++ {
				if a == b {
					continue
				}
				if names>>bit&1 == 1 {
					r.Adjs = append(r.Adjs, api.Adj{To: b, Cost: a*10 + b})
				}
				bit++
			}
			l = append(l, r)
		}
		// One of them may have no record.
		if out := names % 5; out < 4 {
			l = slices.Delete(l, out, out+1)
		}
		s, m := made(t, l...)
		have := m.all()
		if g, e := s.Graph(); !likeGraph(g, graphOf(have)) || e != api.OK {
			t.Fatalf("Graph of %v = %v, %d", have, g, e)
		}
		for root := 1; root <= 5; root++ {
			wantLive(t, s, have, root)
		}
	}
}

func TestLiveOfMadeUpRecords(t *testing.T) {
	var d dice = 41
	for round := range 300 {
		s, m := made(t, d.records(round%60, 1+d.below(24), 3)...)
		have := m.all()
		for root := 1; root <= 24; root++ {
			wantLive(t, s, have, root)
		}
		wantAll(t, s, m)
	}
}

// P9.4

func TestMissingAsTheExamplesTell(t *testing.T) {
	s, m := made(t, recs("1 2.1, 3 1.1")...)
	for _, x := range []struct {
		l    string
		send string
		want []int
		e    api.Errno
	}{
		{"1 1.9, 2 1.1", "1 2.1, 3 1.1", []int{2}, api.OK},
		{"1 2.1, 3 1.2", "", []int{3}, api.OK},
		{"", "1 2.1, 3 1.1", nil, api.OK},
		{"1 1.1, 1 1.2", "", nil, api.ErrArg},
	} {
		send, want, e := s.Missing(stamps(x.l))
		if !alike(send, recs(x.send)) || !slices.Equal(want, x.want) || e != x.e {
			t.Errorf("Missing(%s) = %v, %v, %d", x.l, send, want, e)
		}
		wantAll(t, s, m)
	}
}

// Of two routers: each has no record, or one of six, and no stamp, or one of six.
func TestMissingOfEachTwo(t *testing.T) {
	ages := []string{"", "1.1", "1.2", "2.1", "2.2", "4294967295.1", "1.4294967295"}
	for _, two := range [][2]int{{1, 24}, {7, 8}} {
		text := func(who int, age string) string {
			if age == "" {
				return ""
			}
			return fmt.Sprintf("%d %s 3/1, ", two[who], age)
		}
		for _, own := range ages {
			for _, own2 := range ages {
				s, m := made(t, recs(text(0, own)+text(1, own2))...)
				for _, their := range ages {
					for _, their2 := range ages {
						wantMissing(t, s, m.all(), stamps(text(0, their)+text(1, their2)))
						wantMissing(t, s, m.all(), stamps(text(1, their2)+text(0, their)))
					}
				}
				wantAll(t, s, m)
			}
		}
	}
}

func TestMissingOfAllRouters(t *testing.T) {
	var d dice = 51
	all := stampsOf(oneOfEach())
	empty, _ := made(t)
	wantMissing(t, empty, nil, all)
	if send, want, e := empty.Missing(shuffled(&d, all)); len(send) != 0 || len(want) != 24 || want[0] != 1 || want[23] != 24 || e != api.OK {
		t.Errorf("an empty store: Missing of all = %v, %v, %d", send, want, e)
	}
	s, m := made(t, oneOfEach()...)
	for range 200 {
		l := shuffled(&d, all)[:d.below(25)]
		for i := range l {
			// Some older, some as new, some newer; a newer Epoch with a lesser Seq.
			switch d.below(5) {
			case 0:
				l[i].Epoch, l[i].Seq = l[i].Epoch+1, 1
			case 1:
				l[i].Seq++
			case 2:
				l[i].Seq--
			}
		}
		l = slices.DeleteFunc(l, func(s api.Stamp) bool { return s.Seq == 0 })
		wantMissing(t, s, m.all(), l)
		wantMissing(t, empty, nil, l)
	}
	wantAll(t, s, m)
}

func TestMissingHangsOnNoOrder(t *testing.T) {
	s, m := made(t, recs("1 2.1 2/1, 3 1.1, 4 5.5 1/1, 24 1.1")...)
	eachOrder(stamps("1 1.9, 2 1.1, 3 1.1, 4 6.1, 23 1.1"), func(l []api.Stamp) {
		wantMissing(t, s, m.all(), l)
		send, want, _ := s.Missing(l)
		if !slices.Equal(originsOf(send), []int{1, 24}) || !slices.Equal(want, []int{2, 4, 23}) {
			t.Fatalf("Missing(%v) = %v, %v", l, send, want)
		}
	})
}

func wantNoStamps(t *testing.T, s *store.Store, l []api.Stamp) {
	t.Helper()
	if send, want, e := s.Missing(l); len(send) != 0 || len(want) != 0 || e != api.ErrArg {
		t.Errorf("Missing(%v) = %v, %v, %d", l, send, want, e)
	}
}

func TestMissingRefusesStampsThatMayNotBe(t *testing.T) {
	const top = math.MaxUint32
	wrong := []api.Stamp{{}, {Origin: 1}, {Origin: 9, Epoch: 0, Seq: 1}, {Origin: 9, Epoch: 1, Seq: 0}, {Origin: 24, Epoch: 0, Seq: top}, {Origin: 24, Epoch: top, Seq: 0}}
	for _, n := range noRouters {
		wrong = append(wrong, api.Stamp{Origin: n, Epoch: 1, Seq: 1}, api.Stamp{Origin: n, Epoch: top, Seq: top}, api.Stamp{Origin: n})
	}
	for _, have := range [][]api.Record{nil, recs("1 1.1, 2 1.1"), oneOfEach()} {
		s, m := made(t, have...)
		for _, x := range wrong {
			good := stamps("2 1.1, 5 7.1, 3 1.9")
			wantNoStamps(t, s, []api.Stamp{x})
			wantNoStamps(t, s, []api.Stamp{x, x})
			for at := range len(good) + 1 {
				wantNoStamps(t, s, slices.Insert(slices.Clone(good), at, x))
			}
		}
		wantAll(t, s, m)
	}
}

func TestMissingRefusesTwoOfOneOrigin(t *testing.T) {
	for _, have := range [][]api.Record{nil, recs("1 1.1, 2 1.1"), oneOfEach()} {
		s, m := made(t, have...)
		for n := 1; n <= 24; n++ {
			for _, epoch := range numbers {
				a, b := api.Stamp{Origin: n, Epoch: 1, Seq: 1}, api.Stamp{Origin: n, Epoch: epoch, Seq: 1}
				wantNoStamps(t, s, []api.Stamp{a, b})
				wantNoStamps(t, s, []api.Stamp{b, a})
				between := []api.Stamp{a}
				for k := 1; k <= 24; k++ {
					if k != n {
						between = append(between, api.Stamp{Origin: k, Epoch: 1, Seq: 1})
					}
				}
				wantMissing(t, s, m.all(), between)
				wantNoStamps(t, s, append(between, b))
			}
		}
		many := slices.Repeat(stamps("1 1.1"), 1<<16)
		wantNoStamps(t, s, many)
		wantAll(t, s, m)
	}
}

// P9.5

func TestInWhateverOrder(t *testing.T) {
	// Of each Origin the newest comes in several versions of one stamp.
	l := recs("1 1.1, 1 2.1 2/5, 1 1.9 3/5, 1 2.1 3/5, 2 1.1 1/5, 2 1.1 1/6")
	eachOrder(l, func(l []api.Record) {
		s, m := made(t, l...)
		wantAll(t, s, m)
		first := slices.IndexFunc(l, func(r api.Record) bool { return r.Origin == 1 && r.Epoch == 2 })
		second := slices.IndexFunc(l, func(r api.Record) bool { return r.Origin == 2 })
		if have := s.All(); !alike(have, []api.Record{l[first], l[second]}) {
			t.Fatalf("%v put: All = %v", l, have)
		}
		// All of them again change nothing.
		put(t, s, m, l...)
		wantAll(t, s, m)
		if have := s.All(); !alike(have, []api.Record{l[first], l[second]}) {
			t.Fatalf("%v put twice: All = %v", l, have)
		}
	})
}

func TestLongRowsInSeveralOrders(t *testing.T) {
	var d dice = 61
	for _, limits := range [][2]int{{1, 2}, {3, 3}, {24, 2}, {24, 1000}} {
		for round := range 40 {
			l := d.records(round*5, limits[0], limits[1])
			// One record of a stamp: then no order is to be seen.
			seen := map[api.Stamp]bool{}
			var once []api.Record
			for _, r := range l {
				if !seen[stampOf(r)] {
					seen[stampOf(r)] = true
					once = append(once, r)
				}
			}
			s, m := made(t, l...)
			wantAll(t, s, m)
			for range 5 {
				some := append(shuffled(&d, once), once[:d.below(len(once)+1)]...)
				s, m := made(t, some...)
				wantAll(t, s, m)
				first, _ := made(t, once...)
				if have := s.All(); !alike(have, first.All()) {
					t.Fatalf("%v put in another order: %v, not %v", once, have, first.All())
				}
				// And with all that is of one stamp, in any order.
				s, m = made(t, shuffled(&d, append(some, l...))...)
				wantAll(t, s, m)
			}
		}
	}
}

// P9.6

// exchange sends b what a's Missing tells of b's stamps, and fetches what it wants.
func exchange(t *testing.T, a, b *store.Store) {
	t.Helper()
	send, want, e := a.Missing(b.Stamps())
	if e != api.OK {
		t.Fatalf("Missing(%v): %d", b.Stamps(), e)
	}
	for _, r := range send {
		if n, e := b.Put(r); n != 1 || e != api.OK {
			t.Fatalf("Put(%v) of what is sent = %d, %d", r, n, e)
		}
	}
	for _, origin := range want {
		r, ok := b.Get(origin)
		if !ok {
			t.Fatalf("%d is wanted of a store that has none of it", origin)
		}
		if n, e := a.Put(r); n != 1 || e != api.OK {
			t.Fatalf("Put(%v) of what is fetched = %d, %d", r, n, e)
		}
	}
}

// newerOnes has of each Origin the newer one of two stamps.
func newerOnes(a, b []api.Stamp) []api.Stamp {
	best := map[int]api.Stamp{}
	for _, s := range append(slices.Clone(a), b...) {
		if age(s) > age(best[s.Origin]) {
			best[s.Origin] = s
		}
	}
	var l []api.Stamp
	for n := 1; n <= 24; n++ {
		if s, ok := best[n]; ok {
			l = append(l, s)
		}
	}
	return l
}

func wantMadeWhole(t *testing.T, a, b *store.Store) {
	t.Helper()
	want := newerOnes(a.Stamps(), b.Stamps())
	exchange(t, a, b)
	if x, y := a.Stamps(), b.Stamps(); !slices.Equal(x, want) || !slices.Equal(y, want) {
		t.Fatalf("exchanged: %v and %v; both should be %v", x, y, want)
	}
	for _, x := range [][2]*store.Store{{a, b}, {b, a}} {
		if send, want, e := x[0].Missing(x[1].Stamps()); len(send) != 0 || len(want) != 0 || e != api.OK {
			t.Fatalf("exchanged: Missing = %v, %v, %d", send, want, e)
		}
	}
}

func TestMadeWhole(t *testing.T) {
	for _, x := range [][2]string{
		{"", ""}, {"1 1.1", ""}, {"", "24 1.1"}, {"1 1.1", "1 1.1"}, {"1 1.1", "1 1.2"}, {"1 2.1", "1 1.9"},
		{"1 1.1, 2 5.1, 24 1.1 1/1", "1 1.2 2/1, 2 4.9, 3 1.1"},
	} {
		for _, y := range [][2]string{x, {x[1], x[0]}} {
			a, _ := made(t, recs(y[0])...)
			b, _ := made(t, recs(y[1])...)
			wantMadeWhole(t, a, b)
			if !alike(a.All(), b.All()) {
				t.Errorf("%v: exchanged: %v and %v", y, a.All(), b.All())
			}
		}
	}
}

// Of one stamp each keeps its own: the stamps are the same, what else the records have is not.
func TestMadeWholeWithUnlikeOnes(t *testing.T) {
	for _, one := range unlike() {
		for _, other := range unlike() {
			a, am := made(t, one, rec("3 1.1 2/2"))
			b, bm := made(t, other, rec("4 1.1 2/2"))
			wantMadeWhole(t, a, b)
			am.put, bm.put = append(am.put, rec("4 1.1 2/2")), append(bm.put, rec("3 1.1 2/2"))
			wantAll(t, a, am)
			wantAll(t, b, bm)
		}
	}
}

func TestMadeWholeOfMadeUpStores(t *testing.T) {
	var d dice = 71
	for round := range 600 {
		origins, ages := 1+d.below(24), 1+d.below(6)
		a, _ := made(t, d.records(round%50, origins, ages)...)
		b, _ := made(t, d.records(d.below(50), origins, ages)...)
		c, _ := made(t, d.records(d.below(10), 24, ages)...)
		wantMadeWhole(t, a, b)
		// A third one, by turns: at last all three have the same stamps.
		wantMadeWhole(t, c, b)
		wantMadeWhole(t, b, a)
		if !slices.Equal(a.Stamps(), c.Stamps()) {
			t.Fatalf("three stores: %v and %v", a.Stamps(), c.Stamps())
		}
	}
}

func TestMadeWholeWithACopy(t *testing.T) {
	s, _ := made(t, oneOfEach()...)
	c := s.Copy()
	wantMadeWhole(t, s, c)
	s.Put(rec("1 9.1"))
	c.Put(rec("24 9.1"))
	wantMadeWhole(t, s, c)
}

// R3

func wantNotThere(t *testing.T, s *store.Store) {
	t.Helper()
	for _, r := range append(oneOfEach(), noRecords()...) {
		if n, e := s.Put(r); n != 0 || e != api.ErrNil {
			t.Fatalf("Put(%v) = %d, %d", r, n, e)
		}
	}
	for _, n := range append([]int{1, 2, 24}, noRouters...) {
		if r, ok := s.Get(n); !isNothing(r) || ok {
			t.Errorf("Get(%d) = %v, %v", n, r, ok)
		}
		if l, e := s.Live(n); len(l) != 0 || e != api.ErrNil {
			t.Errorf("Live(%d) = %v, %d", n, l, e)
		}
	}
	if l := s.All(); len(l) != 0 {
		t.Errorf("All = %v", l)
	}
	if l := s.Stamps(); len(l) != 0 {
		t.Errorf("Stamps = %v", l)
	}
	if g, e := s.Graph(); len(g.Nodes) != 0 || len(g.Edges) != 0 || e != api.ErrNil {
		t.Errorf("Graph = %v, %d", g, e)
	}
	for _, l := range [][]api.Stamp{nil, {}, stamps("1 1.1"), stamps("1 1.1, 1 1.1"), stamps("0 1.1"), {{}}} {
		if send, want, e := s.Missing(l); len(send) != 0 || len(want) != 0 || e != api.ErrNil {
			t.Errorf("Missing(%v) = %v, %v, %d", l, send, want, e)
		}
	}
	if c := s.Copy(); c != nil {
		t.Errorf("Copy = %v", c)
	}
}

func TestStoresThatAreNotThere(t *testing.T) {
	var none store.Store
	for range 2 {
		wantNotThere(t, nil)
		wantNotThere(t, new(store.Store))
		wantNotThere(t, &none)
		wantNotThere(t, (*store.Store)(nil).Copy())
		wantNotThere(t, none.Copy())
	}
}

// R5

// guarded is l with marked room behind its end.
func guarded[T any](l []T, mark T) []T {
	return append(slices.Clone(l), mark, mark, mark)[:len(l)]
}

func TestWhatIsHandedInStays(t *testing.T) {
	mark, stampMark := api.Adj{To: -9, Cost: -9}, api.Stamp{Origin: -9}
	s, _ := made(t, rec("2 1.1 1/1"))
	for _, was := range append(append(oneOfEach(), fullest()...), noRecords()...) {
		r := was
		r.Adjs = guarded(was.Adjs, mark)
		s.Put(r)
		s.Put(r)
		if !like(r, was) || !slices.Equal(r.Adjs[:len(was.Adjs)+3][len(was.Adjs):], []api.Adj{mark, mark, mark}) {
			t.Errorf("Put: %v became %v", was, r.Adjs[:len(was.Adjs)+3])
		}
	}
	for _, text := range []string{"", "1 1.1", "24 9.1, 3 1.1, 1 7.7, 2 1.1", "3 1.1, 3 1.1", "3 1.1, 25 1.1, 1 1.1"} {
		was := stamps(text)
		l := guarded(was, stampMark)
		s.Missing(l)
		s.Missing(l)
		if !slices.Equal(l, was) || !slices.Equal(l[:len(l)+3][len(l):], []api.Stamp{stampMark, stampMark, stampMark}) {
			t.Errorf("Missing: %v became %v", was, l[:len(l)+3])
		}
	}
}

func TestWhatIsHandedInIsNotKept(t *testing.T) {
	for _, l := range [][]api.Record{oneOfEach(), fullest(), recs("1 1.1 2/5, 1 1.2 2/6, 2 1.1 1/5")} {
		s, m := made(t)
		for _, r := range l {
			r.Adjs = guarded(r.Adjs, api.Adj{To: 9, Cost: 9})
			put(t, s, m, r)
			scribble([]api.Record{r})
			wantAll(t, s, m)
		}
		theirs := stampsOf(l[:1])
		_, _, e := s.Missing(theirs)
		theirs[0] = api.Stamp{Origin: 5, Epoch: 9, Seq: 9}
		if e != api.OK {
			t.Errorf("Missing: %d", e)
		}
		wantAll(t, s, m)
	}
}

// One that was put is put to another store, too: both have it for themselves.
func TestOneRecordInTwoStores(t *testing.T) {
	r := rec("2 1.1 1/5 3/6")
	a, am := made(t, r)
	b, bm := made(t, r)
	got, _ := a.Get(2)
	put(t, b, bm, got)
	scribble([]api.Record{got, r})
	wantAll(t, a, am)
	wantAll(t, b, bm)
}

func TestWhatIsAnsweredIsNew(t *testing.T) {
	for _, have := range [][]api.Record{oneOfEach(), fullest(), recs("1 1.1 2/5, 2 1.1 1/5 3/5, 4 1.1")} {
		s, m := made(t, have...)
		tellings := map[string]func() []api.Record{
			"All":     s.All,
			"Get":     func() []api.Record { r, _ := s.Get(2); return []api.Record{r} },
			"Live":    func() []api.Record { l, _ := s.Live(1); return l },
			"Missing": func() []api.Record { l, _, _ := s.Missing(stamps("4 9.9, 23 9.9")); return l },
		}
		for name, tell := range tellings {
			first, want := tell(), cloned(tell())
			if len(want) == 0 || !alike(first, want) {
				t.Fatalf("%s tells %v, then %v", name, first, want)
			}
			// Of one answer no two lists share any.
			for i := range first {
				rest := cloned(first[i+1:])
				room := first[i].Adjs[:cap(first[i].Adjs)]
				for k := range room {
					room[k] = api.Adj{To: -7, Cost: -7}
				}
				if !alike(first[i+1:], rest) {
					t.Fatalf("%s: the lists of one answer are shared", name)
				}
			}
			second := tell()
			scribble(first)
			if !alike(second, want) || !alike(tell(), want) {
				t.Fatalf("%s shares what it answers", name)
			}
			wantAll(t, s, m)
		}
	}
}

func TestWhatElseIsAnsweredIsNew(t *testing.T) {
	s, m := made(t, recs("1 1.1 2/5, 2 1.1 1/5 3/5, 4 1.1")...)
	for range 2 {
		l := s.Stamps()
		for i := range l[:cap(l)] {
			l[:cap(l)][i] = api.Stamp{Origin: -7}
		}
		g, _ := s.Graph()
		for i := range g.Nodes {
			g.Nodes[i] = -7
		}
		for i := range g.Edges {
			g.Edges[i] = api.Edge{From: -7}
		}
		theirs := stamps("5 1.1, 6 1.1")
		_, want, _ := s.Missing(theirs)
		for i := range want {
			want[i] = -7
		}
		wantAll(t, s, m)
		wantLive(t, s, m.all(), 1)
		wantMissing(t, s, m.all(), theirs)
	}
}

// R6

func TestAskingChangesNothing(t *testing.T) {
	var d dice = 81
	for range 100 {
		s, m := made(t, d.records(40, 24, 4)...)
		for range 10 {
			s.Live(d.below(30) - 2)
			s.Get(d.below(30) - 2)
			s.Missing(stampsOf(d.records(d.below(5), 24, 4)))
			s.Graph()
			s.Stamps()
			s.All()
			s.Copy()
		}
		wantAll(t, s, m)
		again, _ := made(t, m.put...)
		if !alike(s.All(), again.All()) {
			t.Fatalf("the same records put: %v and %v", s.All(), again.All())
		}
	}
}

// Each byte of what is made up is a turn: a record, of a few Origins and stamps, right or wrong; or a list of stamps.
func FuzzStore(f *testing.F) {
	f.Add([]byte{1, 2, 3})
	f.Add([]byte("some of these are records, some are stamps"))
	f.Add([]byte{0xff, 0, 0xfe, 1, 0x80, 0x81, 0x82, 0x83, 0x10, 0x11, 0x12})
	f.Fuzz(func(t *testing.T, raw []byte) {
		s, m := made(t)
		for i, c := range raw {
			r := api.Record{Origin: int(c % 7), Epoch: uint32(c / 7 % 4), Seq: uint32(c / 28 % 4), Claim: i % 1030}
			for to := 1; to <= 6; to++ {
				if to != r.Origin && (int(c)+i)>>to&1 == 1 {
					r.Adjs = append(r.Adjs, api.Adj{To: to, Cost: i%1000 + 1})
				}
			}
			if r.Origin > 0 && r.Epoch > 0 && r.Seq > 0 && r.Claim <= 1024 {
				put(t, s, m, r)
			} else if n, e := s.Put(r); n != 0 || e != api.ErrArg {
				t.Fatalf("Put(%v) = %d, %d", r, n, e)
			}
		}
		wantAll(t, s, m)
		for root := 1; root <= 7; root++ {
			wantLive(t, s, m.all(), root)
		}
		var l []api.Stamp
		wrong := false
		for _, c := range raw {
			x := api.Stamp{Origin: int(c / 16), Epoch: uint32(c % 4), Seq: uint32(c / 4 % 4)}
			twice := slices.ContainsFunc(l, func(y api.Stamp) bool { return y.Origin == x.Origin })
			wrong = wrong || twice || x.Origin == 0 || x.Epoch == 0 || x.Seq == 0
			if l = append(l, x); wrong {
				wantNoStamps(t, s, l)
				break
			}
			wantMissing(t, s, m.all(), l)
		}
		wantAll(t, s, m)
	})
}
