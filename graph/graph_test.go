package graph_test

import (
	"fmt"
	"math"
	"slices"
	"strings"
	"testing"

	"dandelion/api"
	"dandelion/graph"
)

// huge are numbers far from all routers, costs and ids, such as are like one in their lowest bits among them.
var huge = []int{
	math.MinInt, math.MinInt + 1, math.MinInt32, math.MaxInt32, math.MaxInt - 1, math.MaxInt,
	1<<16 + 1, 1<<16 + 2, 1 << 32, 1<<32 + 1, 1<<32 + 2, -1 << 32, 1 - 1<<32, 2 - 1<<32, 1<<61 + 1, 1 << 62,
}

var noRouters = append([]int{0, -1, -2, -24, 25, 26, 32, 48, 1<<8 + 1, 1<<8 + 2}, huge...)

var noCosts = append([]int{0, -1, -5, -1000, 1001, 1002, 2000}, huge...)

// made reads nodes as "1 2", edges as "1-2/5 2-1/7".
func made(nodes, edges string) api.Graph {
	g := api.Graph{}
	for _, s := range strings.Fields(nodes) {
		var n int
		fmt.Sscanf(s, "%d", &n)
		g.Nodes = append(g.Nodes, n)
	}
	for _, s := range strings.Fields(edges) {
		var e api.Edge
		fmt.Sscanf(s, "%d-%d/%d", &e.From, &e.To, &e.Cost)
		g.Edges = append(g.Edges, e)
	}
	return g
}

// rec reads neighbours as "1/7 3/1".
func rec(origin int, adjs string) api.Record {
	r := api.Record{Origin: origin, Epoch: 1, Seq: 1}
	for _, s := range strings.Fields(adjs) {
		var a api.Adj
		fmt.Sscanf(s, "%d/%d", &a.To, &a.Cost)
		r.Adjs = append(r.Adjs, a)
	}
	return r
}

// links reads "1-2/5 3-2/1".
func links(text string) []api.Link {
	var l []api.Link
	for _, e := range made("", text).Edges {
		l = append(l, api.Link{A: e.From, B: e.To, Cost: e.Cost})
	}
	return l
}

func upTo(least, greatest int) []int {
	var l []int
	for n := least; n <= greatest; n++ {
		l = append(l, n)
	}
	return l
}

// full has all routers and, in their order, so many edges.
func full(count int) api.Graph {
	g := api.Graph{Nodes: upTo(1, 24)}
	for a := 1; a <= 24; a++ {
		for b := 1; b <= 24; b++ {
			if a != b && len(g.Edges) < count {
				g.Edges = append(g.Edges, api.Edge{From: a, To: b, Cost: 1 + (a*31+b)%1000})
			}
		}
	}
	return g
}

// ring has the records of all routers, each with the eight neighbours ahead of it and the eight behind it.
func ring() []api.Record {
	var l []api.Record
	for n := 1; n <= 24; n++ {
		r := api.Record{Origin: n, Epoch: math.MaxUint32, Seq: math.MaxUint32, Claim: 1000 + n, Ingress: n%2 == 0}
		for to := 1; to <= 24; to++ {
			if far := (to - n + 24) % 24; far != 0 && (far <= 8 || far >= 16) {
				r.Adjs = append(r.Adjs, api.Adj{To: to, Cost: n*40 + to})
			}
		}
		l = append(l, r)
	}
	return l
}

// dice is a row of numbers that is the same each time.
type dice uint64

func (d *dice) below(n int) int {
	*d = *d*6364136223846793005 + 1442695040888963407
	return int(uint64(*d) >> 33 % uint64(n))
}

func shuffled[T any](d *dice, l []T) []T {
	l = slices.Clone(l)
	for i := len(l) - 1; i > 0; i-- {
		j := d.below(i + 1)
		l[i], l[j] = l[j], l[i]
	}
	return l
}

// routers are some of them, in any order.
func (d *dice) routers() []int { return shuffled(d, upTo(1, 24))[:d.below(25)] }

// records of some routers; about one of so many routers is a neighbour, one that has no record too.
func (d *dice) records(many int) []api.Record {
	var l []api.Record
	for _, n := range d.routers() {
		r := api.Record{Origin: n, Epoch: 1, Seq: uint32(1 + d.below(9)), Claim: d.below(1025), Ingress: d.below(2) == 0}
		for to := 1; to <= 24; to++ {
			if to != n && len(r.Adjs) < 16 && d.below(many) == 0 {
				r.Adjs = append(r.Adjs, api.Adj{To: to, Cost: 1 + d.below(1000)})
			}
		}
		l = append(l, r)
	}
	return l
}

// links among these routers, each pair once, in any order and either way round.
func (d *dice) links(routers []int) []api.Link {
	var l []api.Link
	for i, a := range routers {
		for _, b := range routers[:i] {
			l = append(l, api.Link{A: a, B: b, Cost: 1 + d.below(1000)})
			if d.below(2) == 0 {
				l[len(l)-1].A, l[len(l)-1].B = b, a
			}
		}
	}
	l = shuffled(d, l)
	return l[:d.below(min(len(l), 48)+1)]
}

// graph has edges that need not be there both ways round.
func (d *dice) graph(many int) api.Graph {
	g := api.Graph{Nodes: d.routers()}
	slices.Sort(g.Nodes)
	for _, a := range g.Nodes {
		for _, b := range g.Nodes {
			if a != b && d.below(many) == 0 && len(g.Edges) < 384 {
				g.Edges = append(g.Edges, api.Edge{From: a, To: b, Cost: 1 + d.below(1000)})
			}
		}
	}
	return g
}

// The document's words, one by one.

func isRouter(n int) bool { return 1 <= n && n <= 24 }

func isCost(n int) bool { return 1 <= n && n <= 1000 }

func mayBe(g api.Graph) bool {
	for i, n := range g.Nodes {
		if !isRouter(n) || i > 0 && g.Nodes[i-1] >= n {
			return false
		}
	}
	for i, e := range g.Edges {
		if !slices.Contains(g.Nodes, e.From) || !slices.Contains(g.Nodes, e.To) || e.From == e.To || !isCost(e.Cost) {
			return false
		}
		if i > 0 && slices.Compare([]int{g.Edges[i-1].From, g.Edges[i-1].To}, []int{e.From, e.To}) >= 0 {
			return false
		}
	}
	return len(g.Edges) <= 384
}

func recordMayBe(r api.Record) bool {
	for i, a := range r.Adjs {
		if !isRouter(a.To) || a.To == r.Origin || !isCost(a.Cost) || i > 0 && r.Adjs[i-1].To >= a.To {
			return false
		}
	}
	return isRouter(r.Origin) && r.Epoch > 0 && r.Seq > 0 && 0 <= r.Claim && r.Claim <= 1024 && len(r.Adjs) <= 16
}

func sortEdges(l []api.Edge) {
	slices.SortFunc(l, func(a, b api.Edge) int { return slices.Compare([]int{a.From, a.To}, []int{b.From, b.To}) })
}

func both(l []api.Record) (g api.Graph, e api.Errno) {
	told := map[[2]int]int{}
	for _, r := range l {
		if !recordMayBe(r) || slices.Contains(g.Nodes, r.Origin) {
			return api.Graph{}, api.ErrArg
		}
		g.Nodes = append(g.Nodes, r.Origin)
		for _, a := range r.Adjs {
			told[[2]int{r.Origin, a.To}] = a.Cost
		}
	}
	slices.Sort(g.Nodes)
	for pair, cost := range told {
		if _, ok := told[[2]int{pair[1], pair[0]}]; ok {
			g.Edges = append(g.Edges, api.Edge{From: pair[0], To: pair[1], Cost: cost})
		}
	}
	sortEdges(g.Edges)
	return g, api.OK
}

func of(routers []int, l []api.Link) (g api.Graph, e api.Errno) {
	for _, n := range routers {
		if !isRouter(n) || slices.Contains(g.Nodes, n) {
			return api.Graph{}, api.ErrArg
		}
		g.Nodes = append(g.Nodes, n)
	}
	if len(l) > 48 {
		return api.Graph{}, api.ErrLong
	}
	for i, k := range l {
		if k.A == k.B || !isCost(k.Cost) || !slices.Contains(routers, k.A) || !slices.Contains(routers, k.B) {
			return api.Graph{}, api.ErrArg
		}
		for _, was := range l[:i] {
			if was.A == k.A && was.B == k.B || was.A == k.B && was.B == k.A {
				return api.Graph{}, api.ErrBusy
			}
		}
		g.Edges = append(g.Edges, api.Edge{From: k.A, To: k.B, Cost: k.Cost}, api.Edge{From: k.B, To: k.A, Cost: k.Cost})
	}
	slices.Sort(g.Nodes)
	sortEdges(g.Edges)
	return g, api.OK
}

// near finds the neighbours by their numbers, so that they rise.
func near(g api.Graph, n int) []api.Adj {
	var l []api.Adj
	for to := 1; to <= 24; to++ {
		if i := slices.IndexFunc(g.Edges, func(e api.Edge) bool { return e.From == n && e.To == to }); i >= 0 {
			l = append(l, api.Adj{To: to, Cost: g.Edges[i].Cost})
		}
	}
	return l
}

// part goes through all edges, as often as there are nodes: a way without a node twice is no longer.
func part(g api.Graph, n int) []int {
	l := []int{n}
	for range g.Nodes {
		for _, e := range g.Edges {
			if slices.Contains(l, e.From) && !slices.Contains(l, e.To) {
				l = append(l, e.To)
			}
		}
	}
	slices.Sort(l)
	return l
}

func equal(a, b api.Graph) bool {
	return slices.Equal(a.Nodes, b.Nodes) && slices.Equal(a.Edges, b.Edges)
}

func isZero(g api.Graph) bool { return len(g.Nodes) == 0 && len(g.Edges) == 0 }

func wantBoth(t *testing.T, l []api.Record, want api.Graph) {
	t.Helper()
	if g, e := graph.Both(l); !equal(g, want) || e != api.OK {
		t.Errorf("Both(%v) = %v, %d; asked for: %v", l, g, e, want)
	}
}

func wantNoBoth(t *testing.T, l []api.Record) {
	t.Helper()
	if g, e := graph.Both(l); !isZero(g) || e != api.ErrArg {
		t.Errorf("Both(%v) = %v, %d", l, g, e)
	}
}

func wantOf(t *testing.T, routers []int, l []api.Link, want api.Graph) {
	t.Helper()
	if g, e := graph.Of(routers, l); !equal(g, want) || e != api.OK {
		t.Errorf("Of(%v, %v) = %v, %d; asked for: %v", routers, l, g, e, want)
	}
}

func wantNoOf(t *testing.T, routers []int, l []api.Link, want api.Errno) {
	t.Helper()
	if g, e := graph.Of(routers, l); !isZero(g) || e != want {
		t.Errorf("Of(%v, %v) = %v, %d; asked for: %d", routers, l, g, e, want)
	}
}

func wantNear(t *testing.T, g api.Graph, n int, want []api.Adj) {
	t.Helper()
	if l, e := graph.Near(g, n); !slices.Equal(l, want) || e != api.OK {
		t.Errorf("Near(%v, %d) = %v, %d; asked for: %v", g, n, l, e, want)
	}
}

func wantPart(t *testing.T, g api.Graph, n int, want ...int) {
	t.Helper()
	if l, e := graph.Part(g, n); !slices.Equal(l, want) || e != api.OK {
		t.Errorf("Part(%v, %d) = %v, %d; asked for: %v", g, n, l, e, want)
	}
}

func wantNeither(t *testing.T, g api.Graph, n int) {
	t.Helper()
	if l, e := graph.Near(g, n); len(l) != 0 || e != api.ErrArg {
		t.Errorf("Near(%v, %d) = %v, %d", g, n, l, e)
	}
	if l, e := graph.Part(g, n); len(l) != 0 || e != api.ErrArg {
		t.Errorf("Part(%v, %d) = %v, %d", g, n, l, e)
	}
}

func wantCheck(t *testing.T, g api.Graph, ok bool) {
	t.Helper()
	want := api.ErrArg
	if ok {
		want = api.OK
	}
	if e := graph.Check(g); e != want {
		t.Errorf("Check(%v) = %d; asked for: %d", g, e, want)
	}
}

// wantMayNot looks that no call takes the graph, at any node.
func wantMayNot(t *testing.T, g api.Graph) {
	t.Helper()
	wantCheck(t, g, false)
	for n := range 26 {
		wantNeither(t, g, n)
	}
}

// wantAll holds what is told of all nodes against the words.
func wantAll(t *testing.T, g api.Graph) {
	t.Helper()
	wantCheck(t, g, true)
	for n := range 26 {
		if !slices.Contains(g.Nodes, n) {
			wantNeither(t, g, n)
			continue
		}
		wantNear(t, g, n, near(g, n))
		wantPart(t, g, n, part(g, n)...)
	}
}

// eachWord goes through all words of that length, of letters from 0 to letters - 1.
func eachWord(length, letters int, do func(word []int)) {
	word := make([]int, length)
	for {
		do(word)
		i := 0
		for i < length && word[i] == letters-1 {
			word[i] = 0
			i++
		}
		if i == length {
			return
		}
		word[i]++
	}
}

// guarded is a copy of l with marked room behind its end.
func guarded[T any](l []T, mark T) []T {
	room := append(slices.Clone(l), mark, mark, mark, mark)
	return room[:len(l)]
}

func checkGuarded[T comparable](t *testing.T, l, want []T, mark T) {
	t.Helper()
	if !slices.Equal(l, want) {
		t.Errorf("the list handed in was changed: %v; it was %v", l, want)
	}
	for _, x := range l[:cap(l)][len(l) : len(l)+4] {
		if x != mark {
			t.Errorf("the room behind the list handed in was changed: %v", x)
		}
	}
}

// P6.1

func TestCheckOfTheExamples(t *testing.T) {
	wantCheck(t, made("2 1", ""), false)
	wantCheck(t, made("1 2", "1-1/1"), false)
	wantCheck(t, made("1 2", "1-2/1001"), false)
}

func TestCheckOfWhatMayBe(t *testing.T) {
	wantCheck(t, api.Graph{}, true)
	wantCheck(t, api.Graph{Nodes: []int{}, Edges: []api.Edge{}}, true)
	for n := 1; n <= 24; n++ {
		wantCheck(t, api.Graph{Nodes: []int{n}}, true)
		wantCheck(t, api.Graph{Nodes: upTo(1, n)}, true)
		wantCheck(t, api.Graph{Nodes: upTo(n, 24)}, true)
	}
	for cost := 1; cost <= 1000; cost++ {
		wantCheck(t, api.Graph{Nodes: []int{1, 24}, Edges: []api.Edge{{From: 24, To: 1, Cost: cost}}}, true)
	}
	for _, s := range []string{"1-2/1", "2-1/1", "1-2/5 2-1/7", "1-2/5 1-3/5 2-1/5 2-3/5 3-1/5 3-2/5", "2-1/1 2-3/1", "1-3/9 2-1/1", "1-2/1000 3-1/1"} {
		wantCheck(t, made("1 2 3", s), true)
	}
	// One node may have more than MaxAdjs edges, if all together are not too many.
	for count := 0; count <= 384; count++ {
		wantCheck(t, full(count), true)
	}
}

func TestCheckRefusesNodes(t *testing.T) {
	for _, n := range noRouters {
		for _, nodes := range [][]int{{n}, {n, 1}, {1, n}, {n, 24}, {24, n}, {1, n, 24}, append(upTo(1, 24), n), append([]int{n}, upTo(1, 24)...)} {
			wantMayNot(t, api.Graph{Nodes: nodes})
		}
	}
	for n := 1; n <= 24; n++ {
		wantMayNot(t, api.Graph{Nodes: []int{n, n}})
		wantMayNot(t, api.Graph{Nodes: append(upTo(1, n), upTo(n, 24)...)})
		for low := 1; low < n; low++ {
			wantMayNot(t, api.Graph{Nodes: []int{n, low}})
			wantMayNot(t, api.Graph{Nodes: append(upTo(1, n), upTo(low, 24)...)})
		}
	}
	wantMayNot(t, made("1 2 1", ""))
	wantMayNot(t, made("1 3 2", "1-2/1"))
	wantMayNot(t, api.Graph{Nodes: slices.Repeat(upTo(1, 24), 100)})
}

func TestCheckRefusesEdges(t *testing.T) {
	for _, s := range []string{
		"1-1/1", "3-3/5", "1-2/0", "1-2/1001", "1-2/-1",
		"1-2/1 1-2/1", "1-2/1 1-2/2", "2-1/1 1-2/1", "1-3/1 1-2/1", "2-3/1 2-1/1", "3-1/1 2-3/1",
		"1-4/1", "4-1/1", "4-5/1", "0-1/1", "1-0/1", "0-0/1", "1-25/1", "25-1/1", "24-1/1", "1-24/1",
		"1-2/1 2-1/1 1-2/1", "1-2/1 1-3/1 2-1/1 1-2/1", "1-2/1 2-2/1 3-1/1", "1-2/1 2-1/0 3-1/1", "1-2/1 2-4/1 3-1/1",
	} {
		wantMayNot(t, made("1 2 3", s))
	}
	wantMayNot(t, made("", "1-2/1"))
	wantMayNot(t, made("1", "1-2/1"))
	wantMayNot(t, made("2", "1-2/1"))
	for _, cost := range noCosts {
		wantMayNot(t, api.Graph{Nodes: []int{1, 2}, Edges: []api.Edge{{From: 1, To: 2, Cost: cost}}})
	}
	for _, n := range noRouters {
		wantMayNot(t, api.Graph{Nodes: upTo(1, 24), Edges: []api.Edge{{From: n, To: 2, Cost: 1}}})
		wantMayNot(t, api.Graph{Nodes: upTo(1, 24), Edges: []api.Edge{{From: 1, To: n, Cost: 1}}})
		wantMayNot(t, api.Graph{Nodes: upTo(1, 24), Edges: []api.Edge{{From: n, To: n, Cost: 1}}})
	}
}

func TestCheckRefusesTooManyEdges(t *testing.T) {
	for count := 385; count <= 24*23; count++ {
		wantCheck(t, full(count), false)
	}
	wantMayNot(t, full(385))
	wantMayNot(t, full(24*23))
}

func TestCheckOfAllShortNodes(t *testing.T) {
	letters := []int{0, 1, 2, 3, 24, 25, -1, 1<<32 + 2}
	for length := range 5 {
		eachWord(length, len(letters), func(word []int) {
			var g api.Graph
			for _, i := range word {
				g.Nodes = append(g.Nodes, letters[i])
			}
			wantCheck(t, g, mayBe(g))
		})
	}
}

// Each one to three edges between 0 to 4, of which 1 to 3 are nodes.
func TestCheckOfAllShortEdges(t *testing.T) {
	costs := []int{1, 0, 1000, 1001}
	for length := range 4 {
		letters := 100
		if length == 3 {
			letters = 25
		}
		eachWord(length, letters, func(word []int) {
			g := api.Graph{Nodes: []int{1, 2, 3}}
			for _, i := range word {
				g.Edges = append(g.Edges, api.Edge{From: i % 5, To: i / 5 % 5, Cost: costs[i/25]})
			}
			wantCheck(t, g, mayBe(g))
		})
	}
}

func TestSame(t *testing.T) {
	graphs := []api.Graph{
		{}, made("1", ""), made("2", ""), made("1 2", ""), made("2 1", ""), made("1 2 3", ""), made("1 2 2", ""),
		made("1 2", "1-2/5"), made("1 2", "2-1/5"), made("1 2", "1-2/6"), made("1 2", "1-2/5 2-1/5"), made("1 2", "2-1/5 1-2/5"),
		made("1 2", "1-2/5 2-1/6"), made("1 2", "1-2/5 1-2/5"), made("1 2 3", "1-2/5"), made("1 2", "1-3/5"), made("1 2", "3-2/5"),
		made("", "1-2/5"), made("", "0-0/0"), made("0", ""), made("-1", ""), full(384), full(383), full(552), {Nodes: upTo(1, 24)},
	}
	for _, n := range huge {
		graphs = append(graphs, api.Graph{Nodes: []int{n}}, api.Graph{Edges: []api.Edge{{From: n, To: 1, Cost: 1}}},
			api.Graph{Edges: []api.Edge{{From: 1, To: n, Cost: 1}}}, api.Graph{Edges: []api.Edge{{From: 1, To: 1, Cost: n}}})
	}
	for i, a := range graphs {
		for j, b := range graphs {
			b = api.Graph{Nodes: slices.Clone(b.Nodes), Edges: slices.Clone(b.Edges)}
			if same := graph.Same(a, b); same != (i == j) {
				t.Errorf("Same(%v, %v) = %v", a, b, same)
			}
		}
	}
}

func TestSameOfNone(t *testing.T) {
	none := []api.Graph{{}, {Nodes: []int{}}, {Edges: []api.Edge{}}, {Nodes: []int{}, Edges: []api.Edge{}}, {Nodes: upTo(1, 5)[:0], Edges: full(5).Edges[:0]}}
	for _, a := range none {
		for _, b := range none {
			if !graph.Same(a, b) {
				t.Errorf("Same(%#v, %#v) is false", a, b)
			}
		}
		if graph.Same(a, made("1", "")) || graph.Same(made("1", ""), a) || graph.Same(a, made("", "1-2/1")) || graph.Same(made("", "1-2/1"), a) {
			t.Errorf("%#v is the same as one that has something", a)
		}
	}
	one, other := made("1 2", ""), made("1 2", "")
	one.Edges = []api.Edge{}
	if !graph.Same(one, other) || !graph.Same(other, one) {
		t.Error("no edges, nil and empty, are not the same")
	}
}

// P6.2

func TestBothOfTheExamples(t *testing.T) {
	want := made("1 2 3", "1-2/5 2-1/7")
	one, two, three := rec(1, "2/5"), rec(2, "1/7 3/1"), rec(3, "")
	wantBoth(t, []api.Record{one, two, three}, want)
	wantBoth(t, []api.Record{three, two, one}, want)
	wantBoth(t, []api.Record{two, one, three}, want)
	wantBoth(t, []api.Record{one}, made("1", ""))
	wantBoth(t, nil, api.Graph{})
	wantBoth(t, []api.Record{}, api.Graph{})
	wantNoBoth(t, []api.Record{rec(1, ""), rec(1, "")})
}

func TestBothOfOneRecord(t *testing.T) {
	for n := 1; n <= 24; n++ {
		want := api.Graph{Nodes: []int{n}}
		wantBoth(t, []api.Record{rec(n, "")}, want)
		r := ring()[n-1]
		wantBoth(t, []api.Record{r}, want)
	}
}

func TestBothOfTwoRecords(t *testing.T) {
	for a := 1; a <= 24; a++ {
		for b := a + 1; b <= 24; b++ {
			one, other := rec(a, fmt.Sprintf("%d/1", b)), rec(b, fmt.Sprintf("%d/1000", a))
			want := api.Graph{Nodes: []int{a, b}, Edges: []api.Edge{{From: a, To: b, Cost: 1}, {From: b, To: a, Cost: 1000}}}
			wantBoth(t, []api.Record{one, other}, want)
			wantBoth(t, []api.Record{other, one}, want)
			want.Edges = nil
			wantBoth(t, []api.Record{one, rec(b, "")}, want)
			wantBoth(t, []api.Record{rec(a, ""), other}, want)
		}
	}
}

// A neighbour without a record, or whose record does not say so, is come to by no edge.
func TestBothNeedsBothToSayIt(t *testing.T) {
	wantBoth(t, []api.Record{rec(1, "2/1 3/1 4/1"), rec(2, "3/2"), rec(3, "1/3 2/3 24/3")},
		made("1 2 3", "1-3/1 2-3/2 3-1/3 3-2/3"))
	wantBoth(t, []api.Record{rec(1, "2/1"), rec(2, "3/1"), rec(3, "1/1")}, made("1 2 3", ""))
	wantBoth(t, []api.Record{rec(24, "1/7 23/8"), rec(1, "24/9"), rec(23, "1/3 24/4")}, made("1 23 24", "1-24/9 23-24/4 24-1/7 24-23/8"))
}

func TestBothOfAllRouters(t *testing.T) {
	l := ring()
	g, e := graph.Both(l)
	want, _ := both(l)
	if e != api.OK || !equal(g, want) || len(g.Nodes) != 24 || len(g.Edges) != 384 {
		t.Errorf("Both(ring) = %v, %d", g, e)
	}
	wantAll(t, g)
	for n := 1; n <= 24; n++ {
		wantPart(t, g, n, upTo(1, 24)...)
	}
}

// What an edge has nothing to do with: Epoch, Seq, Claim, Ingress.
func TestBothLooksAtNeighboursAlone(t *testing.T) {
	for _, r := range []api.Record{
		{Epoch: 1, Seq: 1}, {Epoch: math.MaxUint32, Seq: 1}, {Epoch: 1, Seq: math.MaxUint32}, {Epoch: 2, Seq: 3, Claim: 1},
		{Epoch: 2, Seq: 3, Claim: 1024, Ingress: true}, {Epoch: 1, Seq: 1, Claim: 512},
	} {
		r.Origin, r.Adjs = 2, rec(2, "1/7 3/1").Adjs
		wantBoth(t, []api.Record{r, rec(1, "2/5"), rec(3, "")}, made("1 2 3", "1-2/5 2-1/7"))
	}
}

func TestBothRefusesRecords(t *testing.T) {
	var bad []api.Record
	change := func(do func(r *api.Record)) {
		r := rec(2, "1/7 3/1")
		do(&r)
		bad = append(bad, r)
	}
	change(func(r *api.Record) { r.Epoch = 0 })
	change(func(r *api.Record) { r.Seq = 0 })
	change(func(r *api.Record) { r.Epoch, r.Seq = 0, 0 })
	for _, n := range noRouters {
		change(func(r *api.Record) { r.Origin = n })
		change(func(r *api.Record) { r.Origin, r.Adjs = n, nil })
		change(func(r *api.Record) { r.Adjs[0].To = n })
		change(func(r *api.Record) { r.Adjs[1].To = n })
	}
	for _, n := range noCosts {
		change(func(r *api.Record) { r.Adjs[0].Cost = n })
		change(func(r *api.Record) { r.Adjs[1].Cost = n })
	}
	for _, n := range append([]int{-1, 1025, 2048}, huge...) {
		change(func(r *api.Record) { r.Claim = n })
	}
	for _, s := range []string{"2/1", "1/1 2/1", "2/1 3/1", "1/1 1/1", "3/1 1/1", "1/1 3/1 3/2", "1/1 4/1 3/1", "1/1 3/1 1/1"} {
		bad = append(bad, rec(2, s))
	}
	var all []string
	for n := 3; n <= 19; n++ {
		all = append(all, fmt.Sprintf("%d/5", n))
	}
	bad = append(bad, rec(2, strings.Join(all, " ")))
	wantBoth(t, []api.Record{rec(2, strings.Join(all[1:], " "))}, made("2", ""))
	wantBoth(t, []api.Record{rec(2, strings.Join(all[:16], " "))}, made("2", ""))
	for _, r := range bad {
		wantNoBoth(t, []api.Record{r})
		wantNoBoth(t, []api.Record{r, rec(1, "2/5"), rec(3, "")})
		wantNoBoth(t, []api.Record{rec(1, "2/5"), r, rec(3, "")})
		wantNoBoth(t, []api.Record{rec(1, "2/5"), rec(3, ""), r})
	}
}

func TestBothRefusesAnOriginTwice(t *testing.T) {
	for n := 1; n <= 24; n++ {
		newer := api.Record{Origin: n, Epoch: 3, Seq: 9, Claim: 7, Adjs: rec(n, fmt.Sprintf("%d/5", n%24+1)).Adjs}
		wantNoBoth(t, []api.Record{rec(n, ""), newer})
		wantNoBoth(t, []api.Record{newer, rec(n, "")})
		wantNoBoth(t, []api.Record{newer, newer})
		wantNoBoth(t, append(ring(), newer))
		wantNoBoth(t, append([]api.Record{newer}, ring()...))
	}
	wantNoBoth(t, []api.Record{rec(1, "2/5"), rec(2, "1/7"), rec(3, ""), rec(1, "2/5")})
	wantNoBoth(t, slices.Repeat(ring(), 200))
}

func TestBothOfMadeUpRecords(t *testing.T) {
	d := dice(6)
	for _, many := range []int{1, 2, 3, 6, 12, 24} {
		for range 150 {
			l := d.records(many)
			want, e := both(l)
			if e != api.OK {
				t.Fatalf("%v may not be", l)
			}
			wantBoth(t, l, want)
		}
	}
}

// P6.3

func TestNearAndPartOfTheExamples(t *testing.T) {
	g := made("1 2 3", "1-2/5 2-1/7")
	wantNear(t, g, 2, []api.Adj{{To: 1, Cost: 7}})
	wantPart(t, g, 1, 1, 2)
	wantPart(t, g, 3, 3)
	if l, e := graph.Part(g, 4); len(l) != 0 || e != api.ErrArg {
		t.Errorf("Part(.., 4) = %v, %d", l, e)
	}
	wantAll(t, g)
}

func TestNearAndPartOfNoNode(t *testing.T) {
	for _, g := range []api.Graph{{}, {Nodes: []int{}}, made("1", ""), made("2 3 5", "2-3/1"), made("1 2", "1-2/1 2-1/1"), full(384)} {
		for n := 1; n <= 24; n++ {
			if !slices.Contains(g.Nodes, n) {
				wantNeither(t, g, n)
			}
		}
		for _, n := range noRouters {
			wantNeither(t, g, n)
		}
	}
}

func TestNearAndPartOfOneNode(t *testing.T) {
	for n := 1; n <= 24; n++ {
		wantAll(t, api.Graph{Nodes: []int{n}})
		wantPart(t, api.Graph{Nodes: []int{n}}, n, n)
		wantNear(t, api.Graph{Nodes: []int{n}}, n, nil)
		wantPart(t, api.Graph{Nodes: upTo(1, 24)}, n, n)
	}
}

// A graph that may be need not have an edge both ways round: ways go the one way alone.
func TestPartGoesByTheEdgesWay(t *testing.T) {
	g := made("1 2 3 4 5", "1-2/1 2-3/1 4-3/1")
	wantPart(t, g, 1, 1, 2, 3)
	wantPart(t, g, 2, 2, 3)
	wantPart(t, g, 3, 3)
	wantPart(t, g, 4, 3, 4)
	wantPart(t, g, 5, 5)
	wantAll(t, g)
	wantAll(t, made("1 2 3", "1-2/1 2-3/1 3-1/1"))
	wantAll(t, made("2 4 6 8", "2-6/3 4-2/1 6-4/1 6-8/1000"))
}

// Chains, along which the nodes follow one another in any order.
func TestPartOfLongWays(t *testing.T) {
	down := upTo(1, 24)
	slices.Reverse(down)
	d := dice(60)
	rows := [][]int{upTo(1, 24), down}
	for range 50 {
		rows = append(rows, shuffled(&d, upTo(1, 24)))
	}
	for _, row := range rows {
		g := api.Graph{Nodes: upTo(1, 24)}
		for i := range row[1:] {
			g.Edges = append(g.Edges, api.Edge{From: row[i], To: row[i+1], Cost: 1 + i})
		}
		sortEdges(g.Edges)
		for i, n := range row {
			want := slices.Clone(row[i:])
			slices.Sort(want)
			wantPart(t, g, n, want...)
		}
		wantAll(t, g)
	}
}

func TestNearOfManyNeighbours(t *testing.T) {
	for n := 1; n <= 24; n++ {
		g := api.Graph{Nodes: upTo(1, 24)}
		for to := 1; to <= 24; to++ {
			if to != n {
				g.Edges = append(g.Edges, api.Edge{From: n, To: to, Cost: 1000 - to})
			}
		}
		wantAll(t, g)
		if l, _ := graph.Near(g, n); len(l) != 23 {
			t.Errorf("Near(%v, %d) = %v", g, n, l)
		}
	}
}

func TestNearAndPartOfMadeUpGraphs(t *testing.T) {
	d := dice(63)
	for _, many := range []int{1, 2, 4, 8, 16, 24, 48} {
		for range 100 {
			wantAll(t, d.graph(many))
		}
	}
	wantAll(t, full(384))
}

// Each graph of four nodes.
func TestPartOfAllSmallGraphs(t *testing.T) {
	eachWord(12, 2, func(word []int) {
		g := api.Graph{Nodes: []int{1, 2, 23, 24}}
		for i, there := range word {
			from, to := i/3, i%3
			if to >= from {
				to++
			}
			if there == 1 {
				g.Edges = append(g.Edges, api.Edge{From: g.Nodes[from], To: g.Nodes[to], Cost: 1 + i})
			}
		}
		wantAll(t, g)
	})
}

// P6.4

func TestOfOfTheExamples(t *testing.T) {
	wantOf(t, []int{3, 1, 2}, links("1-2/5 3-2/1"), made("1 2 3", "1-2/5 2-1/5 2-3/1 3-2/1"))
	wantNoOf(t, []int{1, 2}, links("1-2/5 2-1/6"), api.ErrBusy)
	wantNoOf(t, []int{1, 2}, links("1-3/5"), api.ErrArg)
	wantNoOf(t, []int{1, 1}, nil, api.ErrArg)
	wantNoOf(t, []int{1, 2}, links("1-2/0"), api.ErrArg)
}

func TestOfNone(t *testing.T) {
	wantOf(t, nil, nil, api.Graph{})
	wantOf(t, []int{}, []api.Link{}, api.Graph{})
	wantNoOf(t, nil, links("1-2/5"), api.ErrArg)
	wantNoOf(t, nil, make([]api.Link, 48), api.ErrArg)
	wantNoOf(t, nil, make([]api.Link, 49), api.ErrLong)
	for n := 1; n <= 24; n++ {
		wantOf(t, []int{n}, nil, api.Graph{Nodes: []int{n}})
		wantNoOf(t, []int{n}, []api.Link{{A: n, B: n, Cost: 1}}, api.ErrArg)
		wantNoOf(t, []int{n}, []api.Link{{A: n, B: n%24 + 1, Cost: 1}}, api.ErrArg)
	}
	wantOf(t, upTo(1, 24), nil, api.Graph{Nodes: upTo(1, 24)})
}

func TestOfEachPair(t *testing.T) {
	for a := 1; a <= 24; a++ {
		for b := 1; b <= 24; b++ {
			if a == b {
				continue
			}
			for _, cost := range []int{1, 2, 999, 1000} {
				want := api.Graph{Nodes: upTo(1, 24), Edges: []api.Edge{{From: a, To: b, Cost: cost}, {From: b, To: a, Cost: cost}}}
				sortEdges(want.Edges)
				wantOf(t, upTo(1, 24), []api.Link{{A: a, B: b, Cost: cost}}, want)
			}
			wantNoOf(t, upTo(1, 24), []api.Link{{A: a, B: b, Cost: 3}, {A: a, B: b, Cost: 3}}, api.ErrBusy)
			wantNoOf(t, upTo(1, 24), []api.Link{{A: a, B: b, Cost: 3}, {A: b, B: a, Cost: 3}}, api.ErrBusy)
		}
	}
}

func TestOfRefusesRouters(t *testing.T) {
	for _, n := range noRouters {
		for _, routers := range [][]int{{n}, {1, n}, {n, 1}, {1, 2, n, 3}, append(upTo(1, 24), n)} {
			wantNoOf(t, routers, nil, api.ErrArg)
			wantNoOf(t, routers, links("1-2/5"), api.ErrArg)
			wantNoOf(t, routers, make([]api.Link, 49), api.ErrArg)
		}
	}
	for n := 1; n <= 24; n++ {
		wantNoOf(t, []int{n, n}, nil, api.ErrArg)
		wantNoOf(t, append(upTo(1, 24), n), nil, api.ErrArg)
		wantNoOf(t, append([]int{n}, upTo(1, 24)...), links("1-2/5"), api.ErrArg)
		wantNoOf(t, append(upTo(1, 24), n), make([]api.Link, 49), api.ErrArg)
	}
	wantNoOf(t, slices.Repeat(upTo(1, 24), 100), nil, api.ErrArg)
}

func TestOfRefusesLinks(t *testing.T) {
	for _, n := range noRouters {
		for _, k := range []api.Link{{A: n, B: 1, Cost: 5}, {A: 1, B: n, Cost: 5}, {A: n, B: n, Cost: 5}} {
			wantNoOf(t, []int{2, 1}, []api.Link{k}, api.ErrArg)
			wantNoOf(t, upTo(1, 24), []api.Link{{A: 1, B: 2, Cost: 5}, k}, api.ErrArg)
		}
	}
	for n := 3; n <= 24; n++ {
		wantNoOf(t, []int{1, 2}, []api.Link{{A: 1, B: n, Cost: 5}}, api.ErrArg)
		wantNoOf(t, []int{1, 2}, []api.Link{{A: n, B: 2, Cost: 5}}, api.ErrArg)
		wantNoOf(t, []int{1, 2}, []api.Link{{A: n, B: n - 1, Cost: 5}}, api.ErrArg)
	}
	for _, cost := range noCosts {
		wantNoOf(t, []int{1, 2}, []api.Link{{A: 1, B: 2, Cost: cost}}, api.ErrArg)
		wantNoOf(t, []int{1, 2, 3}, []api.Link{{A: 1, B: 3, Cost: 5}, {A: 2, B: 1, Cost: cost}}, api.ErrArg)
	}
	wantNoOf(t, upTo(1, 24), make([]api.Link, 1), api.ErrArg)
}

func TestOfLinkByLink(t *testing.T) {
	for _, x := range []struct {
		links string
		want  api.Errno
	}{
		// Of one link: that it may not be comes ahead of its pair's being there.
		{"1-2/5 1-2/0", api.ErrArg},
		{"1-2/5 2-1/1001", api.ErrArg},
		{"1-2/5 1-2/5 1-1/5", api.ErrBusy},
		{"1-2/5 2-1/5 1-4/5", api.ErrBusy},
		{"1-2/5 2-1/5 2-3/0", api.ErrBusy},
		{"1-2/5 1-1/5 2-1/5", api.ErrArg},
		{"1-2/5 1-4/5 1-2/5", api.ErrArg},
		{"1-2/5 2-3/0 1-2/5", api.ErrArg},
		{"1-2/5 2-3/5 3-1/5 3-2/5", api.ErrBusy},
		{"1-2/5 2-3/5 3-1/5 1-3/5 0-0/0", api.ErrBusy},
		{"4-1/5 4-1/5", api.ErrArg},
		{"1-1/5 1-1/5", api.ErrArg},
	} {
		wantNoOf(t, []int{1, 2, 3}, links(x.links), x.want)
	}
}

// ladder has MaxLinks links and one more, of pairs that are unlike.
func ladder() []api.Link {
	var l []api.Link
	for n := 1; n <= 24; n++ {
		l = append(l, api.Link{A: n, B: n%24 + 1, Cost: n}, api.Link{A: (n+1)%24 + 1, B: n, Cost: 1001 - n})
	}
	return append(l, api.Link{A: 1, B: 13, Cost: 5})
}

func TestOfMaxLinks(t *testing.T) {
	l := ladder()
	want, e := of(upTo(1, 24), l[:48])
	if e != api.OK || len(want.Edges) != 96 {
		t.Fatalf("%v, %d", want, e)
	}
	wantOf(t, upTo(1, 24), l[:48], want)
	wantOf(t, upTo(1, 24), l[:47], api.Graph{Nodes: want.Nodes, Edges: slices.DeleteFunc(slices.Clone(want.Edges), func(e api.Edge) bool {
		return e.From == l[47].A && e.To == l[47].B || e.From == l[47].B && e.To == l[47].A
	})})
	wantNoOf(t, upTo(1, 24), l, api.ErrLong)
	wantNoOf(t, upTo(1, 24), append(l[:48:48], l[0]), api.ErrLong)
	wantNoOf(t, upTo(1, 24), append(l[:47:47], l[0]), api.ErrBusy)
	wantNoOf(t, upTo(1, 24), append(l[:47:47], api.Link{}), api.ErrArg)
	wantNoOf(t, []int{1}, l, api.ErrLong)
	wantNoOf(t, upTo(1, 24), make([]api.Link, 49), api.ErrLong)
	wantNoOf(t, upTo(1, 24), make([]api.Link, 5000), api.ErrLong)
}

func TestOfAStar(t *testing.T) {
	for n := 1; n <= 24; n++ {
		var l []api.Link
		for to := 1; to <= 24; to++ {
			if to != n {
				l = append(l, api.Link{A: n, B: to, Cost: to})
			}
		}
		want, _ := of(upTo(1, 24), l)
		wantOf(t, upTo(1, 24), l, want)
		wantAll(t, want)
		if a, _ := graph.Near(want, n); len(a) != 23 {
			t.Errorf("Near(.., %d) = %v", n, a)
		}
	}
}

func TestOfMadeUpLinks(t *testing.T) {
	d := dice(64)
	for range 500 {
		routers := d.routers()
		l := d.links(routers)
		want, e := of(routers, l)
		if e != api.OK {
			t.Fatalf("%v, %v may not be", routers, l)
		}
		wantOf(t, routers, l, want)
		wantOf(t, shuffled(&d, routers), shuffled(&d, l), want)
		turned := slices.Clone(l)
		for i := range turned {
			turned[i].A, turned[i].B = turned[i].B, turned[i].A
		}
		wantOf(t, routers, turned, want)
	}
}

// P6.5

// wantWhole looks that a graph may be, that each edge has one the other way round, and that parts part the nodes.
func wantWhole(t *testing.T, g api.Graph) {
	t.Helper()
	wantCheck(t, g, true)
	for _, e := range g.Edges {
		back := func(o api.Edge) bool { return o.From == e.To && o.To == e.From }
		if !slices.ContainsFunc(g.Edges, back) {
			t.Errorf("%v: %v goes one way alone", g, e)
		}
	}
	parts := map[int][]int{}
	for _, n := range g.Nodes {
		l, e := graph.Part(g, n)
		if e != api.OK || !slices.Contains(l, n) {
			t.Fatalf("Part(%v, %d) = %v, %d", g, n, l, e)
		}
		parts[n] = l
	}
	for _, a := range g.Nodes {
		for _, b := range g.Nodes {
			if slices.Contains(parts[a], b) && !slices.Equal(parts[a], parts[b]) {
				t.Errorf("%v: %d is in the part %v, and has the part %v", g, b, parts[a], parts[b])
			}
			inBoth := func(n int) bool { return slices.Contains(parts[b], n) }
			if !slices.Equal(parts[a], parts[b]) && slices.ContainsFunc(parts[a], inBoth) {
				t.Errorf("%v: the parts %v and %v have a node in common", g, parts[a], parts[b])
			}
		}
	}
}

func TestWhatBothAnswersMayBe(t *testing.T) {
	d := dice(65)
	for _, many := range []int{1, 2, 4, 6, 9, 14, 24} {
		several := 0
		for range 100 {
			l := d.records(many)
			g, e := graph.Both(l)
			if e != api.OK {
				t.Fatalf("Both(%v): %d", l, e)
			}
			wantWhole(t, g)
			if len(g.Edges) > 0 && len(part(g, g.Edges[0].From)) < len(g.Nodes) {
				several++
			}
			for range 3 {
				again, e := graph.Both(shuffled(&d, l))
				if e != api.OK || !graph.Same(g, again) || !equal(g, again) {
					t.Errorf("Both(%v) = %v, in another order %v", l, g, again)
				}
			}
		}
		if many > 6 && several < 10 {
			t.Errorf("only %d graphs have several parts", several)
		}
	}
	wantWhole(t, api.Graph{})
}

func TestBothInAllOrders(t *testing.T) {
	l := []api.Record{rec(1, "2/5 5/1"), rec(2, "1/7 3/1"), rec(3, "2/9 4/2"), rec(4, "1/1 3/4"), rec(5, "1/2")}
	want := made("1 2 3 4 5", "1-2/5 1-5/1 2-1/7 2-3/1 3-2/9 3-4/2 4-3/4 5-1/2")
	eachWord(5, 5, func(word []int) {
		var order []api.Record
		for i, n := range word {
			if slices.Contains(word[:i], n) {
				return
			}
			order = append(order, l[n])
		}
		wantBoth(t, order, want)
	})
}

func TestWhatOfAnswersMayBe(t *testing.T) {
	d := dice(66)
	for range 300 {
		routers := d.routers()
		g, e := graph.Of(routers, d.links(routers))
		if e != api.OK {
			t.Fatalf("Of: %d", e)
		}
		wantWhole(t, g)
		for _, e := range g.Edges {
			if !slices.Contains(g.Edges, api.Edge{From: e.To, To: e.From, Cost: e.Cost}) {
				t.Errorf("%v: %v costs otherwise the other way round", g, e)
			}
		}
	}
}

// P6.6

func TestOneRecordLess(t *testing.T) {
	d := dice(67)
	for _, many := range []int{1, 2, 4, 8, 16} {
		for range 40 {
			l := d.records(many)
			all, _ := graph.Both(l)
			for i, r := range l {
				g, e := graph.Both(slices.Concat(l[:i], l[i+1:]))
				want := api.Graph{
					Nodes: slices.DeleteFunc(slices.Clone(all.Nodes), func(n int) bool { return n == r.Origin }),
					Edges: slices.DeleteFunc(slices.Clone(all.Edges), func(e api.Edge) bool { return e.From == r.Origin || e.To == r.Origin }),
				}
				if e != api.OK || !equal(g, want) {
					t.Errorf("Both(%v) without %d = %v, %d; asked for: %v", l, r.Origin, g, e, want)
				}
			}
		}
	}
}

func TestOneNeighbourLess(t *testing.T) {
	d := dice(68)
	gone, none := 0, 0
	for _, many := range []int{1, 2, 4, 8} {
		for range 15 {
			l := d.records(many)
			all, _ := graph.Both(l)
			for i, r := range l {
				for j, a := range r.Adjs {
					less := slices.Clone(l)
					less[i].Adjs = slices.Concat(r.Adjs[:j], r.Adjs[j+1:])
					want := api.Graph{Nodes: all.Nodes, Edges: slices.DeleteFunc(slices.Clone(all.Edges), func(e api.Edge) bool {
						return e.From == r.Origin && e.To == a.To || e.From == a.To && e.To == r.Origin
					})}
					if g, e := graph.Both(less); e != api.OK || !equal(g, want) {
						t.Errorf("Both(%v) without %d's neighbour %d = %v, %d; asked for: %v", l, r.Origin, a.To, g, e, want)
					}
					if len(want.Edges) == len(all.Edges)-2 {
						gone++
					}
					if len(want.Edges) == len(all.Edges) {
						none++
					}
				}
			}
		}
	}
	if gone < 100 || none < 100 {
		t.Errorf("only %d neighbours took edges with them, %d took none", gone, none)
	}
}

// What was handed in stays as it was, and what is answered has nothing in common with it, or with another answer.

const mark = 77

var (
	markEdge   = api.Edge{From: mark, To: mark, Cost: mark}
	markAdj    = api.Adj{To: mark, Cost: mark}
	markLink   = api.Link{A: mark, B: mark, Cost: mark}
	markRecord = api.Record{Origin: mark}
)

func spoil(g api.Graph) {
	for i := range g.Nodes {
		g.Nodes[i] = mark
	}
	for i := range g.Edges {
		g.Edges[i] = markEdge
	}
}

func TestGraphsAreLeft(t *testing.T) {
	for _, was := range []api.Graph{
		{}, made("1", ""), made("1 2 3", "1-2/5 2-1/7"), full(384), made("3 2 1", "3-2/1 1-2/1"), made("1 2 3", "2-1/1 1-2/5"), made("1 2", "2-1/1001"), full(400),
	} {
		g := api.Graph{Nodes: guarded(was.Nodes, mark), Edges: guarded(was.Edges, markEdge)}
		graph.Check(g)
		graph.Same(g, was)
		graph.Same(g, full(384))
		for n := range 4 {
			adjs, _ := graph.Near(g, n)
			nodes, _ := graph.Part(g, n)
			again, _ := graph.Near(g, n)
			nodesAgain, _ := graph.Part(g, n)
			wantAdjs, wantNodes := slices.Clone(again), slices.Clone(nodesAgain)
			for i := range adjs {
				adjs[i] = markAdj
			}
			for i := range nodes {
				nodes[i] = mark
			}
			checkGuarded(t, g.Nodes, was.Nodes, mark)
			checkGuarded(t, g.Edges, was.Edges, markEdge)
			if !slices.Equal(again, wantAdjs) || !slices.Equal(nodesAgain, wantNodes) {
				t.Errorf("two answers of %v, %d share memory", was, n)
			}
		}
	}
}

func TestAnswersOutliveTheGraph(t *testing.T) {
	g := full(384)
	var adjs [][]api.Adj
	var parts [][]int
	for _, n := range g.Nodes {
		a, _ := graph.Near(g, n)
		p, _ := graph.Part(g, n)
		adjs, parts = append(adjs, a), append(parts, p)
	}
	spoil(g)
	for i := range 24 {
		if !slices.Equal(adjs[i], near(full(384), i+1)) || !slices.Equal(parts[i], part(full(384), i+1)) {
			t.Errorf("what was answered of %d hangs on the graph's memory: %v, %v", i+1, adjs[i], parts[i])
		}
	}
}

func TestRecordsAreLeft(t *testing.T) {
	d := dice(69)
	rows := [][]api.Record{ring(), {rec(3, "1/2 2/2"), rec(1, "3/1"), rec(3, "")}, {rec(2, "3/1 1/1"), rec(1, "2/1")}, nil}
	for range 40 {
		rows = append(rows, d.records(1+d.below(6)))
	}
	for _, was := range rows {
		l := guarded(was, markRecord)
		for i := range l {
			l[i].Adjs = guarded(l[i].Adjs, markAdj)
		}
		g, e := graph.Both(l)
		again, _ := graph.Both(l)
		if !graph.Same(g, again) {
			t.Errorf("Both(%v) = %v, then %v", was, g, again)
		}
		spoil(g)
		for i := range l {
			checkGuarded(t, l[i].Adjs, was[i].Adjs, markAdj)
			one, other := l[i], was[i]
			one.Adjs, other.Adjs = nil, nil
			if fmt.Sprint(one) != fmt.Sprint(other) {
				t.Errorf("the record handed in was changed: %v; it was %v", one, other)
			}
		}
		for _, r := range l[:cap(l)][len(l) : len(l)+4] {
			if r.Origin != mark {
				t.Errorf("the room behind the records was changed: %v", r)
			}
		}
		for i := range l {
			for j := range l[i].Adjs {
				l[i].Adjs[j] = markAdj
			}
			l[i] = markRecord
		}
		if want, wantE := both(was); e != wantE || !equal(again, want) {
			t.Errorf("Both(%v) shares memory with what it answered ahead, or was handed: %v", was, again)
		}
	}
}

func TestRoutersAndLinksAreLeft(t *testing.T) {
	d := dice(70)
	for n := range 60 {
		wasRouters := d.routers()
		was := d.links(wasRouters)
		if n%3 == 1 && len(was) > 0 {
			was = append(was, was[0])
		}
		if n%3 == 2 && len(wasRouters) > 0 {
			wasRouters = append(wasRouters, wasRouters[0])
		}
		routers, l := guarded(wasRouters, mark), guarded(was, markLink)
		g, e := graph.Of(routers, l)
		again, _ := graph.Of(routers, l)
		spoil(g)
		checkGuarded(t, routers, wasRouters, mark)
		checkGuarded(t, l, was, markLink)
		for i := range routers {
			routers[i] = mark
		}
		for i := range l {
			l[i] = markLink
		}
		if want, wantE := of(wasRouters, was); e != wantE || !equal(again, want) {
			t.Errorf("Of(%v, %v) shares memory with what it answered ahead, or was handed: %v", wasRouters, was, again)
		}
	}
}

// FuzzGraph takes the nodes, and three bytes an edge: from, to, cost.
func FuzzGraph(f *testing.F) {
	f.Add("\x01\x02\x03", "\x01\x02\x05\x02\x01\x07")
	f.Add("\x02\x01", "")
	f.Add("\x01\x18", "\x01\x18\x01\x18\x01\xfa")
	f.Add("\x01\x02", "\x01\x02\x00")
	f.Fuzz(func(t *testing.T, nodes, edges string) {
		var g api.Graph
		for i := range nodes {
			g.Nodes = append(g.Nodes, int(int8(nodes[i])))
		}
		for ; len(edges) >= 3; edges = edges[3:] {
			g.Edges = append(g.Edges, api.Edge{From: int(int8(edges[0])), To: int(int8(edges[1])), Cost: int(edges[2]) * 4})
		}
		if mayBe(g) {
			wantAll(t, g)
		} else {
			wantMayNot(t, g)
		}
		if !graph.Same(g, g) {
			t.Errorf("Same(%v, %v) is false", g, g)
		}
	})
}

// FuzzOf takes the routers, and three bytes a link: A, B, cost.
func FuzzOf(f *testing.F) {
	f.Add("\x03\x01\x02", "\x01\x02\x05\x03\x02\x01")
	f.Add("\x01\x02", "\x01\x02\x05\x02\x01\x06")
	f.Add("\x01\x01", "")
	f.Add("\x01\x02", strings.Repeat("\x01\x02\x05", 49))
	f.Fuzz(func(t *testing.T, numbers, text string) {
		var routers []int
		for i := range numbers {
			routers = append(routers, int(int8(numbers[i])))
		}
		var l []api.Link
		for ; len(text) >= 3; text = text[3:] {
			l = append(l, api.Link{A: int(int8(text[0])), B: int(int8(text[1])), Cost: int(text[2]) * 4})
		}
		want, e := of(routers, l)
		if e != api.OK {
			wantNoOf(t, routers, l, e)
			return
		}
		wantOf(t, routers, l, want)
		wantWhole(t, want)
	})
}

// FuzzBoth takes a record a line: Origin, Epoch, Seq, Claim, then two bytes a neighbour.
func FuzzBoth(f *testing.F) {
	f.Add("\x01\x01\x01\x00\x02\x05\n\x02\x01\x01\x00\x01\x07\x03\x01\n\x03\x01\x01\x00")
	f.Add("\x01\x01\x01\x00\n\x01\x01\x01\x00")
	f.Add("\x01\x00\x01\x00")
	f.Fuzz(func(t *testing.T, text string) {
		var l []api.Record
		for _, s := range strings.Split(text, "\n") {
			if len(s) < 4 {
				continue
			}
			r := api.Record{Origin: int(int8(s[0])), Epoch: uint32(s[1]), Seq: uint32(s[2]), Claim: int(int8(s[3])) * 9}
			for s = s[4:]; len(s) >= 2; s = s[2:] {
				r.Adjs = append(r.Adjs, api.Adj{To: int(int8(s[0])), Cost: int(s[1]) * 4})
			}
			l = append(l, r)
		}
		want, e := both(l)
		if e != api.OK {
			wantNoBoth(t, l)
			return
		}
		wantBoth(t, l, want)
		wantWhole(t, want)
	})
}
