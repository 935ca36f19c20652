package paths_test

import (
	"fmt"
	"math"
	"slices"
	"strings"
	"testing"

	"dandelion/api"
	"dandelion/paths"
)

// huge are numbers far from all routers, such as are like one in their lowest bits among them.
var huge = []int{
	math.MinInt, math.MinInt + 1, math.MinInt32, math.MaxInt32, math.MaxInt - 1, math.MaxInt,
	1<<16 + 1, 1<<16 + 2, 1 << 32, 1<<32 + 1, 1<<32 + 2, -1 << 32, 1 - 1<<32, 2 - 1<<32, 1<<61 + 1, 1 << 62,
}

var noRouters = append([]int{0, -1, -2, -24, 25, 26, 32, 48, 1<<8 + 1, 1<<8 + 2}, huge...)

// made reads nodes as "1 2", edges as "1-2/5 2-1/7".
func made(nodes, edges string) api.Graph {
	g := api.Graph{}
	for _, s := range strings.Fields(nodes) {
		var n int
		fmt.Sscanf(s, "%d", &n)
		g.Nodes = append(g.Nodes, n)
	}
	for _, s := range strings.Fields(edges) {
		var e api.Edge
		fmt.Sscanf(s, "%d-%d/%d", &e.From, &e.To, &e.Cost)
		g.Edges = append(g.Edges, e)
	}
	return g
}

// bothWays has each edge of the text the other way round too.
func bothWays(nodes, edges string) api.Graph {
	g := made(nodes, edges)
	for _, e := range g.Edges {
		g.Edges = append(g.Edges, api.Edge{From: e.To, To: e.From, Cost: e.Cost})
	}
	sortEdges(g.Edges)
	return g
}

// square is the graph of the document's examples.
func square() api.Graph { return bothWays("1 2 3 4", "1-2/1 1-3/1 2-4/1 3-4/1 1-4/2") }

func sortEdges(l []api.Edge) {
	slices.SortFunc(l, func(a, b api.Edge) int { return slices.Compare([]int{a.From, a.To}, []int{b.From, b.To}) })
}

func upTo(least, greatest int) []int {
	var l []int
	for n := least; n <= greatest; n++ {
		l = append(l, n)
	}
	return l
}

// full has all routers, an edge to each of the sixteen that follow (those behind 24 begin at 1), and costs by a rule.
func full(cost func(from, to int) int) api.Graph {
	g := api.Graph{Nodes: upTo(1, 24)}
	for from := 1; from <= 24; from++ {
		for far := 1; far <= 16; far++ {
			to := (from+far-1)%24 + 1
			g.Edges = append(g.Edges, api.Edge{From: from, To: to, Cost: cost(from, to)})
		}
	}
	sortEdges(g.Edges)
	return g
}

// chain has an edge from each one of the row to the next one.
func chain(row []int, cost int) api.Graph {
	g := api.Graph{Nodes: slices.Clone(row)}
	slices.Sort(g.Nodes)
	for i := range row[1:] {
		g.Edges = append(g.Edges, api.Edge{From: row[i], To: row[i+1], Cost: cost})
	}
	sortEdges(g.Edges)
	return g
}

// forks has as many least-cost ways as can be: from each node to each later one goes an edge that costs as much as those between.
func forks(count int) api.Graph {
	g := api.Graph{Nodes: upTo(1, count)}
	for a := 1; a <= count; a++ {
		for b := a + 1; b <= count; b++ {
			g.Edges = append(g.Edges, api.Edge{From: a, To: b, Cost: b - a})
		}
	}
	return g
}

// dice is a row of numbers that is the same each time.
type dice uint64

func (d *dice) below(n int) int {
	*d = *d*6364136223846793005 + 1442695040888963407
	return int(uint64(*d) >> 33 % uint64(n))
}

func shuffled[T any](d *dice, l []T) []T {
	l = slices.Clone(l)
	for i := len(l) - 1; i > 0; i-- {
		j := d.below(i + 1)
		l[i], l[j] = l[j], l[i]
	}
	return l
}

func (d *dice) routers(count int) []int {
	l := shuffled(d, upTo(1, 24))[:count]
	slices.Sort(l)
	return l
}

// graph has edges that need not be there both ways round, about one of so many, with costs of up to that number.
func (d *dice) graph(count, many, costs int) api.Graph {
	g := api.Graph{Nodes: d.routers(count)}
	for _, a := range g.Nodes {
		for _, b := range g.Nodes {
			if a != b && d.below(many) == 0 && len(g.Edges) < 384 {
				g.Edges = append(g.Edges, api.Edge{From: a, To: b, Cost: 1 + d.below(costs)})
			}
		}
	}
	return g
}

// even has each edge both ways at one cost.
func (d *dice) even(count, many, costs int) api.Graph {
	g := api.Graph{Nodes: d.routers(count)}
	for i, a := range g.Nodes {
		for _, b := range g.Nodes[:i] {
			if d.below(many) == 0 && len(g.Edges) < 384 {
				cost := 1 + d.below(costs)
				g.Edges = append(g.Edges, api.Edge{From: a, To: b, Cost: cost}, api.Edge{From: b, To: a, Cost: cost})
			}
		}
	}
	sortEdges(g.Edges)
	return g
}

// eachGraph hands over made-up graphs, from those with few edges to those with many, from those with many ways that are as good to those with hardly any.
func eachGraph(seed dice, times int, do func(d *dice, g api.Graph)) {
	d := seed
	for _, costs := range []int{1, 2, 4, 1000} {
		for _, many := range []int{1, 2, 3, 6, 12} {
			for range times {
				do(&d, d.graph(d.below(25), many, costs))
				do(&d, d.even(d.below(25), many, costs))
			}
		}
	}
}

// eachWord goes through all words of that length, of letters from 0 to letters - 1.
func eachWord(length, letters int, do func(word []int)) {
	word := make([]int, length)
	for {
		do(word)
		i := 0
		for i < length && word[i] == letters-1 {
			word[i] = 0
			i++
		}
		if i == length {
			return
		}
		word[i]++
	}
}

// The document's words, one by one.

func mayBe(g api.Graph) bool {
	for i, n := range g.Nodes {
		if n < 1 || n > 24 || i > 0 && g.Nodes[i-1] >= n {
			return false
		}
	}
	for i, e := range g.Edges {
		if !slices.Contains(g.Nodes, e.From) || !slices.Contains(g.Nodes, e.To) || e.From == e.To || e.Cost < 1 || e.Cost > 1000 {
			return false
		}
		if i > 0 && slices.Compare([]int{g.Edges[i-1].From, g.Edges[i-1].To}, []int{e.From, e.To}) >= 0 {
			return false
		}
	}
	return len(g.Edges) <= 384
}

func edgeCost(g api.Graph, from, to int) (int, bool) {
	i := slices.IndexFunc(g.Edges, func(e api.Edge) bool { return e.From == from && e.To == to })
	if i < 0 {
		return 0, false
	}
	return g.Edges[i].Cost, true
}

func cost(g api.Graph, way []int) (sum int, e api.Errno) {
	for _, n := range way {
		if !slices.Contains(g.Nodes, n) {
			return 0, api.ErrArg
		}
	}
	if len(way) == 0 {
		return 0, api.ErrArg
	}
	for i := 1; i < len(way); i++ {
		c, ok := edgeCost(g, way[i-1], way[i])
		if !ok {
			return 0, api.ErrNone
		}
		sum += c
	}
	return sum, api.OK
}

// allWays has each way to a node that comes to none twice: where a graph has few nodes, all of them can be gone through.
func allWays(g api.Graph, from, to int) (l [][]int) {
	var goOn func(way []int)
	goOn = func(way []int) {
		last := way[len(way)-1]
		if last == to {
			l = append(l, slices.Clone(way))
			return
		}
		for _, e := range g.Edges {
			if e.From == last && !slices.Contains(way, e.To) {
				goOn(append(slices.Clone(way), e.To))
			}
		}
	}
	goOn([]int{from})
	return l
}

// answer is what the calls have to tell of two nodes.
type answer struct {
	reach api.Reach
	count uint64
	first []int
}

// ofWays looks at all ways between two nodes; false, if there is none.
func ofWays(g api.Graph, from, to int) (a answer, ok bool) {
	var best [][]int
	least := 0
	for _, way := range allWays(g, from, to) {
		c, _ := cost(g, way)
		if best == nil || c < least {
			best, least = nil, c
		}
		if c == least {
			best = append(best, way)
		}
	}
	if best == nil {
		return answer{}, false
	}
	slices.SortFunc(best, slices.Compare[[]int])
	a = answer{reach: api.Reach{To: to, Cost: least, Least: len(best[0]) - 1}, count: uint64(len(best)), first: best[0]}
	for _, way := range best {
		a.reach.Least = min(a.reach.Least, len(way)-1)
		a.reach.Most = max(a.reach.Most, len(way)-1)
		if len(way) > 1 && !slices.Contains(a.reach.Next, way[1]) {
			a.reach.Next = append(a.reach.Next, way[1])
		}
	}
	slices.Sort(a.reach.Next)
	return a, true
}

const never = 1 << 40

// distances has the cost between all two nodes, by letting in one node after the other as a place between.
func distances(g api.Graph) (d [25][25]int) {
	for a := range d {
		for b := range d[a] {
			if a != b {
				d[a][b] = never
			}
		}
	}
	for _, e := range g.Edges {
		d[e.From][e.To] = e.Cost
	}
	for between := range d {
		for a := range d {
			for b := range d {
				d[a][b] = min(d[a][b], d[a][between]+d[between][b])
			}
		}
	}
	return d
}

// answersTo has, for a node, what is to be told of each other one (and of itself) as the one from which it is come to. It begins at the end: by the edges behind which as much is left as has to be.
func answersTo(g api.Graph, d [25][25]int, to int) map[int]answer {
	l := map[int]answer{to: {reach: api.Reach{To: to}, count: 1, first: []int{to}}}
	var ask func(from int) answer
	ask = func(from int) answer {
		if a, ok := l[from]; ok {
			return a
		}
		a := answer{reach: api.Reach{To: to, Cost: d[from][to]}}
		for _, e := range g.Edges {
			if e.From != from || e.Cost+d[e.To][to] != d[from][to] {
				continue
			}
			b := ask(e.To)
			if a.count == 0 {
				a.first = append([]int{from}, b.first...)
				a.reach.Least = b.reach.Least + 1
			}
			a.count += b.count
			a.reach.Least = min(a.reach.Least, b.reach.Least+1)
			a.reach.Most = max(a.reach.Most, b.reach.Most+1)
			a.reach.Next = append(a.reach.Next, e.To)
		}
		l[from] = a
		return a
	}
	for _, n := range g.Nodes {
		if d[n][to] < never {
			ask(n)
		}
	}
	return l
}

func equal(a, b api.Reach) bool {
	return a.To == b.To && a.Cost == b.Cost && a.Least == b.Least && a.Most == b.Most && slices.Equal(a.Next, b.Next)
}

func isZero(r api.Reach) bool { return equal(r, api.Reach{}) }

func wantFrom(t *testing.T, g api.Graph, root int, want []api.Reach) {
	t.Helper()
	if l, e := paths.From(g, root); !slices.EqualFunc(l, want, equal) || e != api.OK {
		t.Errorf("From(%v, %d) = %v, %d; asked for: %v", g, root, l, e, want)
	}
}

func wantCost(t *testing.T, g api.Graph, way []int, want int, wantE api.Errno) {
	t.Helper()
	if n, e := paths.Cost(g, way); n != want || e != wantE {
		t.Errorf("Cost(%v, %v) = %d, %d; asked for: %d, %d", g, way, n, e, want, wantE)
	}
}

func wantCount(t *testing.T, g api.Graph, from, to int, want uint64) {
	t.Helper()
	if n, e := paths.Count(g, from, to); n != want || e != api.OK {
		t.Errorf("Count(%v, %d, %d) = %d, %d; asked for: %d", g, from, to, n, e, want)
	}
}

func wantFirst(t *testing.T, g api.Graph, from, to int, want ...int) {
	t.Helper()
	if l, e := paths.First(g, from, to); !slices.Equal(l, want) || e != api.OK {
		t.Errorf("First(%v, %d, %d) = %v, %d; asked for: %v", g, from, to, l, e, want)
	}
}

func wantNoWay(t *testing.T, g api.Graph, from, to int) {
	t.Helper()
	wantCount(t, g, from, to, 0)
	if l, e := paths.First(g, from, to); len(l) != 0 || e != api.ErrNone {
		t.Errorf("First(%v, %d, %d) = %v, %d; there is no way", g, from, to, l, e)
	}
	if l, _ := paths.From(g, from); slices.ContainsFunc(l, func(r api.Reach) bool { return r.To == to }) {
		t.Errorf("From(%v, %d) = %v; there is no way to %d", g, from, l, to)
	}
}

func wantNoFrom(t *testing.T, g api.Graph, root int) {
	t.Helper()
	if l, e := paths.From(g, root); len(l) != 0 || e != api.ErrArg {
		t.Errorf("From(%v, %d) = %v, %d", g, root, l, e)
	}
}

func wantNoBetween(t *testing.T, g api.Graph, from, to int) {
	t.Helper()
	if n, e := paths.Count(g, from, to); n != 0 || e != api.ErrArg {
		t.Errorf("Count(%v, %d, %d) = %d, %d", g, from, to, n, e)
	}
	if l, e := paths.First(g, from, to); len(l) != 0 || e != api.ErrArg {
		t.Errorf("First(%v, %d, %d) = %v, %d", g, from, to, l, e)
	}
}

// wantAnswers holds what is told of all nodes, and of all two of them, against the words; at says what is to be told.
func wantAnswers(t *testing.T, g api.Graph, at func(from, to int) (answer, bool)) {
	t.Helper()
	for _, from := range g.Nodes {
		var l []api.Reach
		for _, to := range g.Nodes {
			a, ok := at(from, to)
			if !ok {
				wantNoWay(t, g, from, to)
				continue
			}
			l = append(l, a.reach)
			wantCount(t, g, from, to, a.count)
			wantFirst(t, g, from, to, a.first...)
		}
		wantFrom(t, g, from, l)
	}
}

func wantAll(t *testing.T, g api.Graph) {
	t.Helper()
	d := distances(g)
	to := map[int]map[int]answer{}
	for _, n := range g.Nodes {
		to[n] = answersTo(g, d, n)
	}
	wantAnswers(t, g, func(a, b int) (answer, bool) {
		x, ok := to[b][a]
		return x, ok
	})
}

// wantAllOfWays goes through all ways: for graphs that have few of them.
func wantAllOfWays(t *testing.T, g api.Graph) {
	t.Helper()
	wantAnswers(t, g, func(a, b int) (answer, bool) { return ofWays(g, a, b) })
}

// wantMayNot looks that no call takes the graph, whatever else it is handed.
func wantMayNot(t *testing.T, g api.Graph) {
	t.Helper()
	for n := range 26 {
		wantNoFrom(t, g, n)
		wantNoBetween(t, g, n, n)
		wantNoBetween(t, g, n, 1)
		wantNoBetween(t, g, 2, n)
		wantCost(t, g, []int{n}, 0, api.ErrArg)
	}
	for _, way := range [][]int{nil, {1, 2}, {2, 1}, {1, 2, 1, 2}, {2, 3}, {25}} {
		wantCost(t, g, way, 0, api.ErrArg)
	}
}

// guarded is a copy of l with marked room behind its end.
func guarded[T any](l []T, mark T) []T {
	room := append(slices.Clone(l), mark, mark, mark, mark)
	return room[:len(l)]
}

func checkGuarded[T comparable](t *testing.T, l, want []T, mark T) {
	t.Helper()
	if !slices.Equal(l, want) {
		t.Errorf("the list handed in was changed: %v; it was %v", l, want)
	}
	for _, x := range l[:cap(l)][len(l) : len(l)+4] {
		if x != mark {
			t.Errorf("the room behind the list handed in was changed: %v", x)
		}
	}
}

// All calls: graphs that may not be.

func TestGraphsThatMayNotBe(t *testing.T) {
	for _, g := range []api.Graph{
		made("2 1", ""), made("1 1", ""), made("1 3 2", "1-2/1"), made("0 1 2", "1-2/1"), made("1 2 25", "1-2/1 2-1/1"), made("-1 1 2", ""),
		made("1 2", "1-1/1"), made("1 2", "1-2/0"), made("1 2", "1-2/1001"), made("1 2", "1-2/-1"), made("1 2", "1-3/1"), made("1 2", "3-1/1"),
		made("1 2", "2-1/1 1-2/1"), made("1 2", "1-2/1 1-2/1"), made("1 2", "1-2/1 1-2/2"), made("1 2 3", "1-3/1 1-2/1"), made("", "1-2/1"),
		made("1 2 3", "1-2/1 2-1/1 2-25/1"), made("1 2 3", "0-1/1 1-2/1"),
		{Nodes: upTo(1, 25)}, {Nodes: slices.Repeat(upTo(1, 24), 50)},
	} {
		wantMayNot(t, g)
	}
	for _, n := range noRouters {
		wantMayNot(t, api.Graph{Nodes: []int{1, 2, n}})
		wantMayNot(t, api.Graph{Nodes: []int{1, 2}, Edges: []api.Edge{{From: 1, To: n, Cost: 1}}})
		wantMayNot(t, api.Graph{Nodes: []int{1, 2}, Edges: []api.Edge{{From: n, To: 1, Cost: 1}}})
	}
	for _, n := range append([]int{0, -1, 1001, 2000}, huge...) {
		wantMayNot(t, api.Graph{Nodes: []int{1, 2}, Edges: []api.Edge{{From: 1, To: 2, Cost: n}}})
	}
}

func TestTooManyEdges(t *testing.T) {
	g := forks(24)
	for _, e := range forks(24).Edges {
		g.Edges = append(g.Edges, api.Edge{From: e.To, To: e.From, Cost: e.Cost})
	}
	sortEdges(g.Edges)
	for _, count := range []int{385, 386, 552} {
		wantMayNot(t, api.Graph{Nodes: g.Nodes, Edges: g.Edges[:count]})
	}
	for _, count := range []int{383, 384} {
		wantAll(t, api.Graph{Nodes: g.Nodes, Edges: g.Edges[:count]})
	}
}

func TestWhatIsNoNode(t *testing.T) {
	for _, g := range []api.Graph{{}, {Nodes: []int{}, Edges: []api.Edge{}}, made("1", ""), made("2 3 5", "2-3/1"), square(), full(func(a, b int) int { return 1 })} {
		none := slices.Clone(noRouters)
		for n := 1; n <= 24; n++ {
			if !slices.Contains(g.Nodes, n) {
				none = append(none, n)
			}
		}
		for _, n := range none {
			wantNoFrom(t, g, n)
			wantNoBetween(t, g, n, n)
			wantCost(t, g, []int{n}, 0, api.ErrArg)
			wantCost(t, g, []int{n, n}, 0, api.ErrArg)
			for _, there := range g.Nodes {
				wantNoBetween(t, g, n, there)
				wantNoBetween(t, g, there, n)
				wantCost(t, g, []int{n, there}, 0, api.ErrArg)
				wantCost(t, g, []int{there, n}, 0, api.ErrArg)
			}
		}
	}
}

// P7.1

func TestFromOfTheExamples(t *testing.T) {
	wantFrom(t, square(), 1, []api.Reach{
		{To: 1},
		{To: 2, Cost: 1, Least: 1, Most: 1, Next: []int{2}},
		{To: 3, Cost: 1, Least: 1, Most: 1, Next: []int{3}},
		{To: 4, Cost: 2, Least: 1, Most: 2, Next: []int{2, 3, 4}},
	})
	wantNoFrom(t, square(), 5)
	wantAll(t, square())
	wantAllOfWays(t, square())
}

func TestFromOfOneNode(t *testing.T) {
	for n := 1; n <= 24; n++ {
		wantFrom(t, api.Graph{Nodes: []int{n}}, n, []api.Reach{{To: n}})
		wantFrom(t, api.Graph{Nodes: upTo(1, 24)}, n, []api.Reach{{To: n}})
		wantAll(t, api.Graph{Nodes: []int{n}})
	}
}

func TestFromTellsItsPartAlone(t *testing.T) {
	g := bothWays("1 2 3 4 5 6 24", "1-5/3 2-4/1 4-24/1000")
	wantFrom(t, g, 5, []api.Reach{{To: 1, Cost: 3, Least: 1, Most: 1, Next: []int{1}}, {To: 5}})
	wantFrom(t, g, 24, []api.Reach{
		{To: 2, Cost: 1001, Least: 2, Most: 2, Next: []int{4}},
		{To: 4, Cost: 1000, Least: 1, Most: 1, Next: []int{4}},
		{To: 24},
	})
	wantFrom(t, g, 3, []api.Reach{{To: 3}})
	wantAllOfWays(t, g)
}

func TestFromGoesByTheEdgesWay(t *testing.T) {
	g := made("1 2 3", "1-2/7 3-1/1")
	wantFrom(t, g, 1, []api.Reach{{To: 1}, {To: 2, Cost: 7, Least: 1, Most: 1, Next: []int{2}}})
	wantFrom(t, g, 2, []api.Reach{{To: 2}})
	wantFrom(t, g, 3, []api.Reach{
		{To: 1, Cost: 1, Least: 1, Most: 1, Next: []int{1}},
		{To: 2, Cost: 8, Least: 2, Most: 2, Next: []int{1}},
		{To: 3},
	})
	wantAllOfWays(t, made("1 2 3 4", "1-2/1 2-3/1 3-4/1 4-1/1"))
	wantAllOfWays(t, made("1 2 3 4 5", "1-2/1 2-3/1 4-3/1 5-1/4 5-3/6"))
}

// What is unlike the two ways round, costs, hops and neighbours are too.
func TestFromWithCostsThatAreUnlike(t *testing.T) {
	g := made("1 2 3", "1-2/1 1-3/10 2-1/5 2-3/1 3-1/3 3-2/9")
	wantFrom(t, g, 1, []api.Reach{{To: 1}, {To: 2, Cost: 1, Least: 1, Most: 1, Next: []int{2}}, {To: 3, Cost: 2, Least: 2, Most: 2, Next: []int{2}}})
	wantFrom(t, g, 2, []api.Reach{{To: 1, Cost: 4, Least: 2, Most: 2, Next: []int{3}}, {To: 2}, {To: 3, Cost: 1, Least: 1, Most: 1, Next: []int{3}}})
	wantFrom(t, g, 3, []api.Reach{{To: 1, Cost: 3, Least: 1, Most: 1, Next: []int{1}}, {To: 2, Cost: 4, Least: 2, Most: 2, Next: []int{1}}, {To: 3}})
	wantAllOfWays(t, g)
}

// Ways of one hop up to five, which are as good; and the same beside a cheaper one, or one by which the dearer ones are left out.
func TestFromOfUnlikeHops(t *testing.T) {
	g := made("1 2 3 4 5 6", "1-2/1 1-3/2 1-6/10 2-3/1 3-4/3 3-6/8 4-5/2 4-6/5 5-6/3")
	wantFrom(t, g, 1, []api.Reach{
		{To: 1},
		{To: 2, Cost: 1, Least: 1, Most: 1, Next: []int{2}},
		{To: 3, Cost: 2, Least: 1, Most: 2, Next: []int{2, 3}},
		{To: 4, Cost: 5, Least: 2, Most: 3, Next: []int{2, 3}},
		{To: 5, Cost: 7, Least: 3, Most: 4, Next: []int{2, 3}},
		{To: 6, Cost: 10, Least: 1, Most: 5, Next: []int{2, 3, 6}},
	})
	wantCount(t, g, 1, 6, 7)
	wantFirst(t, g, 1, 6, 1, 2, 3, 4, 5, 6)
	wantAllOfWays(t, g)
	g.Edges[2].Cost = 9
	wantAllOfWays(t, g)
	wantCount(t, g, 1, 6, 1)
	wantFirst(t, g, 1, 6, 1, 6)
	g.Edges[2].Cost = 11
	wantAllOfWays(t, g)
	wantCount(t, g, 1, 6, 6)
}

// The way with fewer hops is not the cheaper one; a node that is found dear at first is found cheaper later.
func TestFromOfCheapWaysWithManyHops(t *testing.T) {
	wantFrom(t, made("1 2 3 4", "1-2/1 1-3/9 1-4/1000 2-3/1 3-4/1"), 1, []api.Reach{
		{To: 1},
		{To: 2, Cost: 1, Least: 1, Most: 1, Next: []int{2}},
		{To: 3, Cost: 2, Least: 2, Most: 2, Next: []int{2}},
		{To: 4, Cost: 3, Least: 3, Most: 3, Next: []int{2}},
	})
	wantAllOfWays(t, made("1 2 3 4 5", "1-2/100 1-3/50 1-4/20 1-5/10 3-2/1 4-3/1 5-4/1"))
	wantAllOfWays(t, made("1 2 3 4 5", "1-2/13 1-3/12 1-4/11 1-5/10 3-2/1 4-3/1 5-4/1"))
}

func TestFromAlongChains(t *testing.T) {
	down := upTo(1, 24)
	slices.Reverse(down)
	d := dice(71)
	rows := [][]int{upTo(1, 24), down}
	for range 20 {
		rows = append(rows, shuffled(&d, upTo(1, 24)))
	}
	for _, row := range rows {
		for _, cost := range []int{1, 1000} {
			g := chain(row, cost)
			wantAll(t, g)
			l, e := paths.From(g, row[0])
			last, ok := paths.Of(l, row[23])
			if e != api.OK || !ok || !equal(last, api.Reach{To: row[23], Cost: 23 * cost, Least: 23, Most: 23, Next: []int{row[1]}}) {
				t.Errorf("From(%v, %d) = %v, %d", g, row[0], l, e)
			}
			wantFirst(t, g, row[0], row[23], row...)
			wantNoWay(t, g, row[1], row[0])
		}
	}
}

func TestFromOfAllRouters(t *testing.T) {
	d := dice(72)
	for _, rule := range []func(a, b int) int{
		func(a, b int) int { return 1 },
		func(a, b int) int { return 1000 },
		func(a, b int) int { return (b-a+24)%24*62 + 1 },
		func(a, b int) int { return (b - a + 24) % 24 },
		func(a, b int) int { return max(a-b, b-a) },
		func(a, b int) int { return a*40 + b },
		func(a, b int) int { return 1 + d.below(1000) },
		func(a, b int) int { return 1 + d.below(3) },
	} {
		g := full(rule)
		if len(g.Edges) != 384 || !mayBe(g) {
			t.Fatalf("%v may not be", g)
		}
		wantAll(t, g)
	}
}

// Each graph of three nodes with costs of up to 3.
func TestAllGraphsOfThreeNodes(t *testing.T) {
	eachWord(6, 4, func(word []int) {
		g := api.Graph{Nodes: []int{1, 2, 24}}
		for i, cost := range word {
			from, to := i/2, i%2
			if to >= from {
				to++
			}
			if cost > 0 {
				g.Edges = append(g.Edges, api.Edge{From: g.Nodes[from], To: g.Nodes[to], Cost: cost})
			}
		}
		wantAllOfWays(t, g)
	})
}

// Each graph of four nodes with edges both ways and costs of up to 3, and each one with edges of one cost.
func TestAllGraphsOfFourNodes(t *testing.T) {
	eachWord(6, 4, func(word []int) {
		g := api.Graph{Nodes: []int{3, 5, 8, 9}}
		i := 0
		for b := range 4 {
			for a := range b {
				if word[i] > 0 {
					g.Edges = append(g.Edges, api.Edge{From: g.Nodes[a], To: g.Nodes[b], Cost: word[i]}, api.Edge{From: g.Nodes[b], To: g.Nodes[a], Cost: word[i]})
				}
				i++
			}
		}
		sortEdges(g.Edges)
		wantAllOfWays(t, g)
	})
	eachWord(12, 2, func(word []int) {
		g := api.Graph{Nodes: []int{1, 2, 3, 4}}
		for i, there := range word {
			from, to := i/3+1, i%3+1
			if to >= from {
				to++
			}
			if there == 1 {
				g.Edges = append(g.Edges, api.Edge{From: from, To: to, Cost: 1})
			}
		}
		wantAllOfWays(t, g)
	})
}

func TestFromOfMadeUpGraphs(t *testing.T) {
	eachGraph(73, 6, func(d *dice, g api.Graph) { wantAll(t, g) })
	d := dice(74)
	for range 300 {
		wantAllOfWays(t, d.graph(2+d.below(5), 1+d.below(3), 1+d.below(4)))
	}
}

// P7.2

func TestOfTheExamples(t *testing.T) {
	l, _ := paths.From(square(), 1)
	if r, ok := paths.Of(l, 9); ok || !isZero(r) {
		t.Errorf("Of(%v, 9) = %v, %v", l, r, ok)
	}
	for _, want := range l {
		if r, ok := paths.Of(l, want.To); !ok || !equal(r, want) {
			t.Errorf("Of(%v, %d) = %v, %v", l, want.To, r, ok)
		}
	}
}

func TestOfNone(t *testing.T) {
	for _, l := range [][]api.Reach{nil, {}, {{To: 7, Cost: 1, Next: []int{2}}}, {{To: 1}, {To: 2}, {To: 4}}, {{Cost: 3, Least: 3, Most: 3, Next: []int{3}, To: 5}}} {
		for _, to := range append([]int{0, 3, 6, -1, -7, 25, 1<<32 + 7}, huge...) {
			if r, ok := paths.Of(l, to); ok || !isZero(r) {
				t.Errorf("Of(%v, %d) = %v, %v", l, to, r, ok)
			}
		}
	}
}

// A list that is handed in need be none that From tells: it need not rise, a To may stand there twice, and be no router.
func TestOfTellsTheFirst(t *testing.T) {
	l := []api.Reach{
		{To: 5, Cost: 1, Least: 2, Most: 3, Next: []int{9, 4, 4}}, {To: 2, Cost: 2}, {To: 5, Cost: 3}, {To: 0, Cost: 4, Next: []int{1}}, {To: 2, Cost: 5},
		{To: -1, Cost: -6, Least: -7, Most: math.MinInt, Next: []int{math.MaxInt, 0}}, {To: 0, Cost: 8}, {To: -1}, {}, {To: math.MaxInt, Cost: 9}, {To: math.MinInt, Cost: 10}, {To: 1, Cost: 11},
	}
	for i, want := range map[int]int{5: 0, 2: 1, 0: 3, -1: 5, math.MaxInt: 9, math.MinInt: 10, 1: 11} {
		if r, ok := paths.Of(l, i); !ok || !equal(r, l[want]) {
			t.Errorf("Of(.., %d) = %v, %v; asked for: %v", i, r, ok, l[want])
		}
	}
	eachWord(4, 3, func(word []int) {
		var l []api.Reach
		for i, n := range word {
			l = append(l, api.Reach{To: n, Cost: i + 1, Next: []int{i}})
		}
		for to := range 4 {
			r, ok := paths.Of(l, to)
			i := slices.Index(word, to)
			if ok != (i >= 0) || ok && !equal(r, l[i]) || !ok && !isZero(r) {
				t.Errorf("Of(%v, %d) = %v, %v", l, to, r, ok)
			}
		}
	})
}

// P7.3

func TestCostOfTheExamples(t *testing.T) {
	g := square()
	wantCost(t, g, []int{1, 2, 1, 2}, 3, api.OK)
	wantCost(t, g, []int{2, 3}, 0, api.ErrNone)
	wantCost(t, g, nil, 0, api.ErrArg)
	wantCost(t, g, []int{5}, 0, api.ErrArg)
	wantCost(t, g, []int{3}, 0, api.OK)
}

func TestCostOfNoWay(t *testing.T) {
	g := made("1 2 3", "1-2/7 2-3/9")
	for _, way := range [][]int{{1, 1}, {2, 2, 3}, {1, 2, 2}, {1, 3}, {2, 1}, {3, 2, 1}, {1, 2, 3, 1}, {1, 2, 3, 3}, {3, 1, 2}} {
		wantCost(t, g, way, 0, api.ErrNone)
	}
	for _, way := range [][]int{nil, {}, {4}, {1, 4}, {4, 1}, {1, 2, 3, 4}, {0}, {1, 2, 0}} {
		wantCost(t, g, way, 0, api.ErrArg)
	}
	wantCost(t, api.Graph{}, nil, 0, api.ErrArg)
	wantCost(t, api.Graph{}, []int{1}, 0, api.ErrArg)
	wantCost(t, made("1 2", ""), []int{1, 2}, 0, api.ErrNone)
	for _, n := range noRouters {
		// What is no node comes ahead of what is no edge, wherever the two stand.
		for _, way := range [][]int{{n}, {1, n}, {n, 1}, {1, 2, n}, {1, 3, n}, {n, 1, 3}, {3, 2, 1, n, 1}, {1, 1, n}} {
			wantCost(t, g, way, 0, api.ErrArg)
		}
	}
}

func TestCostOfAllShortWays(t *testing.T) {
	letters := []int{1, 2, 3, 24, 0, 5}
	for _, g := range []api.Graph{
		made("1 2 3 24", "1-2/5 2-1/7 2-3/1 2-24/1000 3-2/1 24-2/999"), made("1 2 3 24", "1-2/1 2-3/20 3-24/300 24-1/1000"), made("1 2 3 24", ""), made("1 2", "2-1/3"),
	} {
		for length := range 6 {
			eachWord(length, len(letters), func(word []int) {
				var way []int
				for _, i := range word {
					way = append(way, letters[i])
				}
				want, e := cost(g, way)
				wantCost(t, g, way, want, e)
			})
		}
	}
}

func TestCostOfLongWays(t *testing.T) {
	g := made("1 2 3", "1-2/1000 2-1/999 2-3/1 3-2/1")
	for _, times := range []int{1, 2, 100, 300000} {
		way := append(slices.Repeat([]int{1, 2, 3, 2}, times), 1)
		wantCost(t, g, way, times*(1000+1+1+999), api.OK)
		wantCost(t, g, append(way, 1), 0, api.ErrNone)
		wantCost(t, g, append(way, 3), 0, api.ErrNone)
		wantCost(t, g, append(way, 4), 0, api.ErrArg)
		wantCost(t, g, append([]int{0, 3}, way...), 0, api.ErrArg)
		wantCost(t, g, append([]int{3}, way...), 0, api.ErrNone)
	}
}

func TestCostOfMadeUpWays(t *testing.T) {
	eachGraph(75, 5, func(d *dice, g api.Graph) {
		if len(g.Nodes) == 0 {
			return
		}
		for range 20 {
			way := []int{g.Nodes[d.below(len(g.Nodes))]}
			for range d.below(40) {
				var on []int
				for _, e := range g.Edges {
					if e.From == way[len(way)-1] {
						on = append(on, e.To)
					}
				}
				if d.below(30) == 0 {
					on = g.Nodes
				}
				if len(on) > 0 {
					way = append(way, on[d.below(len(on))])
				}
			}
			want, e := cost(g, way)
			wantCost(t, g, way, want, e)
		}
	})
}

// P7.4

func TestCountAndFirstOfTheExamples(t *testing.T) {
	g := square()
	wantCount(t, g, 1, 4, 3)
	wantCount(t, g, 2, 2, 1)
	wantFirst(t, g, 1, 4, 1, 2, 4)
	wantFirst(t, g, 3, 2, 3, 1, 2)
	wantNoWay(t, made("1 2", ""), 1, 2)
}

func TestFromANodeToItself(t *testing.T) {
	for _, g := range []api.Graph{square(), full(func(a, b int) int { return 1 }), chain(upTo(1, 24), 1), {Nodes: upTo(1, 24)}, made("7", "")} {
		for _, n := range g.Nodes {
			wantCount(t, g, n, n, 1)
			wantFirst(t, g, n, n, n)
		}
	}
}

func TestNoWay(t *testing.T) {
	g := made("1 2 3 4", "1-2/1 2-3/1 4-3/1")
	wantNoWay(t, g, 2, 1)
	wantNoWay(t, g, 3, 1)
	wantNoWay(t, g, 1, 4)
	wantNoWay(t, g, 4, 1)
	wantNoWay(t, g, 3, 4)
	wantCount(t, g, 1, 3, 1)
	wantCount(t, g, 4, 3, 1)
}

// The way that is ahead need be neither that of the fewest hops nor that of the least last node.
func TestFirstIsAhead(t *testing.T) {
	// 1 2 9 is ahead of 1 3 4 9, though 3 4 is found cheaper at first.
	wantFirst(t, made("1 2 3 4 9", "1-2/5 1-3/1 2-9/1 3-4/1 4-9/4"), 1, 9, 1, 2, 9)
	// 1 2 8 9 is ahead of 1 3 4 9, though 4 is less than 8.
	wantFirst(t, made("1 2 3 4 8 9", "1-2/1 1-3/1 2-8/1 3-4/1 4-9/1 8-9/1"), 1, 9, 1, 2, 8, 9)
	// 1 2 9 is ahead of 1 9: the second place tells, not the hops.
	wantFirst(t, made("1 2 9", "1-2/1 1-9/2 2-9/1"), 1, 9, 1, 2, 9)
	wantFirst(t, made("1 2 9", "1-2/1 1-9/2 9-2/1"), 1, 9, 1, 9)
	wantFirst(t, made("2 3 9", "3-2/2 3-9/1 9-2/1"), 3, 2, 3, 2)
	// At the third place, behind one that they have in common.
	wantFirst(t, made("1 2 3 4 5", "1-5/1 2-4/1 3-4/1 5-2/1 5-3/1"), 1, 4, 1, 5, 2, 4)
	wantFirst(t, made("1 2 3 4 5 6", "1-5/1 2-6/1 3-4/1 5-2/1 5-3/1 6-4/1"), 1, 4, 1, 5, 3, 4)
	// A node that is less than all others, on no least-cost way.
	wantFirst(t, made("1 2 3 4", "1-4/3 2-1/1 2-3/1 3-4/2"), 2, 4, 2, 3, 4)
}

func TestCountOfAsManyWaysAsCanBe(t *testing.T) {
	for count := 2; count <= 24; count++ {
		g := forks(count)
		wantAll(t, g)
		wantCount(t, g, 1, count, 1<<(count-2))
		wantFirst(t, g, 1, count, upTo(1, count)...)
		l, _ := paths.From(g, 1)
		last, ok := paths.Of(l, count)
		if !ok || !equal(last, api.Reach{To: count, Cost: count - 1, Least: 1, Most: count - 1, Next: upTo(2, count)}) {
			t.Errorf("From(%v, 1) = %v", g, l)
		}
	}
}

// Layers of three nodes, of which each one goes to all of the next layer.
func TestCountOfLayers(t *testing.T) {
	g := api.Graph{Nodes: upTo(1, 24)}
	for a := 1; a <= 21; a++ {
		next := (a-1)/3*3 + 4
		for b := next; b < next+3; b++ {
			g.Edges = append(g.Edges, api.Edge{From: a, To: b, Cost: 1000}, api.Edge{From: b, To: a, Cost: 1000})
		}
	}
	sortEdges(g.Edges)
	wantAll(t, g)
	wantCount(t, g, 3, 24, 729)
	wantCount(t, g, 24, 3, 729)
	wantFirst(t, g, 3, 24, 3, 4, 7, 10, 13, 16, 19, 24)
	wantFirst(t, g, 24, 3, 24, 19, 16, 13, 10, 7, 4, 3)
}

// P7.5

// wantCheapest looks that what the calls tell of a root fits together.
func wantCheapest(t *testing.T, g api.Graph, root int) {
	t.Helper()
	l, e := paths.From(g, root)
	if e != api.OK {
		t.Fatalf("From(%v, %d): %d", g, root, e)
	}
	for _, r := range l {
		way, e := paths.First(g, root, r.To)
		c, ce := paths.Cost(g, way)
		hops := len(way) - 1
		if e != api.OK || ce != api.OK || way[0] != root || way[hops] != r.To || c != r.Cost || hops < r.Least || hops > r.Most {
			t.Errorf("%v: First from %d is %v, which costs %d; From says %v", g, root, way, c, r)
		}
		if hops > 0 && !slices.Contains(r.Next, way[1]) || hops == 0 && len(r.Next) > 0 {
			t.Errorf("%v: First from %d is %v; From says %v", g, root, way, r)
		}
		justSo := false
		for _, x := range g.Edges {
			from, _ := paths.Of(l, x.From)
			justSo = justSo || x.To == r.To && from.To == x.From && from.Cost+x.Cost == r.Cost
		}
		if justSo != (r.To != root) {
			t.Errorf("%v: from %d: no neighbour of %v is just so much cheaper", g, root, r)
		}
	}
	for _, x := range g.Edges {
		from, ok := paths.Of(l, x.From)
		to, there := paths.Of(l, x.To)
		if ok && (!there || to.Cost > from.Cost+x.Cost) {
			t.Errorf("%v: from %d: %v leads on cheaper from %v to %v", g, root, x, from, to)
		}
	}
}

func TestNoWayIsCheaper(t *testing.T) {
	eachGraph(76, 4, func(d *dice, g api.Graph) {
		for _, n := range g.Nodes {
			wantCheapest(t, g, n)
		}
	})
	for _, g := range []api.Graph{square(), forks(24), chain(upTo(1, 24), 1000), full(func(a, b int) int { return a*40 + b })} {
		for _, n := range g.Nodes {
			wantCheapest(t, g, n)
		}
	}
}

// P7.6

// wantNoneCheaper looks that no node is cheaper in the changed graph, and that none is come to that was not.
func wantNoneCheaper(t *testing.T, was, g api.Graph) (dearer bool) {
	t.Helper()
	for _, root := range g.Nodes {
		before, _ := paths.From(was, root)
		after, e := paths.From(g, root)
		if e != api.OK || len(after) > len(before) {
			t.Errorf("From(%v, %d) = %v, %d; it was %v", g, root, after, e, before)
		}
		for _, r := range after {
			b, ok := paths.Of(before, r.To)
			if !ok || r.Cost < b.Cost {
				t.Errorf("From(%v, %d) tells %v; it was %v", g, root, r, b)
			}
			dearer = dearer || r.Cost > b.Cost
		}
	}
	return dearer
}

func TestALongerEdgeAndOneEdgeLess(t *testing.T) {
	dearer := 0
	eachGraph(77, 2, func(d *dice, g api.Graph) {
		for range min(len(g.Edges), 4) {
			i := d.below(len(g.Edges))
			longer := api.Graph{Nodes: g.Nodes, Edges: slices.Clone(g.Edges)}
			longer.Edges[i].Cost += d.below(1001 - longer.Edges[i].Cost)
			if wantNoneCheaper(t, g, longer) {
				dearer++
			}
			less := api.Graph{Nodes: g.Nodes, Edges: slices.Concat(g.Edges[:i], g.Edges[i+1:])}
			wantNoneCheaper(t, g, less)
			wantNoneCheaper(t, longer, less)
		}
	})
	if dearer < 30 {
		t.Errorf("only %d longer edges made a node dearer", dearer)
	}
}

func TestFromAndToChangedAbout(t *testing.T) {
	d := dice(78)
	several := 0
	for _, costs := range []int{1, 2, 5, 1000} {
		for _, many := range []int{1, 2, 4, 8} {
			for range 4 {
				g := d.even(2+d.below(23), many, costs)
				for _, a := range g.Nodes {
					l, _ := paths.From(g, a)
					for _, there := range l {
						b := there.To
						back, e := paths.From(g, b)
						r, ok := paths.Of(back, a)
						if e != api.OK || !ok || r.Cost != there.Cost || r.Least != there.Least || r.Most != there.Most {
							t.Errorf("%v: from %d: %v; back: %v", g, a, there, r)
						}
						n, _ := paths.Count(g, a, b)
						m, _ := paths.Count(g, b, a)
						if n != m || n == 0 {
							t.Errorf("%v: %d ways from %d to %d, %d back", g, n, a, b, m)
						}
						if n > 1 && there.Least < there.Most {
							several++
						}
					}
				}
			}
		}
	}
	if several < 100 {
		t.Errorf("only %d pairs have several ways of unlike hops", several)
	}
}

// What was handed in stays as it was, and what is answered has nothing in common with it, or with another answer.

const mark = 77

var markEdge = api.Edge{From: mark, To: mark, Cost: mark}

func TestGraphsAndWaysAreLeft(t *testing.T) {
	for _, was := range []api.Graph{
		{}, made("1", ""), made("1 2 3", "1-2/5 2-1/7"), square(), forks(24), full(func(a, b int) int { return 1 }),
		made("3 2 1", "3-2/1 1-2/1"), made("1 2 3", "2-1/1 1-2/5"), made("1 2", "2-1/1001"),
	} {
		g := api.Graph{Nodes: guarded(was.Nodes, mark), Edges: guarded(was.Edges, markEdge)}
		for _, wasWay := range [][]int{{}, {1}, {1, 2, 1, 2}, {2, 3}, {3, 2, 1}, {4, 5}} {
			way := guarded(wasWay, mark)
			paths.Cost(g, way)
			checkGuarded(t, way, wasWay, mark)
		}
		for a := range 5 {
			l, _ := paths.From(g, a)
			for i := range l {
				for j := range l[i].Next {
					l[i].Next[j] = mark
				}
				l[i] = api.Reach{To: mark}
			}
			for b := range 5 {
				paths.Count(g, a, b)
				way, _ := paths.First(g, a, b)
				for i := range way[:cap(way)] {
					way[:cap(way)][i] = mark
				}
			}
		}
		checkGuarded(t, g.Nodes, was.Nodes, mark)
		checkGuarded(t, g.Edges, was.Edges, markEdge)
		if mayBe(was) {
			wantAll(t, g)
		}
	}
}

// Each list of an answer is written to, behind its end too: the others stay.
func TestListsOfFromShareNothing(t *testing.T) {
	for _, g := range []api.Graph{square(), forks(12), full(func(a, b int) int { return 1 }), full(func(a, b int) int { return (b - a + 24) % 24 }), chain(upTo(1, 24), 3)} {
		for _, root := range g.Nodes {
			want, _ := paths.From(g, root)
			for i := range want {
				l, _ := paths.From(g, root)
				room := l[i].Next[:cap(l[i].Next)]
				for j := range room {
					room[j] = mark
				}
				for j := range l {
					if j != i && !equal(l[j], want[j]) {
						t.Errorf("From(%v, %d): the list of %d shares memory with that of %d", g, root, l[i].To, l[j].To)
					}
				}
			}
			again, _ := paths.From(g, root)
			if !slices.EqualFunc(want, again, equal) {
				t.Errorf("From(%v, %d) = %v, then %v", g, root, want, again)
			}
		}
	}
}

func TestAnswersOutliveTheGraph(t *testing.T) {
	g := full(func(a, b int) int { return 1 + (a*b)%7 })
	want := full(func(a, b int) int { return 1 + (a*b)%7 })
	var reaches [][]api.Reach
	var ways [][]int
	for n := 1; n <= 24; n++ {
		l, _ := paths.From(g, n)
		way, _ := paths.First(g, n, 25-n)
		reaches, ways = append(reaches, l), append(ways, way)
	}
	for i := range g.Nodes {
		g.Nodes[i] = mark
	}
	for i := range g.Edges {
		g.Edges[i] = markEdge
	}
	for n := 1; n <= 24; n++ {
		wantFrom(t, want, n, reaches[n-1])
		wantFirst(t, want, n, 25-n, ways[n-1]...)
	}
}

func TestOfSharesNothing(t *testing.T) {
	was := []api.Reach{{To: 1, Cost: 2, Least: 3, Most: 4, Next: []int{5, 6}}, {To: 2, Next: []int{7}}, {To: 3}}
	for i := range was {
		var l []api.Reach
		for _, r := range was {
			r.Next = guarded(r.Next, mark)
			l = append(l, r)
		}
		r, _ := paths.Of(l, was[i].To)
		other, _ := paths.Of(l, was[i].To)
		room := r.Next[:cap(r.Next)]
		for j := range room {
			room[j] = -1
		}
		for j := range l {
			checkGuarded(t, l[j].Next, was[j].Next, mark)
			for k := range l[j].Next {
				l[j].Next[k] = mark
			}
		}
		if !equal(other, was[i]) {
			t.Errorf("Of(%v, %d) shares memory: %v", was, was[i].To, other)
		}
	}
}

// FuzzPaths takes the nodes, three bytes an edge: from, to, cost; and a way.
func FuzzPaths(f *testing.F) {
	f.Add("\x01\x02\x03\x04", "\x01\x02\x01\x01\x03\x01\x01\x04\x02\x02\x04\x01\x03\x04\x01", "\x01\x02\x04")
	f.Add("\x02\x01", "", "\x01")
	f.Add("\x01\x18", "\x01\x18\x01\x18\x01\xfa", "\x01\x18\x01")
	f.Add("\x01\x02", "\x01\x02\x00", "")
	f.Fuzz(func(t *testing.T, nodes, edges, text string) {
		var g api.Graph
		for i := range nodes {
			g.Nodes = append(g.Nodes, int(int8(nodes[i])))
		}
		for ; len(edges) >= 3; edges = edges[3:] {
			g.Edges = append(g.Edges, api.Edge{From: int(int8(edges[0])), To: int(int8(edges[1])), Cost: int(edges[2])})
		}
		var way []int
		for i := range text {
			way = append(way, int(int8(text[i])))
		}
		if !mayBe(g) {
			wantMayNot(t, g)
			wantCost(t, g, way, 0, api.ErrArg)
			return
		}
		want, e := cost(g, way)
		wantCost(t, g, way, want, e)
		wantAll(t, g)
		for _, n := range g.Nodes {
			wantCheapest(t, g, n)
		}
	})
}
