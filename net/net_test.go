package net_test

import (
	"math"
	"slices"
	"strconv"
	"strings"
	"testing"

	"dandelion/api"
	"dandelion/net"
)

const lastTick = 1 << 40

// full is how many messages on their way are too many for one more.
const full = 1<<14 - 1

// ends has numbers of routers at the edges, and of what is none.
var ends = []int{math.MinInt, math.MinInt + 1, 1 - 1<<32, -24, -3, -2, -1, 0, 1, 2, 3, 4, 5, 23, 24, 25, 26, 1<<8 + 1, 1<<16 + 2, 1 << 32, 1<<32 + 1, 1<<32 + 24, math.MaxInt}

// lates has numbers of ticks at the edges.
var lates = []int{math.MinInt, 1 - 1<<32, -65, -64, -2, -1, 0, 1, 2, 63, 64, 65, 66, 128, 1<<8 + 1, 1 << 32, 1<<32 + 1, math.MaxInt}

func link(a, b, cost int) api.Link { return api.Link{A: a, B: b, Cost: cost} }

func rule(from, to, nth, kind, by int) api.Rule {
	return api.Rule{From: from, To: to, Nth: nth, Kind: kind, By: by}
}

func isRouter(n int) bool { return 1 <= n && n <= 24 }

func isOf(k api.Link, a, b int) bool { return k.A == a && k.B == b || k.A == b && k.B == a }

// ofRefuses goes by the words of the chapter of graphs.
func ofRefuses(routers []int, links []api.Link) api.Errno {
	for i, n := range routers {
		if !isRouter(n) || slices.Contains(routers[:i], n) {
			return api.ErrArg
		}
	}
	if len(links) > 48 {
		return api.ErrLong
	}
	for i, k := range links {
		if !slices.Contains(routers, k.A) || !slices.Contains(routers, k.B) || k.A == k.B || k.Cost < 1 || k.Cost > 1000 {
			return api.ErrArg
		}
		if slices.ContainsFunc(links[:i], func(o api.Link) bool { return isOf(o, k.A, k.B) }) {
			return api.ErrBusy
		}
	}
	return api.OK
}

func ruleMayBe(r api.Rule) bool {
	drops := r.Kind == api.RuleDrop && r.By == 0
	others := (r.Kind == api.RuleDouble || r.Kind == api.RuleDelay) && 1 <= r.By && r.By <= 64
	return isRouter(r.From) && isRouter(r.To) && r.From != r.To && 1 <= r.Nth && r.Nth <= 1<<20 && (drops || others)
}

func sameMessage(a, b api.Rule) bool { return a.From == b.From && a.To == b.To && a.Nth == b.Nth }

// checkRefuses goes by the words of the chapter of fates.
func checkRefuses(rules []api.Rule) api.Errno {
	if len(rules) > 64 {
		return api.ErrLong
	}
	for i, r := range rules {
		if !ruleMayBe(r) {
			return api.ErrArg
		}
		if slices.ContainsFunc(rules[:i], func(o api.Rule) bool { return sameMessage(o, r) }) {
			return api.ErrBusy
		}
	}
	return api.OK
}

func newRefuses(routers []int, links []api.Link, rules []api.Rule, late int) api.Errno {
	if e := ofRefuses(routers, links); e != api.OK {
		return e
	}
	if late < 1 || late > 64 {
		return api.ErrArg
	}
	return checkRefuses(rules)
}

// coming is a message on its way.
type coming struct {
	at uint64
	m  api.Arrive
}

// model has all as lists that are looked through whole; messages stand in the order in which they were put on their way.
type model struct {
	routers []int
	links   []api.Link
	rules   []api.Rule
	late    int
	now     uint64
	row     []coming
	asked   []api.Rule
	cuts    []api.Link
	stopped []int
}

func modelOf(routers []int, links []api.Link, rules []api.Rule, late int) *model {
	return &model{routers: slices.Clone(routers), links: slices.Clone(links), rules: slices.Clone(rules), late: late}
}

func (m *model) linked(a, b int) bool {
	return slices.ContainsFunc(m.links, func(k api.Link) bool { return isOf(k, a, b) })
}

func (m *model) isCut(a, b int) bool {
	return slices.ContainsFunc(m.cuts, func(k api.Link) bool { return isOf(k, a, b) })
}

func (m *model) up(a, b int) bool {
	return m.linked(a, b) && !m.isCut(a, b) && !slices.Contains(m.stopped, a) && !slices.Contains(m.stopped, b)
}

func (m *model) fate(from, to int) api.Fate {
	this := rule(from, to, 1, 0, 0)
	for _, r := range m.asked {
		if r.From == from && r.To == to {
			this.Nth++
		}
	}
	m.asked = append(m.asked, this)
	for _, r := range m.rules {
		if sameMessage(r, this) {
			return map[int]api.Fate{api.RuleDrop: {}, api.RuleDouble: {Copies: 2, Second: r.By}, api.RuleDelay: {Copies: 1, Late: r.By}}[r.Kind]
		}
	}
	return api.Fate{Copies: 1}
}

func (m *model) send(from, to int, bytes string) (api.Fate, api.Errno) {
	switch {
	case !m.linked(from, to):
		return api.Fate{}, api.ErrArg
	case len(bytes) > 512:
		return api.Fate{}, api.ErrLong
	case !m.up(from, to):
		return api.Fate{}, api.ErrDown
	case len(m.row) > 16382:
		return api.Fate{}, api.ErrFull
	}
	f := m.fate(from, to)
	for i := range f.Copies {
		more := f.Late
		if i == 1 {
			more = f.Second
		}
		m.row = append(m.row, coming{m.now + uint64(m.late) + uint64(more), api.Arrive{From: from, To: to, Bytes: bytes}})
	}
	return f, api.OK
}

// takeOut takes out of the row what is asked for, and tells it by ticks.
func (m *model) takeOut(which func(c coming) bool) []api.Arrive {
	var out, stay []coming
	for _, c := range m.row {
		if which(c) {
			out = append(out, c)
		} else {
			stay = append(stay, c)
		}
	}
	m.row = stay
	slices.SortStableFunc(out, func(a, b coming) int { return int(int64(a.at) - int64(b.at)) })
	var l []api.Arrive
	for _, c := range out {
		l = append(l, c.m)
	}
	return l
}

func (m *model) tick() []api.Arrive {
	if m.now == lastTick {
		return nil
	}
	m.now++
	return m.takeOut(func(c coming) bool { return c.at == m.now })
}

func (m *model) cut(a, b int) ([]api.Arrive, api.Errno) {
	if !m.linked(a, b) {
		return nil, api.ErrArg
	}
	if m.isCut(a, b) {
		return nil, api.ErrBusy
	}
	m.cuts = append(m.cuts, link(a, b, 0))
	return m.takeOut(func(c coming) bool { return isOf(link(a, b, 0), c.m.From, c.m.To) }), api.OK
}

func (m *model) mend(a, b int) api.Errno {
	if !m.linked(a, b) {
		return api.ErrArg
	}
	if !m.isCut(a, b) {
		return api.ErrNone
	}
	m.cuts = slices.DeleteFunc(m.cuts, func(k api.Link) bool { return isOf(k, a, b) })
	return api.OK
}

func (m *model) stop(n int) ([]api.Arrive, api.Errno) {
	if !slices.Contains(m.routers, n) {
		return nil, api.ErrArg
	}
	if slices.Contains(m.stopped, n) {
		return nil, api.ErrBusy
	}
	m.stopped = append(m.stopped, n)
	return m.takeOut(func(c coming) bool { return c.m.From == n || c.m.To == n }), api.OK
}

func (m *model) start(n int) api.Errno {
	if !slices.Contains(m.routers, n) {
		return api.ErrArg
	}
	if !slices.Contains(m.stopped, n) {
		return api.ErrNone
	}
	m.stopped = slices.DeleteFunc(m.stopped, func(s int) bool { return s == n })
	return api.OK
}

func (m *model) near(n int) ([]api.Adj, api.Errno) {
	if !slices.Contains(m.routers, n) {
		return nil, api.ErrArg
	}
	var l []api.Adj
	for other := 1; other <= 24; other++ {
		for _, k := range m.links {
			if isOf(k, n, other) && m.up(n, other) {
				l = append(l, api.Adj{To: other, Cost: k.Cost})
			}
		}
	}
	return l, api.OK
}

func (m *model) graph() api.Graph {
	var g api.Graph
	for n := 1; n <= 24; n++ {
		if slices.Contains(m.routers, n) && !slices.Contains(m.stopped, n) {
			g.Nodes = append(g.Nodes, n)
			near, _ := m.near(n)
			for _, a := range near {
				g.Edges = append(g.Edges, api.Edge{From: n, To: a.To, Cost: a.Cost})
			}
		}
	}
	return g
}

// both does all to a net and to its model, and holds what they answer against each other.
type both struct {
	net   *net.Net
	model *model
}

func fresh(t *testing.T, routers []int, links []api.Link, rules []api.Rule, late int) both {
	t.Helper()
	n, e := net.New(routers, links, rules, late)
	if e != api.OK || n == nil {
		t.Fatalf("New(%v, %v, %v, %d): %v, %v", routers, links, rules, late, n, e)
	}
	return both{n, modelOf(routers, links, rules, late)}
}

func (b both) send(t *testing.T, from, to int, bytes string) (api.Fate, api.Errno) {
	t.Helper()
	want, wantE := b.model.send(from, to, bytes)
	wantSend(t, b.net, from, to, bytes, want, wantE)
	return want, wantE
}

func (b both) tick(t *testing.T) []api.Arrive {
	t.Helper()
	want := b.model.tick()
	wantTick(t, b.net, want...)
	if n := b.net.Now(); n != b.model.now {
		t.Errorf("Now() = %d, not %d", n, b.model.now)
	}
	return want
}

func (b both) cut(t *testing.T, x, y int) []api.Arrive {
	t.Helper()
	want, wantE := b.model.cut(x, y)
	wantCut(t, b.net, x, y, wantE, want...)
	return want
}

func (b both) mend(t *testing.T, x, y int) {
	t.Helper()
	wantMend(t, b.net, x, y, b.model.mend(x, y))
}

func (b both) stop(t *testing.T, n int) []api.Arrive {
	t.Helper()
	want, wantE := b.model.stop(n)
	wantStop(t, b.net, n, wantE, want...)
	return want
}

func (b both) start(t *testing.T, n int) {
	t.Helper()
	wantStart(t, b.net, n, b.model.start(n))
}

func (b both) hasten(now uint64) {
	b.net.Hasten(now)
	b.model.now = now
}

func (b both) near(t *testing.T, n int) {
	t.Helper()
	want, wantE := b.model.near(n)
	wantNear(t, b.net, n, wantE, want...)
}

func (b both) up(t *testing.T, x, y int) {
	t.Helper()
	wantUp(t, b.net, x, y, b.model.up(x, y))
}

// look asks for what can be asked for without a change.
func (b both) look(t *testing.T) {
	t.Helper()
	if n := b.net.Now(); n != b.model.now {
		t.Errorf("Now() = %d, not %d", n, b.model.now)
	}
	wantFlying(t, b.net, len(b.model.row))
	wantGraph(t, b.net, b.model.graph())
	for _, n := range b.model.routers {
		b.near(t, n)
		for _, k := range b.model.routers {
			b.up(t, n, k)
		}
	}
}

// drain lets all come that is on its way: nothing is further off than twice 64 ticks.
func (b both) drain(t *testing.T) {
	t.Helper()
	b.look(t)
	for range 130 {
		b.tick(t)
	}
	wantFlying(t, b.net, 0)
	b.look(t)
}

func wantSend(t *testing.T, n *net.Net, from, to int, bytes string, want api.Fate, wantE api.Errno) {
	t.Helper()
	if f, e := n.Send(from, to, bytes); f != want || e != wantE {
		t.Errorf("Send(%d, %d, %d bytes) = %v, %v, not %v, %v", from, to, len(bytes), f, e, want, wantE)
	}
}

func wantTick(t *testing.T, n *net.Net, want ...api.Arrive) {
	t.Helper()
	if l := n.Tick(); !slices.Equal(l, want) {
		t.Errorf("Tick() = %v, not %v", l, want)
	}
}

func wantCut(t *testing.T, n *net.Net, a, b int, wantE api.Errno, want ...api.Arrive) {
	t.Helper()
	if l, e := n.Cut(a, b); !slices.Equal(l, want) || e != wantE {
		t.Errorf("Cut(%d, %d) = %v, %v, not %v, %v", a, b, l, e, want, wantE)
	}
}

func wantMend(t *testing.T, n *net.Net, a, b int, want api.Errno) {
	t.Helper()
	if e := n.Mend(a, b); e != want {
		t.Errorf("Mend(%d, %d) = %v, not %v", a, b, e, want)
	}
}

func wantStop(t *testing.T, n *net.Net, router int, wantE api.Errno, want ...api.Arrive) {
	t.Helper()
	if l, e := n.Stop(router); !slices.Equal(l, want) || e != wantE {
		t.Errorf("Stop(%d) = %v, %v, not %v, %v", router, l, e, want, wantE)
	}
}

func wantStart(t *testing.T, n *net.Net, router int, want api.Errno) {
	t.Helper()
	if e := n.Start(router); e != want {
		t.Errorf("Start(%d) = %v, not %v", router, e, want)
	}
}

func wantNear(t *testing.T, n *net.Net, router int, wantE api.Errno, want ...api.Adj) {
	t.Helper()
	if l, e := n.Near(router); !slices.Equal(l, want) || e != wantE {
		t.Errorf("Near(%d) = %v, %v, not %v, %v", router, l, e, want, wantE)
	}
}

func wantUp(t *testing.T, n *net.Net, a, b int, want bool) {
	t.Helper()
	if up := n.Up(a, b); up != want {
		t.Errorf("Up(%d, %d) = %v, not %v", a, b, up, want)
	}
}

func wantGraph(t *testing.T, n *net.Net, want api.Graph) {
	t.Helper()
	if g, e := n.Graph(); !slices.Equal(g.Nodes, want.Nodes) || !slices.Equal(g.Edges, want.Edges) || e != api.OK {
		t.Errorf("Graph() = %v, %v, not %v", g, e, want)
	}
}

func wantFlying(t *testing.T, n *net.Net, want int) {
	t.Helper()
	if f := n.Flying(); f != want {
		t.Errorf("Flying() = %d, not %d", f, want)
	}
}

func wantNew(t *testing.T, routers []int, links []api.Link, rules []api.Rule, late int, want api.Errno) {
	t.Helper()
	n, e := net.New(routers, links, rules, late)
	if e != want || (n != nil) != (want == api.OK) {
		t.Errorf("New(%v, %v, %v, %d) = %v, %v, not %v", routers, links, rules, late, n, e, want)
	}
	if n == nil {
		return
	}
	both{n, modelOf(routers, links, rules, late)}.look(t)
}

// arrive makes messages of bytes from the one to the other.
func arrive(from, to int, bytes ...string) []api.Arrive {
	var l []api.Arrive
	for _, s := range bytes {
		l = append(l, api.Arrive{From: from, To: to, Bytes: s})
	}
	return l
}

// dice is a row of numbers that is the same each time.
type dice uint64

func (d *dice) below(n int) int {
	*d = *d*6364136223846793005 + 1442695040888963407
	return int(uint64(*d) >> 33 % uint64(n))
}

func shuffled[T any](d *dice, l []T) []T {
	out := slices.Clone(l)
	for i := range out {
		j := i + d.below(len(out)-i)
		out[i], out[j] = out[j], out[i]
	}
	return out
}

// eachWord does with each row of so many letters, which are numbers from 0 on.
func eachWord(length, letters int, do func(word []int)) {
	word := make([]int, length)
	for {
		do(word)
		i := length - 1
		for i >= 0 && word[i] == letters-1 {
			word[i] = 0
			i--
		}
		if i < 0 {
			return
		}
		word[i]++
	}
}

func three() ([]int, []api.Link) { return []int{1, 2, 3}, []api.Link{link(1, 2, 5), link(2, 3, 1)} }

func threeNet(t *testing.T, late int, rules ...api.Rule) both {
	t.Helper()
	routers, links := three()
	return fresh(t, routers, links, rules, late)
}

// five has a router without links, and links that are told either way round.
func five() ([]int, []api.Link) {
	return []int{24, 7, 1, 9, 2}, []api.Link{link(1, 2, 1000), link(24, 1, 3), link(2, 24, 1), link(7, 1, 8)}
}

// allRouters has each one, in no order.
func allRouters() []int {
	d := dice(24)
	l := make([]int, 24)
	for i := range l {
		l[i] = i + 1
	}
	return shuffled(&d, l)
}

// allLinks has as many links as may be, of unlike pairs.
func allLinks() []api.Link {
	d := dice(48)
	var l []api.Link
	for a := 1; a <= 24; a++ {
		for b := a + 1; b <= 24; b++ {
			l = append(l, link(a, b, 1+d.below(1000)))
		}
	}
	l = shuffled(&d, l)[:48]
	for i := range l {
		if d.below(2) == 0 {
			l[i].A, l[i].B = l[i].B, l[i].A
		}
	}
	return l
}

func TestAsTheExamplesTell(t *testing.T) {
	routers, links := three()
	one, drop := api.Fate{Copies: 1}, api.Fate{}
	n := threeNet(t, 2).net
	wantSend(t, n, 1, 2, "a", one, api.OK)
	wantSend(t, n, 1, 3, "a", drop, api.ErrArg)
	wantTick(t, n)
	wantTick(t, n, arrive(1, 2, "a")...)
	wantSend(t, n, 2, 3, "b", one, api.OK)
	wantCut(t, n, 3, 2, api.OK, arrive(2, 3, "b")...)
	wantCut(t, n, 2, 3, api.ErrBusy)
	wantSend(t, n, 2, 3, "c", drop, api.ErrDown)
	wantNear(t, n, 2, api.OK, api.Adj{To: 1, Cost: 5})
	wantUp(t, n, 2, 3, false)
	wantMend(t, n, 2, 3, api.OK)
	wantMend(t, n, 2, 3, api.ErrNone)
	wantStop(t, n, 2, api.OK)
	wantNear(t, n, 1, api.OK)
	wantStart(t, n, 2, api.OK)
	wantNear(t, n, 1, api.OK, api.Adj{To: 2, Cost: 5})
	n = threeNet(t, 2, rule(1, 2, 1, api.RuleDouble, 3)).net
	wantSend(t, n, 1, 2, "a", api.Fate{Copies: 2, Second: 3}, api.OK)
	wantTick(t, n)
	wantTick(t, n, arrive(1, 2, "a")...)
	wantTick(t, n)
	wantTick(t, n)
	wantTick(t, n, arrive(1, 2, "a")...)
	wantNew(t, routers[:2], links[:1], nil, 0, api.ErrArg)
	wantNew(t, []int{1, 1}, links, nil, 2, api.ErrArg)
}

// P18.1

func TestRoutersOfANet(t *testing.T) {
	for _, a := range ends {
		wantNew(t, []int{a}, nil, nil, 1, ofRefuses([]int{a}, nil))
		for _, b := range ends {
			wantNew(t, []int{a, b}, nil, nil, 64, ofRefuses([]int{a, b}, nil))
			wantNew(t, []int{5, a, b, 6}, []api.Link{link(5, 6, 1)}, nil, 64, ofRefuses([]int{5, a, b, 6}, nil))
		}
	}
	wantNew(t, nil, nil, nil, 1, api.OK)
	wantNew(t, []int{}, []api.Link{}, []api.Rule{}, 1, api.OK)
	wantNew(t, allRouters(), nil, nil, 1, api.OK)
	wantNew(t, append(allRouters(), 1), nil, nil, 1, api.ErrArg)
	wantNew(t, append(allRouters(), 25), nil, nil, 1, api.ErrArg)
	wantNew(t, make([]int, 1<<16), nil, nil, 1, api.ErrArg)
}

func TestLinksOfANet(t *testing.T) {
	routers := []int{1, 2, 3, 24}
	for _, a := range ends {
		for _, b := range ends {
			for _, cost := range []int{math.MinInt, -1, 0, 1, 2, 999, 1000, 1001, 1<<32 + 1, math.MaxInt} {
				l := []api.Link{link(a, b, cost)}
				wantNew(t, routers, l, nil, 1, ofRefuses(routers, l))
				l = []api.Link{link(1, 2, 1), link(a, b, cost), link(2, 1, 1)}
				wantNew(t, routers, l, nil, 1, ofRefuses(routers, l))
			}
		}
	}
	wantNew(t, allRouters(), allLinks(), nil, 1, api.OK)
	for i := range 48 {
		l := allLinks()
		l[i].Cost = 0
		wantNew(t, allRouters(), l, nil, 1, api.ErrArg)
		wantNew(t, allRouters(), append(allLinks()[:47], allLinks()[i]), nil, 1, busyBut(i == 47))
		wantNew(t, allRouters(), append(allLinks(), allLinks()[i]), nil, 1, api.ErrLong)
	}
	wantNew(t, allRouters(), make([]api.Link, 48), nil, 1, api.ErrArg)
	wantNew(t, allRouters(), make([]api.Link, 49), nil, 1, api.ErrLong)
	wantNew(t, nil, make([]api.Link, 49), nil, 1, api.ErrLong)
	wantNew(t, nil, make([]api.Link, 1<<16), nil, 1, api.ErrLong)
}

func busyBut(not bool) api.Errno {
	if not {
		return api.OK
	}
	return api.ErrBusy
}

func TestLateOfANet(t *testing.T) {
	routers, links := three()
	for _, late := range lates {
		wantNew(t, routers, links, nil, late, newRefuses(routers, links, nil, late))
		wantNew(t, nil, nil, nil, late, newRefuses(nil, nil, nil, late))
	}
	for late := -200; late <= 200; late++ {
		wantNew(t, routers, links, nil, late, newRefuses(routers, links, nil, late))
	}
}

// manyRules has so many that may be, of unlike messages.
func manyRules(many int) []api.Rule {
	d := dice(uint64(many))
	var l []api.Rule
	for i := range many {
		l = append(l, rule(1+i%2, 2-i%2, 1+i/2, api.RuleDelay, 1+d.below(64)))
	}
	return l
}

func TestRulesOfANet(t *testing.T) {
	routers, links := three()
	for _, from := range ends {
		for _, to := range ends {
			l := []api.Rule{rule(from, to, 1, api.RuleDrop, 0)}
			wantNew(t, routers, links, l, 1, checkRefuses(l))
			l = append(manyRules(5), rule(from, to, 9, api.RuleDelay, 1))
			wantNew(t, routers, links, l, 1, checkRefuses(l))
		}
	}
	for _, nth := range []int{math.MinInt, -1, 0, 1, 1 << 20, 1<<20 + 1, 1<<32 + 1, math.MaxInt} {
		for _, kind := range []int{math.MinInt, -1, 0, api.RuleDrop, api.RuleDouble, api.RuleDelay, 4, 1<<32 + 1, math.MaxInt} {
			for _, by := range lates {
				l := []api.Rule{rule(1, 2, nth, kind, by)}
				wantNew(t, routers, links, l, 1, checkRefuses(l))
			}
		}
	}
	wantNew(t, routers, links, manyRules(64), 1, api.OK)
	wantNew(t, routers, links, manyRules(65), 1, api.ErrLong)
	wantNew(t, routers, links, make([]api.Rule, 64), 1, api.ErrArg)
	wantNew(t, routers, links, make([]api.Rule, 65), 1, api.ErrLong)
	wantNew(t, routers, links, append(manyRules(9), manyRules(1)...), 1, api.ErrBusy)
}

// Rules may be for routers that are not linked, or none of the net's: no message ever comes to them.
func TestRulesForNobody(t *testing.T) {
	b := threeNet(t, 1, rule(1, 3, 1, api.RuleDrop, 0), rule(20, 21, 1, api.RuleDouble, 1), rule(1, 21, 1, api.RuleDelay, 1))
	b.send(t, 1, 3, "x")
	b.send(t, 20, 21, "x")
	b.send(t, 1, 21, "x")
	b.send(t, 1, 2, "x")
	b.drain(t)
}

// refusedAs is a part of a net, and what a net with it is refused for.
type refusedAs[T any] struct {
	what T
	as   api.Errno
}

func TestSeveralFaultsAtOnce(t *testing.T) {
	routers := []refusedAs[[]int]{{[]int{1, 2, 3}, api.OK}, {[]int{1, 2, 3, 3}, api.ErrArg}, {[]int{0, 1, 2, 3}, api.ErrArg}, {[]int{1, 2, 3, 25}, api.ErrArg}}
	links := []refusedAs[[]api.Link]{{[]api.Link{link(1, 2, 5)}, api.OK}, {make([]api.Link, 49), api.ErrLong}, {[]api.Link{link(1, 2, 0), link(2, 1, 1), link(1, 2, 1)}, api.ErrArg}, {[]api.Link{link(1, 2, 5), link(2, 1, 5), link(1, 1, 1)}, api.ErrBusy}}
	rules := []refusedAs[[]api.Rule]{{manyRules(4), api.OK}, {make([]api.Rule, 65), api.ErrLong}, {[]api.Rule{{}, rule(1, 2, 1, 1, 0), rule(1, 2, 1, 1, 0)}, api.ErrArg}, {[]api.Rule{rule(1, 2, 1, 1, 0), rule(1, 2, 1, 1, 0), {}}, api.ErrBusy}}
	times := []refusedAs[int]{{1, api.OK}, {64, api.OK}, {0, api.ErrArg}, {65, api.ErrArg}, {-1, api.ErrArg}}
	for _, n := range routers {
		for _, k := range links {
			for _, l := range times {
				for _, r := range rules {
					want := api.OK
					for _, as := range []api.Errno{r.as, l.as, k.as, n.as} {
						if as != api.OK {
							want = as
						}
					}
					wantNew(t, n.what, k.what, r.what, l.what, want)
				}
			}
		}
	}
}

func TestMadeUpNets(t *testing.T) {
	d := dice(181)
	for range 4000 {
		var routers []int
		for range d.below(7) {
			routers = append(routers, 1+d.below(24))
		}
		if d.below(20) == 0 {
			routers = append(routers, ends[d.below(len(ends))])
		}
		var links []api.Link
		for range d.below(4) {
			if len(routers) > 0 {
				links = append(links, link(routers[d.below(len(routers))], routers[d.below(len(routers))], d.below(1002)))
			}
		}
		late, rules := d.below(66), manyRules(d.below(67))
		wantNew(t, routers, links, rules, late, newRefuses(routers, links, rules, late))
	}
}

func TestNetsAreApart(t *testing.T) {
	a, b := threeNet(t, 2, manyRules(6)...), threeNet(t, 2, manyRules(6)...)
	for i := range 8 {
		a.send(t, 1, 2, strconv.Itoa(i))
		a.cut(t, 2, 3)
		b.look(t)
		a.tick(t)
		b.look(t)
		a.stop(t, 3)
		b.look(t)
	}
	for i := range 8 {
		b.send(t, 1, 2, strconv.Itoa(i))
	}
	b.drain(t)
	a.drain(t)
}

func TestNowIsHowOftenTheTickCame(t *testing.T) {
	b := threeNet(t, 1)
	for i := range 3000 {
		if n := b.net.Now(); n != uint64(i) {
			t.Fatalf("Now() = %d, not %d", n, i)
		}
		b.tick(t)
	}
}

func TestFlyingTellsEachCopy(t *testing.T) {
	n := threeNet(t, 3, rule(1, 2, 1, api.RuleDrop, 0), rule(1, 2, 2, api.RuleDouble, 2), rule(1, 2, 3, api.RuleDelay, 1)).net
	for i, want := range []int{0, 2, 3, 4, 5} {
		n.Send(1, 2, strconv.Itoa(i))
		wantFlying(t, n, want)
	}
	for _, want := range []int{5, 5, 2, 1, 0, 0} {
		n.Tick()
		wantFlying(t, n, want)
	}
}

// P18.2

func TestSendBetweenAll(t *testing.T) {
	for _, b := range []both{fresh(t, nil, nil, nil, 1), threeNet(t, 1), fiveNet(t, 1), fresh(t, allRouters(), allLinks(), nil, 1)} {
		for _, from := range ends {
			for _, to := range ends {
				b.send(t, from, to, "m")
			}
		}
		for from := range 27 {
			for to := range 27 {
				b.send(t, from, to, strconv.Itoa(from)+"-"+strconv.Itoa(to))
			}
		}
		b.drain(t)
	}
}

func fiveNet(t *testing.T, late int, rules ...api.Rule) both {
	t.Helper()
	routers, links := five()
	return fresh(t, routers, links, rules, late)
}

func TestBytesOfAMessage(t *testing.T) {
	b := threeNet(t, 1)
	for _, s := range []string{"", "\x00", "\xff", "\x80\xfe", "two\nlines", "\u00e4\u4e2d", strings.Repeat("\xff", 512), strings.Repeat("\u4e2d", 170)} {
		b.send(t, 1, 2, s)
		b.send(t, 3, 2, s)
	}
	b.tick(t)
	for size := range 600 {
		b.send(t, 2, 1, strings.Repeat("x", size))
	}
	b.tick(t)
	for _, size := range []int{511, 512, 513, 1 << 10, 1 << 16, 1<<16 + 3, 1 << 20} {
		b.send(t, 2, 1, strings.Repeat("\x00", size))
		// These are few letters, but many bytes.
		b.send(t, 2, 3, strings.Repeat("\u4e2d", size/3))
	}
	b.drain(t)
}

// Of several errors the first one is told: no link, too long, down, full.
func TestOrderOfTheErrorsOfSend(t *testing.T) {
	long := strings.Repeat("x", 513)
	for word := range 16 {
		n := threeNet(t, 64).net
		from, to, bytes := 1, 2, "m"
		want := api.OK
		if word&1 > 0 {
			for i := range full {
				wantSend(t, n, 2, 3, strconv.Itoa(i), api.Fate{Copies: 1}, api.OK)
			}
			want = api.ErrFull
		}
		if word&2 > 0 {
			n.Cut(1, 2)
			want = api.ErrDown
		}
		if word&4 > 0 {
			bytes, want = long, api.ErrLong
		}
		if word&8 > 0 {
			to, want = 3, api.ErrArg
		}
		for range 2 {
			_, e := n.Send(from, to, bytes)
			if e != want {
				t.Errorf("Send %d: %v, not %v", word, e, want)
			}
		}
	}
}

// Down is a link that is cut, or that a router of it is stopped; any of them alone is enough.
func TestSendOnLinksThatAreDown(t *testing.T) {
	for word := range 16 {
		b := threeNet(t, 2)
		if word&1 > 0 {
			b.cut(t, 2, 1)
		}
		for i := range 3 {
			if word&(2<<i) > 0 {
				b.stop(t, i+1)
			}
		}
		for range 3 {
			for from := 1; from <= 3; from++ {
				for to := 1; to <= 3; to++ {
					b.send(t, from, to, "m")
				}
			}
			b.tick(t)
		}
		b.drain(t)
	}
}

// What was refused is no message that the rules count, and changes nothing.
func TestWhatIsRefusedIsNotCounted(t *testing.T) {
	rules := []api.Rule{rule(1, 2, 1, api.RuleDouble, 3), rule(1, 2, 2, api.RuleDrop, 0), rule(2, 1, 1, api.RuleDelay, 2)}
	b := threeNet(t, 1, rules...)
	refuse := func() {
		for range 3 {
			b.send(t, 1, 3, "m")
			b.send(t, 1, 1, "m")
			b.send(t, 1, 2, strings.Repeat("x", 513))
			b.send(t, 2, 1, strings.Repeat("x", 513))
		}
		b.cut(t, 1, 2)
		b.send(t, 1, 2, "m")
		b.send(t, 2, 1, "m")
		b.mend(t, 1, 2)
		b.stop(t, 1)
		b.send(t, 1, 2, "m")
		b.send(t, 2, 1, "m")
		b.start(t, 1)
		b.stop(t, 2)
		b.send(t, 1, 2, "m")
		b.send(t, 2, 1, "m")
		b.start(t, 2)
	}
	refuse()
	b.send(t, 1, 2, "a")
	b.tick(t)
	b.tick(t)
	b.tick(t)
	b.tick(t)
	refuse()
	b.send(t, 1, 2, "b")
	b.send(t, 1, 2, "c")
	b.send(t, 2, 1, "d")
	b.drain(t)
	if f := b.model.asked; len(f) != 4 {
		t.Errorf("%v", f)
	}
}

func TestSendWhileManyAreOnTheirWay(t *testing.T) {
	n := threeNet(t, 2, rule(1, 2, 1, api.RuleDrop, 0), rule(1, 2, 2, api.RuleDouble, 1), rule(3, 2, 2, api.RuleDouble, 64)).net
	one := api.Fate{Copies: 1}
	for i := range full - 2 {
		wantSend(t, n, 2, 3, strconv.Itoa(i), one, api.OK)
	}
	// One less than may be on their way: one that is dropped is none.
	wantSend(t, n, 1, 2, "a", api.Fate{}, api.OK)
	wantFlying(t, n, 16381)
	wantSend(t, n, 3, 2, "b", one, api.OK)
	wantFlying(t, n, 16382)
	// As many as may be: the one that is doubled has room.
	wantSend(t, n, 1, 2, "c", api.Fate{Copies: 2, Second: 1}, api.OK)
	wantFlying(t, n, 16384)
	for range 3 {
		wantSend(t, n, 3, 2, "d", api.Fate{}, api.ErrFull)
		wantSend(t, n, 2, 1, "", api.Fate{}, api.ErrFull)
	}
	wantFlying(t, n, 16384)
	n.Tick()
	wantSend(t, n, 3, 2, "d", api.Fate{}, api.ErrFull)
	if l := n.Tick(); len(l) != 16383 || l[16382] != arrive(1, 2, "c")[0] || l[16381] != arrive(3, 2, "b")[0] || l[0] != arrive(2, 3, "0")[0] {
		t.Errorf("%d came", len(l))
	}
	wantSend(t, n, 3, 2, "d", api.Fate{Copies: 2, Second: 64}, api.OK)
	wantFlying(t, n, 3)
	wantTick(t, n, arrive(1, 2, "c")...)
}

func TestOneMoreThanMayBeOnTheirWay(t *testing.T) {
	b := threeNet(t, 5, rule(1, 2, 3, api.RuleDouble, 1), rule(1, 2, 4, api.RuleDrop, 0))
	one := api.Fate{Copies: 1}
	for range full {
		wantSend(t, b.net, 2, 3, "", one, api.OK)
	}
	wantFlying(t, b.net, full)
	wantSend(t, b.net, 1, 2, "", api.Fate{}, api.ErrFull)
	wantCut(t, b.net, 2, 3, api.OK, slices.Repeat(arrive(2, 3, ""), full)...)
	wantFlying(t, b.net, 0)
	// The rules did not count the one that was refused.
	wantSend(t, b.net, 1, 2, "", one, api.OK)
	wantSend(t, b.net, 1, 2, "", one, api.OK)
	wantSend(t, b.net, 1, 2, "", api.Fate{Copies: 2, Second: 1}, api.OK)
	wantSend(t, b.net, 1, 2, "", api.Fate{}, api.OK)
}

func TestWhenMessagesCome(t *testing.T) {
	for _, late := range []int{1, 2, 3, 31, 63, 64} {
		for _, by := range []int{1, 2, 3, 31, 63, 64} {
			for begin := range 3 {
				b := threeNet(t, late, rule(1, 2, 1, api.RuleDouble, by), rule(1, 2, 2, api.RuleDelay, by), rule(1, 2, 4, api.RuleDrop, 0), rule(2, 1, 1, api.RuleDelay, 64))
				for range begin {
					b.tick(t)
				}
				for i := range 5 {
					b.send(t, 1, 2, strconv.Itoa(i))
				}
				b.send(t, 2, 1, "x")
				b.drain(t)
			}
		}
	}
}

func TestTheTicksOfOneMessage(t *testing.T) {
	for late := 1; late <= 64; late++ {
		for by := 1; by <= 64; by++ {
			n := threeNet(t, late, rule(3, 2, 1, api.RuleDouble, by), rule(2, 3, 1, api.RuleDelay, by)).net
			wantSend(t, n, 3, 2, "a", api.Fate{Copies: 2, Second: by}, api.OK)
			wantSend(t, n, 2, 3, "b", api.Fate{Copies: 1, Late: by}, api.OK)
			wantSend(t, n, 1, 2, "c", api.Fate{Copies: 1}, api.OK)
			for now := 1; now <= 130; now++ {
				var want []api.Arrive
				if now == late {
					want = append(arrive(3, 2, "a"), arrive(1, 2, "c")...)
				}
				if now == late+by {
					want = append(arrive(3, 2, "a"), arrive(2, 3, "b")...)
				}
				wantTick(t, n, want...)
			}
		}
	}
}

// The second copy is put on its way behind the first one, and ahead of all that is sent afterwards.
func TestOrderOfTheSecondCopy(t *testing.T) {
	b := threeNet(t, 3, rule(1, 2, 2, api.RuleDouble, 1), rule(2, 1, 1, api.RuleDelay, 1))
	b.send(t, 1, 2, "a")
	b.send(t, 1, 2, "b")
	b.send(t, 2, 1, "c")
	b.tick(t)
	b.send(t, 3, 2, "d")
	b.send(t, 1, 2, "e")
	b.tick(t)
	b.tick(t)
	if l := b.tick(t); !slices.Equal(l, slices.Concat(arrive(1, 2, "b"), arrive(2, 1, "c"), arrive(3, 2, "d"), arrive(1, 2, "e"))) {
		t.Errorf("%v", l)
	}
	b.drain(t)
}

// P18.3

func TestTickOfAnEmptyNet(t *testing.T) {
	b := fresh(t, nil, nil, nil, 1)
	for range 100 {
		if l := b.tick(t); len(l) != 0 {
			t.Errorf("%v", l)
		}
		b.look(t)
	}
}

func TestWhatComesIsOnItsWayNoMore(t *testing.T) {
	b := threeNet(t, 2)
	for i := range 40 {
		b.send(t, 1, 2, strconv.Itoa(i))
		b.send(t, 3, 2, strconv.Itoa(i))
		b.tick(t)
		b.look(t)
	}
	b.drain(t)
}

func TestTheLastTick(t *testing.T) {
	for late := 1; late <= 5; late++ {
		for before := range 8 {
			b := threeNet(t, late, rule(1, 2, 1, api.RuleDouble, 2), rule(2, 3, 2, api.RuleDelay, 3))
			b.hasten(lastTick - uint64(before))
			for i := range 12 {
				b.send(t, 1, 2, strconv.Itoa(i))
				b.send(t, 2, 3, strconv.Itoa(i))
				b.tick(t)
				b.look(t)
			}
			if n := b.net.Now(); n != lastTick {
				t.Errorf("Now() = %d", n)
			}
			// What is on its way yet comes no more, but is lost as all else.
			b.cut(t, 2, 1)
			b.stop(t, 3)
			wantFlying(t, b.net, 0)
			b.tick(t)
			b.look(t)
		}
	}
}

func TestTicksThatAreGreat(t *testing.T) {
	for _, now := range []uint64{1<<16 - 3, 1<<31 - 3, 1<<32 - 3, 1 << 39} {
		b := threeNet(t, 2, rule(1, 2, 2, api.RuleDouble, 3), rule(1, 2, 3, api.RuleDelay, 1))
		b.hasten(now)
		for i := range 6 {
			b.send(t, 1, 2, strconv.Itoa(i))
			b.tick(t)
			b.look(t)
		}
		b.drain(t)
	}
}

// P18.4

// loaded has messages on all links of a net, each way round, of which many come late and twice.
func loaded(t *testing.T, b both) {
	t.Helper()
	for i := range 6 {
		for _, k := range b.model.links {
			b.send(t, k.A, k.B, "there"+strconv.Itoa(i))
			b.send(t, k.B, k.A, "back"+strconv.Itoa(i))
		}
		b.tick(t)
	}
}

// oddRules make messages overtake each other on each link.
func oddRules(links []api.Link) []api.Rule {
	var l []api.Rule
	for _, k := range links {
		l = append(l, rule(k.A, k.B, 1, api.RuleDelay, 9), rule(k.A, k.B, 3, api.RuleDouble, 4), rule(k.B, k.A, 2, api.RuleDelay, 5), rule(k.B, k.A, 4, api.RuleDrop, 0), rule(k.B, k.A, 5, api.RuleDouble, 1))
	}
	return l
}

func loadedFive(t *testing.T) both {
	t.Helper()
	routers, links := five()
	b := fresh(t, routers, links, oddRules(links), 7)
	loaded(t, b)
	return b
}

func TestCutLosesWhatIsOnTheLink(t *testing.T) {
	_, links := five()
	for _, k := range links {
		for _, ab := range [][2]int{{k.A, k.B}, {k.B, k.A}} {
			b := loadedFive(t)
			before := len(b.model.row)
			lost := b.cut(t, ab[0], ab[1])
			if len(lost) < 11 || len(lost) == before {
				t.Errorf("%v lost", lost)
			}
			wantFlying(t, b.net, before-len(lost))
			b.cut(t, ab[0], ab[1])
			b.cut(t, ab[1], ab[0])
			b.drain(t)
		}
	}
}

func TestStopLosesWhatIsOnTheLinksOfTheRouter(t *testing.T) {
	routers, _ := five()
	for _, n := range routers {
		b := loadedFive(t)
		lost := b.stop(t, n)
		if (len(lost) == 0) != (n == 9) {
			t.Errorf("%v lost", lost)
		}
		b.stop(t, n)
		b.drain(t)
	}
}

// What goes down after something else loses what was left.
func TestCutAndStopOneAfterTheOther(t *testing.T) {
	_, links := five()
	routers, _ := five()
	for _, k := range links {
		for _, n := range routers {
			b := loadedFive(t)
			b.cut(t, k.A, k.B)
			b.look(t)
			b.stop(t, n)
			b.look(t)
			b.tick(t)
			b.mend(t, k.B, k.A)
			b.send(t, k.A, k.B, "after")
			b.look(t)
			b.start(t, n)
			b.drain(t)
			b = loadedFive(t)
			b.stop(t, n)
			b.cut(t, k.B, k.A)
			b.look(t)
			b.start(t, n)
			b.look(t)
			b.mend(t, k.A, k.B)
			b.send(t, k.A, k.B, "after")
			b.drain(t)
		}
	}
}

func TestWhatWasLostStaysLost(t *testing.T) {
	b := threeNet(t, 3, rule(1, 2, 1, api.RuleDouble, 5))
	b.send(t, 1, 2, "a")
	if l := b.cut(t, 1, 2); !slices.Equal(l, arrive(1, 2, "a", "a")) {
		t.Errorf("%v", l)
	}
	b.mend(t, 1, 2)
	b.send(t, 1, 2, "b")
	if l := b.stop(t, 1); !slices.Equal(l, arrive(1, 2, "b")) {
		t.Errorf("%v", l)
	}
	b.start(t, 1)
	if l := b.stop(t, 2); len(l) != 0 {
		t.Errorf("%v", l)
	}
	b.drain(t)
}

func TestLostInTheOrderInWhichTheyWouldHaveCome(t *testing.T) {
	send := func() both {
		b := threeNet(t, 2, rule(1, 2, 1, api.RuleDelay, 4), rule(2, 1, 1, api.RuleDelay, 1), rule(2, 3, 1, api.RuleDouble, 4))
		b.send(t, 1, 2, "a") // 6
		b.send(t, 2, 3, "b") // 2, 6
		b.send(t, 2, 1, "c") // 3
		b.send(t, 1, 2, "d") // 2
		b.tick(t)
		b.send(t, 2, 1, "e") // 3
		b.send(t, 3, 2, "f") // 3
		return b
	}
	if l := send().cut(t, 1, 2); !slices.Equal(l, slices.Concat(arrive(1, 2, "d"), arrive(2, 1, "c", "e"), arrive(1, 2, "a"))) {
		t.Errorf("%v", l)
	}
	if l := send().cut(t, 3, 2); !slices.Equal(l, slices.Concat(arrive(2, 3, "b"), arrive(3, 2, "f"), arrive(2, 3, "b"))) {
		t.Errorf("%v", l)
	}
	if l := send().stop(t, 2); !slices.Equal(l, slices.Concat(arrive(2, 3, "b"), arrive(1, 2, "d"), arrive(2, 1, "c", "e"), arrive(3, 2, "f"), arrive(1, 2, "a"), arrive(2, 3, "b"))) {
		t.Errorf("%v", l)
	}
}

func TestLinksAndRoutersThatAreNone(t *testing.T) {
	for _, b := range []both{loadedFive(t), threeNet(t, 2), fresh(t, nil, nil, nil, 1)} {
		for range 2 {
			for _, x := range ends {
				for _, y := range ends {
					if !b.model.linked(x, y) {
						wantCut(t, b.net, x, y, api.ErrArg)
						wantMend(t, b.net, x, y, api.ErrArg)
						wantUp(t, b.net, x, y, false)
					}
				}
				if !slices.Contains(b.model.routers, x) {
					wantStop(t, b.net, x, api.ErrArg)
					wantStart(t, b.net, x, api.ErrArg)
					wantNear(t, b.net, x, api.ErrArg)
				}
			}
			b.look(t)
			b.tick(t)
		}
		b.drain(t)
	}
}

func TestTwiceIsRefused(t *testing.T) {
	b := loadedFive(t)
	for range 3 {
		for _, k := range b.model.links {
			wantMend(t, b.net, k.A, k.B, api.ErrNone)
			wantMend(t, b.net, k.B, k.A, api.ErrNone)
		}
		for _, n := range b.model.routers {
			wantStart(t, b.net, n, api.ErrNone)
		}
	}
	b.look(t)
	for _, k := range b.model.links {
		b.cut(t, k.A, k.B)
		wantCut(t, b.net, k.A, k.B, api.ErrBusy)
		wantCut(t, b.net, k.B, k.A, api.ErrBusy)
		b.look(t)
	}
	for _, n := range b.model.routers {
		b.stop(t, n)
		wantStop(t, b.net, n, api.ErrBusy)
		b.look(t)
	}
	for _, k := range b.model.links {
		b.mend(t, k.B, k.A)
		wantMend(t, b.net, k.A, k.B, api.ErrNone)
		wantMend(t, b.net, k.B, k.A, api.ErrNone)
		b.look(t)
	}
	for _, n := range b.model.routers {
		b.start(t, n)
		wantStart(t, b.net, n, api.ErrNone)
		b.look(t)
	}
	b.drain(t)
}

// P18.5

// Whatever is cut and stopped, in whatever order: of four routers and five links each way to be.
func TestAllThatCanBeDown(t *testing.T) {
	routers := []int{4, 2, 1, 3, 5}
	links := []api.Link{link(2, 1, 7), link(1, 3, 9), link(4, 1, 1), link(3, 4, 2), link(2, 4, 1000)}
	d := dice(185)
	for word := range 1 << 9 {
		b := fresh(t, routers, links, nil, 1)
		for _, i := range shuffled(&d, []int{0, 1, 2, 3, 4, 5, 6, 7, 8}) {
			if word>>i&1 == 0 {
				continue
			}
			if i < 5 {
				b.cut(t, links[i].B, links[i].A)
			} else {
				b.stop(t, i-4)
			}
		}
		b.look(t)
		for _, k := range links {
			b.send(t, k.A, k.B, "m")
			b.send(t, k.B, k.A, "m")
		}
		b.tick(t)
	}
}

func TestUpAndNearOfAll(t *testing.T) {
	for _, b := range []both{fresh(t, nil, nil, nil, 1), threeNet(t, 1), fiveNet(t, 1), fresh(t, allRouters(), allLinks(), nil, 1)} {
		d := dice(186)
		for range 40 {
			b.look(t)
			for _, x := range ends {
				b.near(t, x)
				for _, y := range ends {
					b.up(t, x, y)
				}
			}
			if k := b.model.links; len(k) > 0 {
				one := k[d.below(len(k))]
				b.cut(t, one.B, one.A)
			}
			if n := b.model.routers; len(n) > 0 && d.below(4) == 0 {
				b.stop(t, n[d.below(len(n))])
			}
		}
	}
}

func TestToLookChangesNothing(t *testing.T) {
	b := loadedFive(t)
	for range 10 {
		for range 3 {
			b.look(t)
		}
		b.tick(t)
	}
	b.drain(t)
}

// P18.6

// letters are what can be done to a net of three routers.
func letters() []func(t *testing.T, b both, m string) {
	return []func(t *testing.T, b both, m string){
		func(t *testing.T, b both, m string) { b.tick(t) },
		func(t *testing.T, b both, m string) { b.send(t, 1, 2, m) },
		func(t *testing.T, b both, m string) { b.send(t, 2, 1, m) },
		func(t *testing.T, b both, m string) { b.send(t, 2, 3, m) },
		func(t *testing.T, b both, m string) { b.cut(t, 1, 2) },
		func(t *testing.T, b both, m string) { b.mend(t, 2, 1) },
		func(t *testing.T, b both, m string) { b.cut(t, 3, 2) },
		func(t *testing.T, b both, m string) { b.stop(t, 1) },
		func(t *testing.T, b both, m string) { b.start(t, 1) },
		func(t *testing.T, b both, m string) { b.stop(t, 2) },
		func(t *testing.T, b both, m string) { b.start(t, 2) },
	}
}

func TestAllShortRowsOfCalls(t *testing.T) {
	do := letters()
	for length := range 5 {
		eachWord(length, len(do), func(word []int) {
			b := threeNet(t, 2, rule(1, 2, 1, api.RuleDouble, 1), rule(1, 2, 3, api.RuleDrop, 0), rule(2, 1, 1, api.RuleDelay, 1))
			for i, w := range word {
				do[w](t, b, strconv.Itoa(i))
			}
			b.look(t)
			for range 4 {
				b.tick(t)
			}
			wantFlying(t, b.net, 0)
		})
	}
}

// madeUp does one thing that d tells.
func madeUp(t *testing.T, d *dice, b both, m string) {
	t.Helper()
	k := b.model.links[d.below(len(b.model.links))]
	if d.below(2) == 0 {
		k.A, k.B = k.B, k.A
	}
	n := b.model.routers[d.below(len(b.model.routers))]
	switch what := d.below(60); {
	case what < 34:
		b.send(t, k.A, k.B, m)
	case what < 36:
		b.send(t, n, k.A, m)
	case what < 37:
		b.send(t, k.A, k.B, strings.Repeat(m, 600/len(m)))
	case what < 46:
		b.tick(t)
	case what < 49:
		b.cut(t, k.A, k.B)
	case what < 53:
		b.mend(t, k.A, k.B)
	case what < 55:
		b.stop(t, n)
	case what < 58:
		b.start(t, n)
	default:
		b.look(t)
	}
}

func madeUpRules(d *dice, links []api.Link) []api.Rule {
	var l []api.Rule
	for range d.below(65) {
		k := links[d.below(len(links))]
		if d.below(2) == 0 {
			k.A, k.B = k.B, k.A
		}
		r := rule(k.A, k.B, 1+d.below(12), 1+d.below(3), 0)
		if r.Kind != api.RuleDrop {
			r.By = 1 + d.below(64)
		}
		if !slices.ContainsFunc(l, func(o api.Rule) bool { return sameMessage(o, r) }) {
			l = append(l, r)
		}
	}
	return l
}

func madeUpNet(t *testing.T, d *dice) both {
	t.Helper()
	routers, links := five()
	switch d.below(3) {
	case 0:
		routers, links = three()
	case 1:
		routers, links = allRouters(), allLinks()
	}
	return fresh(t, shuffled(d, routers), shuffled(d, links), madeUpRules(d, links), 1+d.below(64))
}

func TestLongMadeUpRows(t *testing.T) {
	d := dice(187)
	for range 150 {
		b := madeUpNet(t, &d)
		for i := range 400 {
			madeUp(t, &d, b, strconv.Itoa(i))
		}
		b.drain(t)
	}
}

// Each message is of bytes of its own; how often it came, and how often it was lost, makes up its fate.
func TestEachMessageComesOrIsLostOnce(t *testing.T) {
	d := dice(188)
	for range 100 {
		b := madeUpNet(t, &d)
		left := map[api.Arrive]int{}
		leave := func(l []api.Arrive, _ api.Errno) {
			for _, m := range l {
				left[m]--
			}
		}
		for i := range 300 {
			k := b.model.links[d.below(len(b.model.links))]
			switch d.below(12) {
			case 0:
				leave(b.net.Cut(k.A, k.B))
			case 1, 2:
				b.net.Mend(k.B, k.A)
			case 3:
				leave(b.net.Stop(k.A))
			case 4, 5:
				b.net.Start(k.A)
			case 6, 7:
				leave(b.net.Tick(), api.OK)
			default:
				f, _ := b.net.Send(k.B, k.A, strconv.Itoa(i))
				left[arrive(k.B, k.A, strconv.Itoa(i))[0]] += f.Copies
			}
		}
		for range 130 {
			leave(b.net.Tick(), api.OK)
		}
		for m, n := range left {
			if n != 0 {
				t.Errorf("%v: %d too few", m, n)
			}
		}
	}
}

func TestWithoutRulesMessagesComeInOrder(t *testing.T) {
	d := dice(189)
	for late := 1; late <= 64; late++ {
		routers, links := five()
		n := fresh(t, routers, links, nil, late).net
		last := map[[2]int]int{}
		for i := 1; i < 600; i++ {
			k := links[d.below(len(links))]
			switch d.below(9) {
			case 0:
				for _, m := range n.Tick() {
					this, _ := strconv.Atoi(m.Bytes)
					if this <= last[[2]int{m.From, m.To}] {
						t.Errorf("%v comes behind %v", m, last)
					}
					last[[2]int{m.From, m.To}] = this
				}
			case 1:
				n.Cut(k.A, k.B)
			case 2:
				n.Mend(k.A, k.B)
			case 3, 4, 5:
				n.Send(k.A, k.B, strconv.Itoa(i))
			default:
				n.Send(k.B, k.A, strconv.Itoa(i))
			}
		}
	}
}

// What is cut and mended, stopped and started, is as one of which this was not done, but for what was lost.
func TestMendedAndStartedIsAsBefore(t *testing.T) {
	routers, links := five()
	for _, k := range links {
		for _, n := range routers {
			b, other := loadedFive(t), loadedFive(t)
			b.cut(t, k.A, k.B)
			b.stop(t, n)
			b.mend(t, k.B, k.A)
			b.start(t, n)
			other.model.row = slices.DeleteFunc(other.model.row, func(c coming) bool {
				return isOf(k, c.m.From, c.m.To) || c.m.From == n || c.m.To == n
			})
			other = both{b.net, other.model}
			other.look(t)
			for i := range 4 {
				for _, k := range links {
					other.send(t, k.A, k.B, "after"+strconv.Itoa(i))
					other.send(t, k.B, k.A, "after"+strconv.Itoa(i))
				}
				other.tick(t)
			}
			other.drain(t)
		}
	}
}

// R3

func wantNotThere(t *testing.T, n *net.Net) {
	t.Helper()
	for _, a := range ends {
		for _, b := range ends {
			wantSend(t, n, a, b, "m", api.Fate{}, api.ErrNil)
			wantCut(t, n, a, b, api.ErrNil)
			wantMend(t, n, a, b, api.ErrNil)
			wantUp(t, n, a, b, false)
		}
		wantStop(t, n, a, api.ErrNil)
		wantStart(t, n, a, api.ErrNil)
		wantNear(t, n, a, api.ErrNil)
	}
	wantSend(t, n, 1, 2, strings.Repeat("x", 513), api.Fate{}, api.ErrNil)
	for range 3 {
		wantTick(t, n)
		if now := n.Now(); now != 0 {
			t.Errorf("Now() of none = %d", now)
		}
	}
	wantFlying(t, n, 0)
	if g, e := n.Graph(); g.Nodes != nil || g.Edges != nil || e != api.ErrNil {
		t.Errorf("Graph() of none = %v, %v", g, e)
	}
}

func TestNetsThatAreNotThere(t *testing.T) {
	wantNotThere(t, nil)
	wantNotThere(t, &net.Net{})
	wantNotThere(t, new(net.Net))
	refused, _ := net.New(nil, nil, nil, 0)
	wantNotThere(t, refused)
}

// A net that is assigned as a value comes from no call.
func TestNetsThatAreAssigned(t *testing.T) {
	b := loadedFive(t)
	n := *b.net
	wantNotThere(t, &n)
	b.look(t)
	b.drain(t)
	n = *threeNet(t, 2).net
	wantNotThere(t, &n)
}

// R5

// guarded is a list with room behind its end, and a way to see whether anything there, or in it, has changed.
func guarded[T comparable](t *testing.T, l []T, guard T) ([]T, func()) {
	t.Helper()
	whole := append(slices.Clone(l), guard, guard, guard)
	before := slices.Clone(whole)
	return whole[:len(l):len(whole)], func() {
		t.Helper()
		if !slices.Equal(whole, before) {
			t.Errorf("what was handed in changed: %v, not %v", whole, before)
		}
	}
}

func TestWhatIsHandedInStaysAndIsNotKept(t *testing.T) {
	routers, links := five()
	rules := oddRules(links)
	gr, sameRouters := guarded(t, routers, 3)
	gl, sameLinks := guarded(t, links, link(9, 7, 4))
	gu, sameRules := guarded(t, rules, rule(1, 7, 1, api.RuleDrop, 0))
	n, e := net.New(gr, gl, gu, 7)
	if e != api.OK {
		t.Fatal(e)
	}
	sameRouters()
	sameLinks()
	sameRules()
	clear(gr[:cap(gr)])
	clear(gl[:cap(gl)])
	clear(gu[:cap(gu)])
	b := both{n, modelOf(routers, links, rules, 7)}
	b.look(t)
	loaded(t, b)
	b.cut(t, 24, 1)
	b.stop(t, 7)
	b.drain(t)
	for _, x := range gr[:cap(gr)] {
		if x != 0 {
			t.Errorf("%v was written to", gr[:cap(gr)])
		}
	}
}

func TestWhatIsHandedInStaysBesideAnError(t *testing.T) {
	for _, late := range []int{0, 1, 65} {
		gr, sameRouters := guarded(t, []int{3, 1, 2}, 9)
		gl, sameLinks := guarded(t, []api.Link{link(3, 1, 5), link(2, 1, 4)}, link(2, 3, 1))
		gu, sameRules := guarded(t, []api.Rule{rule(3, 1, 1, 1, 0), rule(3, 1, 1, 1, 0)}, rule(2, 3, 1, 1, 0))
		net.New(gr, gl, gu, late)
		net.New(gr, gl[:len(gl)+1], gu[:1], late)
		net.New(gr[:len(gr)+2], gl, gu, late)
		sameRouters()
		sameLinks()
		sameRules()
	}
}

// spoil writes all over a list, and behind its end.
func spoil[T any](l []T) {
	clear(l[:cap(l)])
}

func TestWhatIsAnsweredIsTheCallersOwn(t *testing.T) {
	b := loadedFive(t)
	for range 3 {
		g, _ := b.net.Graph()
		spoil(g.Nodes)
		spoil(g.Edges)
		for _, n := range b.model.routers {
			l, _ := b.net.Near(n)
			spoil(l)
		}
		b.look(t)
	}
	spoilBoth := func(l, want []api.Arrive) {
		if !slices.Equal(l, want) {
			t.Errorf("%v, not %v", l, want)
		}
		spoil(l)
		b.look(t)
	}
	spoilBoth(b.net.Tick(), b.model.tick())
	l, _ := b.net.Cut(1, 2)
	want, _ := b.model.cut(2, 1)
	spoilBoth(l, want)
	spoilBoth(b.net.Tick(), b.model.tick())
	l, _ = b.net.Stop(24)
	want, _ = b.model.stop(24)
	spoilBoth(l, want)
	b.drain(t)
}

func TestAnswersShareNothing(t *testing.T) {
	b := loadedFive(t)
	g, _ := b.net.Graph()
	h, _ := b.net.Graph()
	near, _ := b.net.Near(1)
	again, _ := b.net.Near(1)
	spoil(g.Nodes)
	spoil(g.Edges)
	spoil(near)
	want := b.model.graph()
	wantL, _ := b.model.near(1)
	if !slices.Equal(h.Nodes, want.Nodes) || !slices.Equal(h.Edges, want.Edges) || !slices.Equal(again, wantL) {
		t.Errorf("%v, %v", h, again)
	}
	first := b.net.Tick()
	kept := slices.Clone(first)
	lost, _ := b.net.Cut(7, 1)
	keptLost := slices.Clone(lost)
	for range 20 {
		spoil(b.net.Tick())
	}
	if !slices.Equal(first, kept) || !slices.Equal(lost, keptLost) {
		t.Errorf("%v, %v", first, lost)
	}
}

// R6: the same calls answer the same; routers and links hang on no order.
func TestSameCallsSameAnswers(t *testing.T) {
	row := func() []api.Arrive {
		d := dice(190)
		b := madeUpNet(t, &d)
		var l []api.Arrive
		for i := range 300 {
			k := b.model.links[d.below(len(b.model.links))]
			b.send(t, k.A, k.B, strconv.Itoa(i))
			if d.below(5) == 0 {
				l = append(l, b.tick(t)...)
			}
			if d.below(30) == 0 {
				l = append(l, b.cut(t, k.A, k.B)...)
			}
		}
		return l
	}
	first := row()
	for range 5 {
		if l := row(); !slices.Equal(l, first) {
			t.Errorf("%v, not %v", l, first)
		}
	}
}

func TestRoutersAndLinksHangOnNoOrder(t *testing.T) {
	d := dice(191)
	routers, links := allRouters(), allLinks()
	first, _ := fresh(t, routers, links, nil, 1).net.Graph()
	for range 50 {
		l := shuffled(&d, links)
		for i := range l {
			if d.below(2) == 0 {
				l[i].A, l[i].B = l[i].B, l[i].A
			}
		}
		wantGraph(t, fresh(t, shuffled(&d, routers), l, nil, 1).net, first)
	}
}

func FuzzNet(f *testing.F) {
	f.Add([]byte{0, 1, 2, 3, 4, 5})
	f.Add([]byte("some calls, one after the other"))
	f.Add([]byte{255, 60, 60, 60, 120, 46, 47, 50, 55, 56, 57, 58, 59})
	f.Fuzz(func(t *testing.T, calls []byte) {
		d := dice(len(calls))
		b := madeUpNet(t, &d)
		for i, c := range calls[:min(len(calls), 300)] {
			d += dice(c) << 40
			madeUp(t, &d, b, strconv.Itoa(i))
		}
		b.drain(t)
	})
}
