package fate_test

import (
	"math"
	"slices"
	"testing"

	"dandelion/api"
	"dandelion/fate"
)

// kinds has those that are some and those that are none, among them numbers that are like one in their lowest bits.
var kinds = []int{math.MinInt, -1 << 32, 1 - 1<<32, -3, -2, -1, 0, api.RuleDrop, api.RuleDouble, api.RuleDelay, 4, 5, 255, 1<<8 + 1, 1<<16 + 2, 1<<32 + 1, 1<<32 + 3, math.MaxInt}

// hows has numbers of ticks at the edges.
var hows = []int{math.MinInt, 1 - 1<<32, -64, -2, -1, 0, 1, 2, 63, 64, 65, 66, 128, 1<<8 + 1, 1 << 32, 1<<32 + 1, math.MaxInt}

// numbers has those of messages at the edges.
var numbers = []int{math.MinInt, 1 - 1<<32, -1 << 20, -2, -1, 0, 1, 2, 3, 1<<20 - 1, 1 << 20, 1<<20 + 1, 1 << 21, 1 << 32, 1<<32 + 1, math.MaxInt}

// ends has numbers of routers at the edges, and of what is none.
var ends = []int{math.MinInt, math.MinInt + 1, 1 - 1<<32, -24, -2, -1, 0, 1, 2, 23, 24, 25, 26, 1<<8 + 1, 1<<16 + 2, 1 << 32, 1<<32 + 1, 1<<32 + 24, math.MaxInt}

func rule(from, to, nth, kind, by int) api.Rule {
	return api.Rule{From: from, To: to, Nth: nth, Kind: kind, By: by}
}

// plain is the fate of a message without a rule.
func plain() api.Fate { return api.Fate{Copies: 1, Late: 0, Second: 0} }

func pairMayBe(from, to int) bool {
	return 1 <= from && from <= 24 && 1 <= to && to <= 24 && from != to
}

// ruleMayBe goes by the document's words one by one.
func ruleMayBe(r api.Rule) bool {
	drops := r.Kind == api.RuleDrop && r.By == 0
	others := (r.Kind == api.RuleDouble || r.Kind == api.RuleDelay) && 1 <= r.By && r.By <= 64
	return pairMayBe(r.From, r.To) && 1 <= r.Nth && r.Nth <= 1048576 && (drops || others)
}

// fateOf is asked of rules that may be.
func fateOf(r api.Rule) api.Fate {
	return map[int]api.Fate{
		api.RuleDrop:   {Copies: 0, Late: 0, Second: 0},
		api.RuleDouble: {Copies: 2, Late: 0, Second: r.By},
		api.RuleDelay:  {Copies: 1, Late: r.By, Second: 0},
	}[r.Kind]
}

func sameMessage(a, b api.Rule) bool { return a.From == b.From && a.To == b.To && a.Nth == b.Nth }

// checked looks at all that is ahead of each rule.
func checked(l []api.Rule) (int, api.Errno) {
	if len(l) > 64 {
		return 64, api.ErrLong
	}
	for i, r := range l {
		if !ruleMayBe(r) {
			return i, api.ErrArg
		}
		for _, ahead := range l[:i] {
			if sameMessage(r, ahead) {
				return i, api.ErrBusy
			}
		}
	}
	return 0, api.OK
}

type pair struct{ from, to int }

// model keeps all rules, also those that came, and all pairs that were asked for in a row.
type model struct {
	rules []api.Rule
	row   []pair
}

func (m *model) asked(from, to int) int {
	n := 0
	for _, p := range m.row {
		if p == (pair{from, to}) {
			n++
		}
	}
	return n
}

func (m *model) ask(from, to int) api.Fate {
	m.row = append(m.row, pair{from, to})
	for _, r := range m.rules {
		if sameMessage(r, rule(from, to, m.asked(from, to), 0, 0)) {
			return fateOf(r)
		}
	}
	return plain()
}

func (m *model) left() int {
	n := 0
	for _, r := range m.rules {
		if r.Nth > m.asked(r.From, r.To) {
			n++
		}
	}
	return n
}

// both does all to a plan and to its model, and holds what they answer against each other.
type both struct {
	plan  *fate.Plan
	model *model
}

func fresh(t *testing.T, l ...api.Rule) both {
	t.Helper()
	p, e := fate.New(l)
	if e != api.OK || p == nil {
		t.Fatalf("New(%v): %v, %v", l, p, e)
	}
	return both{p, &model{rules: slices.Clone(l)}}
}

func (b both) ask(t *testing.T, from, to int) api.Fate {
	t.Helper()
	if !pairMayBe(from, to) {
		wantAsk(t, b.plan, from, to, api.Fate{}, api.ErrArg)
		wantAsked(t, b.plan, from, to, 0)
		return api.Fate{}
	}
	want := b.model.ask(from, to)
	wantAsk(t, b.plan, from, to, want, api.OK)
	wantAsked(t, b.plan, from, to, b.model.asked(from, to))
	wantLeft(t, b.plan, b.model.left())
	return want
}

func (b both) copied(t *testing.T) both {
	t.Helper()
	p := b.plan.Copy()
	if p == nil || p == b.plan {
		t.Fatalf("Copy: %p of %p", p, b.plan)
	}
	return both{p, &model{slices.Clone(b.model.rules), slices.Clone(b.model.row)}}
}

// look asks for what can be asked for without a change.
func (b both) look(t *testing.T) {
	t.Helper()
	var counts [27][27]int
	for _, p := range b.model.row {
		counts[p.from][p.to]++
	}
	for from := range counts {
		for to := range counts[from] {
			wantAsked(t, b.plan, from, to, counts[from][to])
		}
	}
	wantLeft(t, b.plan, b.model.left())
}

// whole goes on with b's twin till each rule has come or far is reached, so that b stays as it is.
func (b both) whole(t *testing.T, far int) {
	t.Helper()
	twin := b.copied(t)
	twin.look(t)
	for _, r := range twin.model.rules {
		for range min(far, r.Nth-twin.model.asked(r.From, r.To)) + 1 {
			twin.ask(t, r.From, r.To)
		}
	}
	b.look(t)
}

func wantAsk(t *testing.T, p *fate.Plan, from, to int, want api.Fate, wantE api.Errno) {
	t.Helper()
	if f, e := p.Ask(from, to); f != want || e != wantE {
		t.Errorf("Ask(%d, %d) = %v, %v, not %v, %v", from, to, f, e, want, wantE)
	}
}

// wantPlain asks so many times, of which none comes to a rule.
func wantPlain(t *testing.T, p *fate.Plan, from, to, times int) {
	t.Helper()
	for i := range times {
		if f, e := p.Ask(from, to); f != plain() || e != api.OK {
			t.Fatalf("the next message, after %d: %v, %v", i, f, e)
		}
	}
}

func wantAsked(t *testing.T, p *fate.Plan, from, to, want int) {
	t.Helper()
	if n := p.Asked(from, to); n != want {
		t.Errorf("Asked(%d, %d) = %d, not %d", from, to, n, want)
	}
}

func wantLeft(t *testing.T, p *fate.Plan, want int) {
	t.Helper()
	if n := p.Left(); n != want {
		t.Errorf("Left() = %d, not %d", n, want)
	}
}

// wantCheck asks New, too: it has to answer what Check does.
func wantCheck(t *testing.T, l []api.Rule, at int, want api.Errno) {
	t.Helper()
	if n, e := fate.Check(l); n != at || e != want {
		t.Errorf("Check(%v) = %d, %v, not %d, %v", l, n, e, at, want)
	}
	p, e := fate.New(l)
	if e != want || (p != nil) != (want == api.OK) {
		t.Errorf("New(%v) = %v, %v, not %v", l, p, e, want)
	}
	if want == api.OK {
		wantLeft(t, p, len(l))
	}
}

// dice is a row of numbers that is the same each time.
type dice uint64

func (d *dice) below(n int) int {
	*d = *d*6364136223846793005 + 1442695040888963407
	return int(uint64(*d) >> 33 % uint64(n))
}

// pair is one of routers that are at most the given number of them.
func (d *dice) pair(routers int) (from, to int) {
	from = 1 + d.below(routers)
	to = 1 + d.below(routers-1)
	if to >= from {
		to++
	}
	return from, to
}

func (d *dice) rule(routers, far int) api.Rule {
	from, to := d.pair(routers)
	kind := 1 + d.below(3)
	by := 0
	if kind != api.RuleDrop {
		by = 1 + d.below(64)
	}
	return rule(from, to, 1+d.below(far), kind, by)
}

// rules has many that may stand beside each other.
func (d *dice) rules(many, routers, far int) []api.Rule {
	var l []api.Rule
	for len(l) < many {
		r := d.rule(routers, far)
		if !slices.ContainsFunc(l, func(x api.Rule) bool { return sameMessage(x, r) }) {
			l = append(l, r)
		}
	}
	return l
}

func shuffled[T any](d *dice, l []T) []T {
	out := slices.Clone(l)
	for i := range out {
		j := i + d.below(len(out)-i)
		out[i], out[j] = out[j], out[i]
	}
	return out
}

// eachOrder does with l in each order that its things can have.
func eachOrder[T any](l []T, do func(l []T)) {
	var from func(i int)
	from = func(i int) {
		if i == len(l) {
			do(slices.Clone(l))
			return
		}
		for j := i; j < len(l); j++ {
			l[i], l[j] = l[j], l[i]
			from(i + 1)
			l[i], l[j] = l[j], l[i]
		}
	}
	from(0)
}

// eachWord does with each row of so many letters, which are numbers from 0 on.
func eachWord(length, letters int, do func(word []int)) {
	word := make([]int, length)
	for {
		do(word)
		i := length - 1
		for i >= 0 && word[i] == letters-1 {
			word[i] = 0
			i--
		}
		if i < 0 {
			return
		}
		word[i]++
	}
}

func eachPair(do func(from, to int)) {
	for from := 1; from <= 24; from++ {
		for to := 1; to <= 24; to++ {
			if from != to {
				do(from, to)
			}
		}
	}
}

// eachNoPair does with all that are no two routers, as far as the edges go.
func eachNoPair(do func(from, to int)) {
	for _, from := range ends {
		for _, to := range ends {
			if !pairMayBe(from, to) {
				do(from, to)
			}
		}
	}
	for n := 1; n <= 24; n++ {
		do(n, n)
		do(n, 0)
		do(0, n)
		do(n, 25)
		do(25, n)
		do(n, -n)
		do(-n, n)
	}
}

// few has rules of three pairs, two of which are one the other way round.
func few() []api.Rule {
	return []api.Rule{rule(1, 2, 2, api.RuleDrop, 0), rule(1, 2, 3, api.RuleDouble, 4), rule(2, 1, 1, api.RuleDelay, 9), rule(2, 1, 3, api.RuleDrop, 0), rule(1, 3, 1, api.RuleDouble, 64), rule(1, 3, 2, api.RuleDelay, 1)}
}

// many has 64 rules that may be.
func many() []api.Rule {
	d := dice(64)
	return d.rules(64, 24, 5)
}

func TestAsTheExamplesTell(t *testing.T) {
	p, e := fate.New([]api.Rule{rule(1, 2, 2, api.RuleDrop, 0), rule(1, 2, 3, api.RuleDouble, 4), rule(2, 1, 1, api.RuleDelay, 9)})
	if e != api.OK {
		t.Fatal(e)
	}
	wantAsk(t, p, 1, 2, api.Fate{Copies: 1}, api.OK)
	wantAsk(t, p, 1, 2, api.Fate{}, api.OK)
	wantAsk(t, p, 1, 2, api.Fate{Copies: 2, Second: 4}, api.OK)
	wantAsk(t, p, 1, 2, api.Fate{Copies: 1}, api.OK)
	wantAsk(t, p, 2, 1, api.Fate{Copies: 1, Late: 9}, api.OK)
	wantAsk(t, p, 2, 1, api.Fate{Copies: 1}, api.OK)
	wantAsked(t, p, 1, 2, 4)
	wantLeft(t, p, 0)
	wantAsk(t, p, 1, 1, api.Fate{}, api.ErrArg)
	wantAsk(t, p, 0, 1, api.Fate{}, api.ErrArg)
	wantAsk(t, p, 1, 25, api.Fate{}, api.ErrArg)
	wantAsked(t, p, 1, 25, 0)
	wantCheck(t, []api.Rule{rule(1, 2, 1, api.RuleDrop, 1)}, 0, api.ErrArg)
	wantCheck(t, []api.Rule{rule(1, 1, 1, api.RuleDrop, 0)}, 0, api.ErrArg)
	wantCheck(t, []api.Rule{rule(1, 2, 0, api.RuleDrop, 0)}, 0, api.ErrArg)
	wantCheck(t, []api.Rule{rule(1, 2, 1, api.RuleDelay, 65)}, 0, api.ErrArg)
	wantCheck(t, []api.Rule{rule(1, 2, 1, api.RuleDrop, 0), rule(1, 2, 1, api.RuleDelay, 1)}, 1, api.ErrBusy)
}

// P17.1

func wantOneRule(t *testing.T, r api.Rule) {
	t.Helper()
	want := api.ErrArg
	if ruleMayBe(r) {
		want = api.OK
	}
	wantCheck(t, []api.Rule{r}, 0, want)
}

func TestRoutersOfARule(t *testing.T) {
	for _, from := range ends {
		for _, to := range ends {
			wantOneRule(t, rule(from, to, 1, api.RuleDrop, 0))
			wantOneRule(t, rule(from, to, 1<<20, api.RuleDelay, 64))
		}
	}
	for from := -1; from <= 26; from++ {
		for to := -1; to <= 26; to++ {
			wantOneRule(t, rule(from, to, 7, api.RuleDouble, 8))
		}
	}
}

func TestNumberOfARule(t *testing.T) {
	for _, nth := range numbers {
		wantOneRule(t, rule(1, 24, nth, api.RuleDrop, 0))
		wantOneRule(t, rule(24, 1, nth, api.RuleDouble, 1))
		wantOneRule(t, rule(3, 2, nth, api.RuleDelay, 64))
	}
}

func TestKindAndTicksOfARule(t *testing.T) {
	for _, kind := range kinds {
		for _, by := range hows {
			wantOneRule(t, rule(1, 2, 1, kind, by))
		}
		for by := -70; by <= 140; by++ {
			wantOneRule(t, rule(24, 23, 1<<20, kind, by))
		}
	}
}

func TestAllEdgesOfARule(t *testing.T) {
	var l []api.Rule
	for _, from := range []int{-1, 0, 1, 24, 25} {
		for _, to := range []int{-1, 0, 1, 24, 25} {
			for _, nth := range []int{-1, 0, 1, 1 << 20, 1<<20 + 1} {
				for kind := range 5 {
					for _, by := range []int{-1, 0, 1, 64, 65} {
						l = append(l, rule(from, to, nth, kind, by))
					}
				}
			}
		}
	}
	for _, r := range l {
		wantOneRule(t, r)
	}
}

func TestNoRule(t *testing.T) {
	wantCheck(t, nil, 0, api.OK)
	wantCheck(t, []api.Rule{}, 0, api.OK)
	wantCheck(t, many()[:0], 0, api.OK)
}

func TestAsManyRulesAsMayBe(t *testing.T) {
	for n := range 65 {
		wantCheck(t, many()[:n], 0, api.OK)
	}
}

func TestTooManyRules(t *testing.T) {
	good := rule(20, 21, 1, api.RuleDrop, 0)
	bad := api.Rule{}
	for _, more := range [][]api.Rule{{good}, {bad}, {many()[0]}, {good, good}, {good, bad, good}, many(), slices.Repeat(many(), 5)} {
		wantCheck(t, slices.Concat(many(), more), 64, api.ErrLong)
		wantCheck(t, slices.Concat(more, many()), 64, api.ErrLong)
	}
	wantCheck(t, make([]api.Rule, 65), 64, api.ErrLong)
	wantCheck(t, make([]api.Rule, 64), 0, api.ErrArg)
	wantCheck(t, slices.Repeat([]api.Rule{good}, 65), 64, api.ErrLong)
	wantCheck(t, slices.Repeat([]api.Rule{good}, 64), 1, api.ErrBusy)
	wantCheck(t, make([]api.Rule, 1<<16), 64, api.ErrLong)
}

// wrong has for each part of a rule one that may not be for that part alone.
func wrong() []api.Rule {
	return []api.Rule{{}, rule(0, 2, 1, api.RuleDrop, 0), rule(1, 25, 1, api.RuleDrop, 0), rule(5, 5, 1, api.RuleDrop, 0), rule(1, 2, 0, api.RuleDrop, 0), rule(1, 2, 1<<20+1, api.RuleDelay, 1), rule(1, 2, 1, 0, 0), rule(1, 2, 1, 4, 1), rule(1, 2, 1, api.RuleDrop, 1), rule(1, 2, 1, api.RuleDouble, 0), rule(1, 2, 1, api.RuleDelay, 65)}
}

func TestPlaceOfTheFirstThatMayNotBe(t *testing.T) {
	for i := range many() {
		for _, bad := range wrong() {
			l := many()
			l[i] = bad
			wantCheck(t, l, i, api.ErrArg)
			wantCheck(t, l[:i+1], i, api.ErrArg)
			l[63] = api.Rule{}
			wantCheck(t, l, i, api.ErrArg)
		}
	}
}

func TestPlaceOfTheFirstThatOneAheadHas(t *testing.T) {
	for i := range many() {
		for j := range i {
			l := many()
			l[i] = l[j]
			wantCheck(t, l, i, api.ErrBusy)
			wantCheck(t, l[:i+1], i, api.ErrBusy)
			wantCheck(t, l[:i], 0, api.OK)
		}
	}
}

func TestOneMessageHasOneRule(t *testing.T) {
	first := rule(7, 8, 9, api.RuleDouble, 10)
	for _, second := range []api.Rule{first, rule(7, 8, 9, api.RuleDouble, 11), rule(7, 8, 9, api.RuleDelay, 10), rule(7, 8, 9, api.RuleDrop, 0)} {
		wantCheck(t, []api.Rule{first, second}, 1, api.ErrBusy)
		wantCheck(t, []api.Rule{second, first}, 1, api.ErrBusy)
		wantCheck(t, []api.Rule{first, rule(8, 7, 9, api.RuleDrop, 0), second, first}, 2, api.ErrBusy)
	}
}

func TestMessagesThatAreUnlike(t *testing.T) {
	first := rule(7, 8, 9, api.RuleDouble, 10)
	for _, second := range []api.Rule{rule(8, 7, 9, api.RuleDouble, 10), rule(7, 9, 8, api.RuleDouble, 10), rule(7, 8, 10, api.RuleDouble, 10), rule(7, 8, 8, api.RuleDouble, 10), rule(6, 8, 9, api.RuleDouble, 10), rule(7, 6, 9, api.RuleDouble, 10), rule(9, 8, 7, api.RuleDouble, 10), rule(7, 8, 9+1<<8, api.RuleDouble, 10), rule(7, 8, 9+1<<16, api.RuleDouble, 10)} {
		wantCheck(t, []api.Rule{first, second}, 0, api.OK)
		wantCheck(t, []api.Rule{second, first}, 0, api.OK)
	}
	// What a number made of all three would take for one message.
	wantCheck(t, []api.Rule{rule(1, 12, 3, api.RuleDrop, 0), rule(11, 2, 3, api.RuleDrop, 0), rule(1, 2, 13, api.RuleDrop, 0), rule(1, 21, 3, api.RuleDrop, 0), rule(1, 2, 1+1<<10, api.RuleDrop, 0), rule(2, 1, 1<<10, api.RuleDrop, 0)}, 0, api.OK)
}

func TestBusyBesideOneThatMayNotBe(t *testing.T) {
	good, other := rule(1, 2, 1, api.RuleDelay, 3), rule(2, 1, 1, api.RuleDrop, 0)
	for _, bad := range wrong() {
		wantCheck(t, []api.Rule{good, good, bad}, 1, api.ErrBusy)
		wantCheck(t, []api.Rule{good, bad, good}, 1, api.ErrArg)
		wantCheck(t, []api.Rule{bad, good, good}, 0, api.ErrArg)
		wantCheck(t, []api.Rule{good, other, other, bad, good}, 2, api.ErrBusy)
		wantCheck(t, []api.Rule{good, other, bad, other, good}, 2, api.ErrArg)
		wantCheck(t, []api.Rule{bad, bad}, 0, api.ErrArg)
	}
	// A rule that may not be, and has what one ahead has.
	wantCheck(t, []api.Rule{good, rule(1, 2, 1, api.RuleDelay, 0)}, 1, api.ErrArg)
	wantCheck(t, []api.Rule{good, rule(1, 2, 1, api.RuleDrop, 3)}, 1, api.ErrArg)
	wantCheck(t, []api.Rule{good, rule(1, 2, 1, 4, 3)}, 1, api.ErrArg)
}

func TestChecksOfMadeUpRules(t *testing.T) {
	d := dice(171)
	odd := wrong()
	for range 3000 {
		l := make([]api.Rule, d.below(10))
		for i := range l {
			l[i] = d.rule(3, 6)
			if d.below(12) == 0 {
				l[i] = odd[d.below(len(odd))]
			}
		}
		at, e := checked(l)
		wantCheck(t, l, at, e)
	}
}

func TestNothingIsAskedOfANewPlan(t *testing.T) {
	for _, l := range [][]api.Rule{nil, {}, few()[:1], few(), many()} {
		fresh(t, l...).look(t)
	}
}

func TestPlansAreApart(t *testing.T) {
	l := few()
	a, b := fresh(t, l...), fresh(t, l...)
	for range 4 {
		for _, r := range l {
			a.ask(t, r.From, r.To)
			b.look(t)
		}
	}
	b.whole(t, 4)
}

// P17.2

func TestAskOfEachPair(t *testing.T) {
	b := fresh(t, many()...)
	for range 2 {
		eachPair(func(from, to int) { b.ask(t, from, to) })
		b.look(t)
	}
}

func TestEachPairHasItsOwnCount(t *testing.T) {
	eachPair(func(from, to int) {
		p := fresh(t).plan
		for n := range 3 {
			wantAsk(t, p, from, to, plain(), api.OK)
			eachPair(func(x, y int) {
				if x == from && y == to {
					wantAsked(t, p, x, y, n+1)
				} else {
					wantAsked(t, p, x, y, 0)
				}
			})
		}
	})
}

func TestARuleOfEachPair(t *testing.T) {
	eachPair(func(from, to int) {
		p := fresh(t, rule(from, to, 2, api.RuleDouble, 5)).plan
		eachPair(func(x, y int) { wantAsk(t, p, x, y, plain(), api.OK) })
		wantLeft(t, p, 1)
		wantAsk(t, p, to, from, plain(), api.OK)
		wantAsk(t, p, from, to, api.Fate{Copies: 2, Second: 5}, api.OK)
		wantLeft(t, p, 0)
	})
}

func TestFateOfEachKind(t *testing.T) {
	p := fresh(t, rule(2, 9, 1, api.RuleDrop, 0)).plan
	wantAsk(t, p, 2, 9, api.Fate{Copies: 0, Late: 0, Second: 0}, api.OK)
	for by := 1; by <= 64; by++ {
		p := fresh(t, rule(2, 9, 1, api.RuleDouble, by), rule(2, 9, 2, api.RuleDelay, by)).plan
		wantAsk(t, p, 2, 9, api.Fate{Copies: 2, Late: 0, Second: by}, api.OK)
		wantAsk(t, p, 2, 9, api.Fate{Copies: 1, Late: by, Second: 0}, api.OK)
		wantAsk(t, p, 2, 9, api.Fate{Copies: 1, Late: 0, Second: 0}, api.OK)
	}
}

func TestARuleOfEachNumber(t *testing.T) {
	for nth := 1; nth <= 300; nth++ {
		p := fresh(t, rule(4, 5, nth, api.RuleDelay, 6)).plan
		wantPlain(t, p, 4, 5, nth-1)
		wantLeft(t, p, 1)
		wantAsk(t, p, 4, 5, api.Fate{Copies: 1, Late: 6}, api.OK)
		wantLeft(t, p, 0)
		wantAsk(t, p, 4, 5, plain(), api.OK)
	}
}

func TestTheLastNumberThatARuleMayHave(t *testing.T) {
	const last = 1 << 20
	p := fresh(t, rule(24, 1, last, api.RuleDouble, 64), rule(24, 1, last-1, api.RuleDrop, 0), rule(1, 24, last, api.RuleDrop, 0)).plan
	wantPlain(t, p, 24, 1, last-2)
	wantLeft(t, p, 3)
	wantAsk(t, p, 24, 1, api.Fate{}, api.OK)
	wantLeft(t, p, 2)
	wantAsk(t, p, 24, 1, api.Fate{Copies: 2, Second: 64}, api.OK)
	wantLeft(t, p, 1)
	for n := range 300 {
		wantAsk(t, p, 24, 1, plain(), api.OK)
		wantAsked(t, p, 24, 1, last+n+1)
	}
	wantAsked(t, p, 1, 24, 0)
}

// A number of messages that begins anew in fewer bits would bring a rule's fate to another message.
func TestNoMessageAfterwardsHasTheNumberOfARule(t *testing.T) {
	p := fresh(t, rule(1, 2, 1, api.RuleDrop, 0), rule(1, 2, 1<<16+2, api.RuleDouble, 1)).plan
	wantAsk(t, p, 1, 2, api.Fate{}, api.OK)
	wantPlain(t, p, 1, 2, 1<<16)
	wantAsk(t, p, 1, 2, api.Fate{Copies: 2, Second: 1}, api.OK)
	wantPlain(t, p, 1, 2, 3<<20)
	wantAsked(t, p, 1, 2, 3<<20+1<<16+2)
}

func TestAskOfWhatAreNoTwoRouters(t *testing.T) {
	b := fresh(t, few()...)
	eachNoPair(func(from, to int) { b.ask(t, from, to) })
	b.look(t)
	b.whole(t, 4)
	for _, r := range few() {
		b.ask(t, r.From, r.To)
	}
	eachNoPair(func(from, to int) { b.ask(t, from, to) })
	b.look(t)
	b.whole(t, 4)
}

func TestAskedChangesNothing(t *testing.T) {
	b := fresh(t, few()...)
	for i := range 30 {
		for range 3 {
			b.look(t)
			eachNoPair(func(from, to int) { wantAsked(t, b.plan, from, to, 0) })
		}
		r := few()[i%len(few())]
		b.ask(t, r.From, r.To)
	}
}

func wantNotThere(t *testing.T, p *fate.Plan) {
	t.Helper()
	for _, from := range ends {
		for _, to := range ends {
			wantAsk(t, p, from, to, api.Fate{}, api.ErrNil)
			wantAsked(t, p, from, to, 0)
		}
	}
	for _, r := range few() {
		wantAsk(t, p, r.From, r.To, api.Fate{}, api.ErrNil)
		wantAsked(t, p, r.From, r.To, 0)
	}
	wantLeft(t, p, 0)
	if q := p.Copy(); q != nil {
		t.Errorf("Copy of none: %v", q)
	}
}

func TestPlansThatAreNotThere(t *testing.T) {
	wantNotThere(t, nil)
	wantNotThere(t, &fate.Plan{})
	wantNotThere(t, new(fate.Plan))
	var p fate.Plan
	wantNotThere(t, &p)
	refused, _ := fate.New(make([]api.Rule, 65))
	wantNotThere(t, refused)
}

// A plan that is assigned as a value comes from no call.
func TestPlansThatAreAssigned(t *testing.T) {
	b := fresh(t, few()...)
	b.ask(t, 1, 2)
	q := *b.plan
	wantNotThere(t, &q)
	b.look(t)
	b.whole(t, 4)
	q = *fresh(t, many()...).plan.Copy()
	wantNotThere(t, &q)
}

// P17.3

func TestLeftFallsAtTheMessagesOfRules(t *testing.T) {
	p := fresh(t, few()...).plan
	left := 6
	for _, c := range []struct {
		from, to int
		came     bool
	}{{1, 2, false}, {3, 1, false}, {2, 1, true}, {1, 3, true}, {1, 2, true}, {2, 1, false}, {1, 3, true}, {1, 3, false}, {2, 3, false}, {1, 2, true}, {2, 1, true}, {2, 1, false}, {1, 2, false}} {
		wantLeft(t, p, left)
		if _, e := p.Ask(c.from, c.to); e != api.OK {
			t.Fatal(e)
		}
		if c.came {
			left--
		}
		wantLeft(t, p, left)
	}
	wantLeft(t, p, 0)
}

func TestLeftOfAsManyRulesAsMayBe(t *testing.T) {
	for _, l := range [][]api.Rule{many(), oneAfterOther(64)} {
		for n := range 65 {
			b := fresh(t, l[:n]...)
			wantLeft(t, b.plan, n)
			b.whole(t, 70)
		}
	}
}

// oneAfterOther has rules of one pair, for its first messages.
func oneAfterOther(many int) []api.Rule {
	d := dice(17)
	var l []api.Rule
	for i := range many {
		r := d.rule(2, 1)
		r.From, r.To, r.Nth = 11, 12, i+1
		l = append(l, r)
	}
	return l
}

func TestCopyIsAsTheFirstIs(t *testing.T) {
	b := fresh(t, few()...)
	for i := range 24 {
		twin := b.copied(t)
		twin.look(t)
		twin.whole(t, 4)
		b.look(t)
		r := few()[i%len(few())]
		b.ask(t, r.From, r.To)
	}
}

func TestACopyGoesOnByItself(t *testing.T) {
	d := dice(173)
	for steps := range 12 {
		first := fresh(t, few()...)
		for range steps {
			from, to := d.pair(3)
			first.ask(t, from, to)
		}
		second := first.copied(t)
		third := second.copied(t)
		for range 40 {
			from, to := d.pair(3)
			one := []both{first, second, third}[d.below(3)]
			one.ask(t, from, to)
			first.look(t)
			second.look(t)
			third.look(t)
		}
	}
}

func TestACopyOutlivesWhatTheFirstDoes(t *testing.T) {
	for range 2 {
		first := fresh(t, many()...)
		second := first.copied(t)
		for _, r := range many() {
			for range 6 {
				first.ask(t, r.From, r.To)
			}
		}
		wantLeft(t, first.plan, 0)
		wantLeft(t, second.plan, 64)
		second.look(t)
		second.whole(t, 6)
		third := first.copied(t)
		third.look(t)
		third.whole(t, 6)
	}
}

func TestCopyOfAPlanWithoutRules(t *testing.T) {
	b := fresh(t)
	b.whole(t, 1)
	b.ask(t, 3, 4)
	twin := b.copied(t)
	twin.look(t)
	twin.ask(t, 3, 4)
	twin.ask(t, 4, 3)
	b.look(t)
}

// P17.4

// fatesOf goes through a row of pairs and gathers what each message's fate was.
func fatesOf(t *testing.T, rules []api.Rule, row []pair) map[api.Rule]api.Fate {
	t.Helper()
	p := fresh(t, rules...).plan
	fates := map[api.Rule]api.Fate{}
	for _, x := range row {
		f, e := p.Ask(x.from, x.to)
		if e != api.OK {
			t.Fatal(e)
		}
		fates[rule(x.from, x.to, p.Asked(x.from, x.to), 0, 0)] = f
	}
	return fates
}

// fatesWanted has each message's fate by the rules alone.
func fatesWanted(rules []api.Rule, row []pair) map[api.Rule]api.Fate {
	fates := map[api.Rule]api.Fate{}
	for _, x := range row {
		m := rule(x.from, x.to, 1, 0, 0)
		for fates[m] != (api.Fate{}) {
			m.Nth++
		}
		fates[m] = plain()
	}
	for _, r := range rules {
		m := rule(r.From, r.To, r.Nth, 0, 0)
		if _, ok := fates[m]; ok {
			fates[m] = fateOf(r)
		}
	}
	return fates
}

func wantFates(t *testing.T, rules []api.Rule, row []pair, want map[api.Rule]api.Fate) {
	t.Helper()
	fates := fatesOf(t, rules, row)
	if len(fates) != len(want) {
		t.Fatalf("%v, %v: %d messages, not %d", rules, row, len(fates), len(want))
	}
	for m, f := range fates {
		if f != want[m] {
			t.Fatalf("%v, %v: %v has %v, not %v", rules, row, m, f, want[m])
		}
	}
}

func TestEachOrderOfAskingAndOfRules(t *testing.T) {
	row := []pair{{1, 2}, {1, 2}, {2, 1}, {2, 1}, {1, 3}, {3, 1}}
	rules := []api.Rule{rule(1, 2, 2, api.RuleDrop, 0), rule(2, 1, 1, api.RuleDelay, 9), rule(1, 3, 1, api.RuleDouble, 3), rule(2, 1, 3, api.RuleDrop, 0)}
	want := fatesWanted(rules, row)
	eachOrder(row, func(row []pair) { wantFates(t, rules, row, want) })
	eachOrder(rules, func(rules []api.Rule) {
		wantFates(t, rules, row, want)
		eachOrder(row[:4], func(some []pair) { wantFates(t, rules, slices.Concat(some, row[4:]), want) })
	})
}

func TestManyRulesInSeveralOrders(t *testing.T) {
	d := dice(174)
	for range 30 {
		rules := d.rules(1+d.below(64), 2+d.below(23), 33)
		var row []pair
		for _, r := range rules {
			row = append(row, slices.Repeat([]pair{{r.From, r.To}}, d.below(36))...)
		}
		want := fatesWanted(rules, row)
		for range 5 {
			wantFates(t, shuffled(&d, rules), shuffled(&d, row), want)
		}
	}
}

func TestEachRuleTellsItsFateOnce(t *testing.T) {
	d := dice(175)
	for range 20 {
		rules := d.rules(64, 5, 10)
		p := fresh(t, shuffled(&d, rules)...).plan
		var row []pair
		eachPair(func(from, to int) {
			if from <= 5 && to <= 5 {
				row = append(row, slices.Repeat([]pair{{from, to}}, 12)...)
			}
		})
		told := 0
		for _, x := range shuffled(&d, row) {
			before := p.Left()
			f, e := p.Ask(x.from, x.to)
			fell := before - p.Left()
			if e != api.OK || (f != plain()) != (fell == 1) || fell < 0 || fell > 1 {
				t.Fatalf("%v of %v: %v, %v, Left fell by %d", x, rules, f, e, fell)
			}
			told += fell
		}
		if told != 64 || p.Left() != 0 {
			t.Errorf("%d told, %d left", told, p.Left())
		}
	}
}

// play does a letter to the last plan; one of the letters puts a copy behind it.
func play(t *testing.T, l []both, letter int) []both {
	t.Helper()
	b := l[len(l)-1]
	switch letter {
	case 0:
		b.ask(t, 1, 2)
	case 1:
		b.ask(t, 2, 1)
	case 2:
		b.ask(t, 1, 3)
	case 3:
		b.ask(t, 2, 2)
	case 4:
		return append(l, b.copied(t))
	case 5:
		// The first one goes on, and the last one is not to tell it.
		l[0].ask(t, 1, 2)
	}
	return l
}

func TestAllShortRowsOfCalls(t *testing.T) {
	for length := range 6 {
		eachWord(length, 6, func(word []int) {
			l := []both{fresh(t, few()...)}
			for _, letter := range word {
				l = play(t, l, letter)
			}
			for _, b := range l {
				for _, r := range few() {
					wantAsked(t, b.plan, r.From, r.To, b.model.asked(r.From, r.To))
				}
				wantLeft(t, b.plan, b.model.left())
			}
			l[len(l)-1].whole(t, 4)
			if t.Failed() {
				t.Fatalf("at %v", word)
			}
		})
	}
}

func TestLongRowsOfCalls(t *testing.T) {
	d := dice(176)
	for range 40 {
		routers := 2 + d.below(4)
		l := []both{fresh(t, d.rules(1+d.below(20), routers, 12)...)}
		for range 150 {
			b := l[d.below(len(l))]
			switch d.below(20) {
			case 0:
				l = append(l, b.copied(t))
			case 1:
				b.ask(t, ends[d.below(len(ends))], ends[d.below(len(ends))])
			default:
				from, to := d.pair(routers)
				b.ask(t, from, to)
			}
		}
		for _, b := range l {
			b.look(t)
		}
		if t.Failed() {
			return
		}
	}
}

// guarded has room behind its end, where something stands that has to stay.
func guarded(l []api.Rule) []api.Rule {
	return slices.Concat(l, slices.Repeat([]api.Rule{rule(-7, -7, -7, -7, -7)}, 9))[:len(l)]
}

func TestWhatIsHandedInStays(t *testing.T) {
	lists := [][]api.Rule{{}, few(), many(), {few()[0], few()[0]}, wrong(), make([]api.Rule, 65)}
	for _, l := range lists {
		own := guarded(l)
		fate.Check(own)
		p, _ := fate.New(own)
		for range 6 {
			for _, r := range l {
				p.Ask(r.From, r.To)
			}
		}
		p.Copy().Ask(1, 2)
		if !slices.Equal(own[:cap(own)], guarded(l)[:cap(own)]) {
			t.Errorf("%v became %v", guarded(l)[:cap(own)], own[:cap(own)])
		}
	}
}

func TestWhatIsHandedInIsNotKept(t *testing.T) {
	l := few()
	b := fresh(t, l...)
	twin := b.copied(t)
	for i := range l {
		l[i] = rule(1, 2, i+1, api.RuleDelay, 60)
	}
	b.whole(t, 6)
	clear(l)
	twin.whole(t, 6)
	wantCheck(t, l, 0, api.ErrArg)
}

func TestTheSameCallsAnswerTheSame(t *testing.T) {
	d := dice(177)
	var row []pair
	for range 400 {
		from, to := d.pair(24)
		row = append(row, pair{from, to})
	}
	want := fatesOf(t, many(), row)
	for range 10 {
		wantFates(t, many(), row, want)
	}
}

// FuzzFate takes bytes for rules, and then for calls.
func FuzzFate(f *testing.F) {
	f.Add([]byte{}, []byte{})
	f.Add([]byte{1, 2, 2, 1, 0, 1, 2, 3, 2, 4, 2, 1, 1, 3, 9}, []byte{1, 2, 1, 2, 1, 2, 1, 2, 2, 1, 2, 1, 1, 1, 0, 1, 1, 25})
	f.Add([]byte{1, 2, 1, 1, 0, 1, 2, 1, 3, 1}, []byte{1, 2})
	f.Add([]byte{24, 23, 1, 2, 64, 23, 24, 1, 3, 65}, []byte{255, 0, 24, 23, 255, 1, 24, 23})
	f.Fuzz(func(t *testing.T, rules, calls []byte) {
		var l []api.Rule
		for x := range slices.Chunk(rules[:min(len(rules), 330)/5*5], 5) {
			l = append(l, rule(int(int8(x[0])), int(int8(x[1])), int(x[2]), int(x[3]), int(int8(x[4]))))
		}
		at, e := checked(l)
		wantCheck(t, l, at, e)
		if e != api.OK {
			return
		}
		all := []both{fresh(t, l...)}
		for x := range slices.Chunk(calls[:min(len(calls), 300)/2*2], 2) {
			b := all[len(all)-1]
			switch {
			case x[0] == 255 && len(all) < 4:
				all = append(all, b.copied(t))
			case x[0] == 254:
				all[int(x[1])%len(all)].ask(t, 1, 2)
			default:
				b.ask(t, int(int8(x[0])), int(int8(x[1])))
			}
		}
		for _, b := range all {
			b.look(t)
		}
	})
}
