package claim_test

import (
	"errors"
	"fmt"
	"math"
	"reflect"
	"slices"
	"strings"
	"testing"

	"dandelion/api"
	"dandelion/claim"
)

// far are numbers far from all routers and ids, such as are like one in their lowest bits among them.
var far = []int{
	math.MinInt, math.MinInt + 1, math.MinInt + 5, math.MinInt32, math.MinInt32 + 1, math.MaxInt32, math.MaxInt - 1, math.MaxInt,
	1<<16 + 1, 1<<16 + 5, 1<<16 + 24, 1 << 32, 1<<32 + 1, 1<<32 + 5, 1<<32 + 24,
	1 - 1<<16, 5 - 1<<16, -1 << 32, 1 - 1<<32, 5 - 1<<32, 24 - 1<<32, 1<<61 + 1, 1 << 62, 1<<62 + 5,
}

var (
	noRouters = append([]int{0, -1, -2, -5, -24, -25, 25, 26, 32, 48, 255, 257}, far...)
	noIds     = append([]int{0, -1, -2, -5, -1023, -1024, -1025, 1025, 1026, 1029, 2047, 2048}, far...)
	someIds   = []int{1, 2, 7, 8, 9, 24, 25, 63, 64, 65, 127, 128, 255, 256, 257, 511, 512, 513, 1022, 1023, 1024}
)

// ints reads "1 3".
func ints(text string) []int {
	var l []int
	for _, s := range strings.Fields(text) {
		var n int
		fmt.Sscan(s, &n)
		l = append(l, n)
	}
	return l
}

// pairs reads "5: 1 3, 7: 2".
func pairs(text string, do func(n int, rest []int)) {
	for _, s := range strings.Split(text, ",") {
		if head, rest, ok := strings.Cut(s, ":"); ok {
			do(ints(head)[0], ints(rest))
		}
	}
}

// claims reads each one as its Id and its Routers.
func claims(text string) []api.Claim {
	var l []api.Claim
	pairs(text, func(n int, rest []int) { l = append(l, api.Claim{Id: n, Routers: rest}) })
	return l
}

func rec(origin, id int) api.Record {
	return api.Record{Origin: origin, Epoch: 1, Seq: 1, Claim: id}
}

// recs reads each one as its Origin and its Claim.
func recs(text string) []api.Record {
	var l []api.Record
	pairs(text, func(n int, rest []int) { l = append(l, rec(n, rest[0])) })
	return l
}

func examples() []api.Claim { return claims("5: 1 3, 7: 2") }

// cloned shares nothing with l.
func cloned(l []api.Claim) []api.Claim {
	l = slices.Clone(l)
	for i := range l {
		l[i].Routers = slices.Clone(l[i].Routers)
	}
	return l
}

func like(a, b api.Claim) bool { return a.Id == b.Id && slices.Equal(a.Routers, b.Routers) }

// alike holds claims against each other; an empty list is like none.
func alike(a, b []api.Claim) bool { return slices.EqualFunc(a, b, like) }

// dice is a row of numbers that is the same each time.
type dice uint64

func (d *dice) below(n int) int {
	*d = *d*6364136223846793005 + 1442695040888963407
	return int(uint64(*d) >> 33 % uint64(n))
}

// records are of unlike routers; of few ids, so that some are claimed by several.
func (d *dice) records(ids int) []api.Record {
	var l []api.Record
	for origin := 1; origin <= 24; origin++ {
		if d.below(3) > 0 {
			r := api.Record{Origin: origin, Epoch: uint32(1 + d.below(9)), Seq: uint32(1 + d.below(9)), Ingress: d.below(2) == 0}
			r.Claim = d.below(ids + 1)
			l = append(l, r)
		}
	}
	return shuffled(d, l)
}

// claims are any: of few numbers, such as are no ids and no routers among them.
func (d *dice) claims(count, ids, routers int) []api.Claim {
	var l []api.Claim
	for range count {
		c := api.Claim{Id: d.below(ids) - 1}
		for range d.below(4) {
			c.Routers = append(c.Routers, d.below(routers)-1)
		}
		l = append(l, c)
	}
	return l
}

func shuffled[T any](d *dice, l []T) []T {
	l = slices.Clone(l)
	for i := len(l) - 1; i > 0; i-- {
		k := d.below(i + 1)
		l[i], l[k] = l[k], l[i]
	}
	return l
}

// eachOrder goes through all orders of l.
func eachOrder[T any](l []T, do func(l []T)) {
	var from func(at int)
	from = func(at int) {
		if at == len(l) {
			do(slices.Clone(l))
			return
		}
		for i := at; i < len(l); i++ {
			l[at], l[i] = l[i], l[at]
			from(at + 1)
			l[at], l[i] = l[i], l[at]
		}
	}
	from(0)
}

// eachRow goes through all rows of at most so many of these.
func eachRow[T any](of []T, most int, do func(l []T)) {
	var from func(l []T)
	from = func(l []T) {
		do(slices.Clone(l))
		if len(l) < most {
			for _, x := range of {
				from(append(slices.Clone(l), x))
			}
		}
	}
	from(nil)
}

// What is asked for, id by id and router by router.

func claimsOf(l []api.Record) []api.Claim {
	var out []api.Claim
	for id := 1; id <= 1024; id++ {
		c := api.Claim{Id: id}
		for n := 1; n <= 24; n++ {
			for _, r := range l {
				if r.Origin == n && r.Claim == id {
					c.Routers = append(c.Routers, n)
				}
			}
		}
		if len(c.Routers) > 0 {
			out = append(out, c)
		}
	}
	return out
}

func freeOf(l []api.Claim) []api.Claim {
	return slices.DeleteFunc(cloned(l), func(c api.Claim) bool { return len(c.Routers) != 1 })
}

// numbersIn are all of these, rising, each once.
func numbersIn(l []int) []int {
	var out []int
	for _, n := range l {
		if at, there := slices.BinarySearch(out, n); !there {
			out = slices.Insert(out, at, n)
		}
	}
	return out
}

func idsOf(l []api.Claim, routers []int) (ids, without []int) {
	for _, n := range numbersIn(routers) {
		has := false
		for _, c := range freeOf(l) {
			if c.Routers[0] == n {
				ids, has = append(ids, c.Id), true
			}
		}
		if !has {
			without = append(without, n)
		}
	}
	return numbersIn(ids), without
}

// wanted is a number, or a conflict's claim, or a fault's code.
type wanted struct {
	n        int
	conflict *api.Claim
	code     api.Errno
}

func ownerOf(l []api.Claim, id int) wanted {
	if id < 1 || id > 1024 {
		return wanted{code: api.ErrArg}
	}
	at := slices.IndexFunc(l, func(c api.Claim) bool { return c.Id == id })
	if at < 0 || len(l[at].Routers) == 0 {
		return wanted{code: api.ErrNone}
	}
	if len(l[at].Routers) > 1 {
		return wanted{conflict: &l[at]}
	}
	return wanted{n: l[at].Routers[0]}
}

func mineOf(l []api.Claim, self int) wanted {
	own := slices.DeleteFunc(cloned(l), func(c api.Claim) bool { return !slices.Contains(c.Routers, self) })
	slices.SortStableFunc(own, func(a, b api.Claim) int {
		if a.Id < b.Id {
			return -1
		}
		if a.Id > b.Id {
			return 1
		}
		return 0
	})
	if len(own) == 0 {
		return wanted{}
	}
	if len(own[0].Routers) > 1 {
		return wanted{conflict: &own[0]}
	}
	return wanted{n: own[0].Id}
}

// isAlone: does errors.Is find this number in err, and of all others none?
func isAlone(err error, code api.Errno) bool {
	for e := api.Errno(-1); e <= api.ErrLine+2; e++ {
		if errors.Is(err, e) != (e == code) {
			return false
		}
	}
	return true
}

func isFault(err error, code api.Errno) bool {
	var f *api.Fault
	var c *api.Conflict
	return errors.As(err, &f) && *f == api.Fault{Code: code, At: 0} && !errors.As(err, &c) && isAlone(err, code)
}

func isConflict(err error, with api.Claim) bool {
	var f *api.Fault
	var c *api.Conflict
	return errors.As(err, &c) && like(api.Claim(*c), with) && !errors.As(err, &f) && isAlone(err, api.ErrBitConflict)
}

// isWrapped: a conflict or a fault stands in a wrapper, not bare.
func isWrapped(err error) bool {
	_, conflict := err.(*api.Conflict)
	_, fault := err.(*api.Fault)
	_, number := err.(api.Errno)
	return !conflict && !fault && !number && errors.Unwrap(err) != nil && err.Error() != ""
}

func is(w wanted, n int, err error) bool {
	switch {
	case w.conflict != nil:
		return n == 0 && isConflict(err, *w.conflict) && isWrapped(err)
	case w.code != api.OK:
		return n == 0 && isFault(err, w.code) && isWrapped(err)
	}
	return n == w.n && err == nil
}

func wantClaims(t *testing.T, l []api.Record, want []api.Claim) {
	t.Helper()
	if c, e := claim.All(l); !alike(c, want) || e != api.OK {
		t.Fatalf("All(%v) = %v, %d; it should be %v", l, c, e, want)
	}
}

func wantNoClaims(t *testing.T, l []api.Record) {
	t.Helper()
	if c, e := claim.All(l); len(c) != 0 || e != api.ErrArg {
		t.Fatalf("All(%v) = %v, %d", l, c, e)
	}
}

func wantOwner(t *testing.T, l []api.Claim, id int) {
	t.Helper()
	if n, err := claim.Owner(l, id); !is(ownerOf(l, id), n, err) {
		t.Fatalf("Owner(%v, %d) = %d, %v; it should be %v", l, id, n, err, ownerOf(l, id))
	}
}

func wantMine(t *testing.T, l []api.Claim, self int) {
	t.Helper()
	if id, err := claim.Mine(l, self); !is(mineOf(l, self), id, err) {
		t.Fatalf("Mine(%v, %d) = %d, %v; it should be %v", l, self, id, err, mineOf(l, self))
	}
}

func wantFree(t *testing.T, l []api.Claim) {
	t.Helper()
	if f := claim.Free(l); !alike(f, freeOf(l)) {
		t.Fatalf("Free(%v) = %v", l, f)
	}
}

func wantIds(t *testing.T, l []api.Claim, routers []int) {
	t.Helper()
	ids, without := claim.Ids(l, routers)
	if i, w := idsOf(l, routers); !slices.Equal(ids, i) || !slices.Equal(without, w) {
		t.Fatalf("Ids(%v, %v) = %v, %v; it should be %v, %v", l, routers, ids, without, i, w)
	}
}

// noRecords may not be: one thing is wrong with each of them.
func noRecords() []api.Record {
	l := []api.Record{{}, {Origin: 1, Claim: 5}, {Origin: 24, Seq: 1, Claim: 5}, {Origin: 24, Epoch: 1, Claim: 5}}
	for _, n := range noRouters {
		l = append(l, rec(n, 5), rec(n, 0))
		l = append(l, api.Record{Origin: 2, Epoch: 1, Seq: 1, Claim: 5, Adjs: []api.Adj{{To: n, Cost: 1}}})
	}
	for _, n := range noIds {
		if n != 0 {
			l = append(l, rec(3, n), rec(24, n))
		}
	}
	for _, adjs := range [][]api.Adj{
		{{To: 3, Cost: 1}, {To: 2, Cost: 1}}, {{To: 2, Cost: 1}, {To: 2, Cost: 1}}, {{To: 5, Cost: 1}},
		{{To: 2, Cost: 0}}, {{To: 2, Cost: -1}}, {{To: 2, Cost: 1001}}, make([]api.Adj, 17), make([]api.Adj, 1<<16),
	} {
		l = append(l, api.Record{Origin: 5, Epoch: 1, Seq: 1, Claim: 5, Adjs: adjs}, api.Record{Origin: 5, Epoch: 1, Seq: 1, Adjs: adjs})
	}
	return l
}

// P11.1

func TestAllOfTheExamples(t *testing.T) {
	wantClaims(t, recs("1: 5, 2: 7, 3: 5, 4: 0"), examples())
	wantNoClaims(t, recs("1: 5, 1: 6"))
	wantNoClaims(t, recs("0: 1"))
}

func TestAllOfNone(t *testing.T) {
	wantClaims(t, nil, nil)
	wantClaims(t, []api.Record{}, nil)
	var l []api.Record
	for n := 1; n <= 24; n++ {
		wantClaims(t, []api.Record{rec(n, 0)}, nil)
		l = append(l, rec(n, 0))
		wantClaims(t, l, nil)
	}
}

func TestAllOfOne(t *testing.T) {
	for n := 1; n <= 24; n++ {
		for id := 1; id <= 1024; id++ {
			wantClaims(t, []api.Record{rec(n, id)}, []api.Claim{{Id: id, Routers: []int{n}}})
		}
	}
}

func TestAllOfEachTwo(t *testing.T) {
	for a := 1; a <= 24; a++ {
		for b := a + 1; b <= 24; b++ {
			for _, id := range []int{1, 5, 512, 1024} {
				both := []api.Claim{{Id: id, Routers: []int{a, b}}}
				wantClaims(t, []api.Record{rec(a, id), rec(b, id)}, both)
				wantClaims(t, []api.Record{rec(b, id), rec(a, id)}, both)
				alone := []api.Claim{{Id: id, Routers: []int{b}}}
				wantClaims(t, []api.Record{rec(a, 0), rec(b, id)}, alone)
				wantClaims(t, []api.Record{rec(b, id), rec(a, 0)}, alone)
			}
		}
	}
}

func TestAllOfEachTwoIds(t *testing.T) {
	for _, less := range someIds {
		for _, more := range someIds {
			if less < more {
				want := []api.Claim{{Id: less, Routers: []int{24}}, {Id: more, Routers: []int{1}}}
				wantClaims(t, []api.Record{rec(1, more), rec(24, less)}, want)
				wantClaims(t, []api.Record{rec(24, less), rec(1, more)}, want)
			}
		}
	}
}

func TestAllOfAllRouters(t *testing.T) {
	for _, idOf := range []func(n int) int{
		func(n int) int { return 1 },
		func(n int) int { return 1024 },
		func(n int) int { return n },
		func(n int) int { return 25 - n },
		func(n int) int { return 1025 - n },
		func(n int) int { return n * 40 },
		func(n int) int { return n % 2 * 1024 },
		func(n int) int { return 1 + n%2*1023 },
		func(n int) int { return 1 + n/2 },
		func(n int) int { return n * 7 % 10 },
	} {
		var l []api.Record
		for n := 1; n <= 24; n++ {
			l = append(l, rec(n, idOf(n)))
		}
		wantClaims(t, l, claimsOf(l))
		slices.Reverse(l)
		wantClaims(t, l, claimsOf(l))
	}
}

// All rows of claims of four routers over few ids, the least and the greatest among them.
func TestAllOfFourRouters(t *testing.T) {
	eachRow([]int{0, 1, 2, 1024}, 4, func(ids []int) {
		var l []api.Record
		for i, id := range ids {
			l = append(l, rec([]int{1, 24, 7, 2}[i], id))
		}
		wantClaims(t, l, claimsOf(l))
	})
}

func TestAllOfMadeUpRecords(t *testing.T) {
	var d dice = 11
	for round := range 400 {
		l := d.records([]int{2, 5, 12, 100, 1024}[round%5])
		wantClaims(t, l, claimsOf(l))
	}
}

// What else a record says has no part in it.
func TestAllLooksAtClaimsAlone(t *testing.T) {
	const top = math.MaxUint32
	adjs := []api.Adj{{To: 1, Cost: 1}, {To: 3, Cost: 1000}, {To: 24, Cost: 5}}
	for _, r := range []api.Record{
		{Epoch: top, Seq: top}, {Epoch: 1, Seq: top}, {Epoch: top, Seq: 1}, {Epoch: 1, Seq: 1, Ingress: true},
		{Epoch: 1, Seq: 1, Adjs: adjs}, {Epoch: 2, Seq: 3, Ingress: true, Adjs: adjs[:1]}, {Epoch: 1, Seq: 1, Adjs: []api.Adj{}},
	} {
		r.Origin, r.Claim = 2, 7
		wantClaims(t, []api.Record{rec(3, 5), r, rec(1, 5)}, examples())
		r.Claim = 5
		wantClaims(t, []api.Record{rec(3, 5), r, rec(1, 5)}, claims("5: 1 2 3"))
		r.Claim = 0
		wantClaims(t, []api.Record{rec(3, 5), r, rec(1, 5)}, claims("5: 1 3"))
	}
}

func TestAllRefusesRecords(t *testing.T) {
	for _, wrong := range noRecords() {
		wantNoClaims(t, []api.Record{wrong})
		right := []api.Record{rec(10, 5), rec(11, 0), rec(12, 6)}
		for at := range 4 {
			wantNoClaims(t, slices.Insert(slices.Clone(right), at, wrong))
		}
	}
}

func TestAllRefusesAnOriginTwice(t *testing.T) {
	for n := 1; n <= 24; n++ {
		for _, two := range [][2]int{{5, 5}, {5, 6}, {6, 5}, {0, 5}, {5, 0}, {0, 0}, {1, 1024}} {
			a, b := rec(n, two[0]), rec(n, two[1])
			wantNoClaims(t, []api.Record{a, b})
			b.Epoch, b.Seq = 2, 9
			wantNoClaims(t, []api.Record{a, b})
			wantNoClaims(t, []api.Record{b, a})
			between := rec(n%24+1, 5)
			wantNoClaims(t, []api.Record{a, between, b})
			wantNoClaims(t, []api.Record{between, a, b})
			wantNoClaims(t, []api.Record{a, b, between})
		}
	}
}

func TestAllOfMoreThanThereAreRouters(t *testing.T) {
	var l []api.Record
	for n := 1; n <= 24; n++ {
		l = append(l, rec(n, n))
	}
	wantClaims(t, l, claimsOf(l))
	for n := 0; n <= 25; n++ {
		wantNoClaims(t, append(slices.Clone(l), rec(n, 0)))
		wantNoClaims(t, append([]api.Record{rec(n, n)}, l...))
	}
	wantNoClaims(t, make([]api.Record, 1<<16))
}

// P11.2

func TestOwnerOfTheExamples(t *testing.T) {
	l := examples()
	if n, err := claim.Owner(l, 7); n != 2 || err != nil {
		t.Errorf("Owner of 7 = %d, %v", n, err)
	}
	if n, err := claim.Owner(l, 5); n != 0 || !isConflict(err, l[0]) {
		t.Errorf("Owner of 5 = %d, %v", n, err)
	}
	if n, err := claim.Owner(l, 9); n != 0 || !isFault(err, api.ErrNone) {
		t.Errorf("Owner of 9 = %d, %v", n, err)
	}
	if n, err := claim.Owner(l, 0); n != 0 || !isFault(err, api.ErrArg) {
		t.Errorf("Owner of 0 = %d, %v", n, err)
	}
}

// That it is no id comes ahead of all else, whatever the list has of it.
func TestOwnerOfWhatIsNoId(t *testing.T) {
	for _, id := range noIds {
		for _, routers := range [][]int{nil, {1}, {1, 2}} {
			for _, l := range [][]api.Claim{nil, {}, examples(), {{Id: id, Routers: routers}}, append(examples(), api.Claim{Id: id, Routers: routers})} {
				if n, err := claim.Owner(l, id); n != 0 || !isFault(err, api.ErrArg) || !isWrapped(err) {
					t.Fatalf("Owner(%v, %d) = %d, %v", l, id, n, err)
				}
			}
		}
	}
}

func TestOwnerOfEachId(t *testing.T) {
	var l []api.Claim
	for id := 1; id <= 1024; id++ {
		l = append(l, api.Claim{Id: id, Routers: []int{id%24 + 1, id%7 + 1, id%5 + 1}[:id%4]})
	}
	for id := -1; id <= 1026; id++ {
		wantOwner(t, l, id)
		wantOwner(t, nil, id)
		wantOwner(t, l[:500], id)
	}
	slices.Reverse(l)
	for id := -1; id <= 1026; id++ {
		wantOwner(t, l, id)
	}
}

func TestOwnerOfAnIdWithoutAClaim(t *testing.T) {
	for _, l := range [][]api.Claim{nil, {}, examples(), claims("5:"), claims("5:, 5: 1"), claims("5:, 5: 1 2"), {{Id: 5, Routers: []int{}}}} {
		for _, id := range []int{1, 4, 6, 8, 1023, 1024} {
			if n, err := claim.Owner(l, id); n != 0 || !isFault(err, api.ErrNone) || !isWrapped(err) {
				t.Fatalf("Owner(%v, %d) = %d, %v", l, id, n, err)
			}
		}
	}
	for _, l := range [][]api.Claim{claims("5:"), claims("5:, 5: 1"), claims("5:, 5: 1 2"), claims("4: 2, 5:"), {{Id: 5, Routers: []int{}}}} {
		if n, err := claim.Owner(l, 5); n != 0 || !isFault(err, api.ErrNone) {
			t.Fatalf("Owner(%v, 5) = %d, %v", l, n, err)
		}
	}
}

func TestOwnerGoesByTheFirstClaimOfTheId(t *testing.T) {
	two := []string{"", "1", "2", "1 2", "2 1", "3 3"}
	for _, first := range two {
		for _, second := range two {
			l := claims("4: 9, 5: " + first + ", 6: 8, 5: " + second)
			wantOwner(t, l, 5)
			alone := l[:2]
			n, err := claim.Owner(l, 5)
			if !is(ownerOf(alone, 5), n, err) {
				t.Fatalf("Owner(%v, 5) = %d, %v, as if the second one counted", l, n, err)
			}
		}
	}
}

// Its routers are told as they stand: in their order, as often as they stand there, whatever numbers they are.
func TestConflictsAreToldAsTheyStand(t *testing.T) {
	for _, routers := range [][]int{
		{1, 2}, {2, 1}, {3, 1, 2}, {1, 24}, {24, 1}, {1, 1}, {2, 1, 2}, {7, 7, 7}, {0, 0}, {0, 1}, {-1, 25},
		{math.MaxInt, math.MinInt}, {5, 4, 3, 2, 1}, far, make([]int, 1000),
	} {
		l := []api.Claim{{Id: 4, Routers: []int{1}}, {Id: 5, Routers: routers}}
		if n, err := claim.Owner(l, 5); n != 0 || !isConflict(err, l[1]) || !isWrapped(err) {
			t.Errorf("Owner of %v = %d, %v", routers, n, err)
		}
		if id, err := claim.Mine(l[1:], routers[len(routers)-1]); id != 0 || !isConflict(err, l[1]) || !isWrapped(err) {
			t.Errorf("Mine of %v = %d, %v", routers, id, err)
		}
	}
}

func TestOwnerThatIsNoRouter(t *testing.T) {
	for _, n := range noRouters {
		l := []api.Claim{{Id: 5, Routers: []int{n}}}
		if got, err := claim.Owner(l, 5); got != n || err != nil {
			t.Errorf("Owner(%v, 5) = %d, %v", l, got, err)
		}
	}
}

// That an error says who claims the id, its text does too.
func TestTextsOfErrors(t *testing.T) {
	_, err := claim.Owner(claims("5: 1 3 24"), 5)
	if text := err.Error(); text != "dandelion: 11 of 5 by 1 3 24" {
		t.Errorf("a conflict's text is %q", text)
	}
	if _, err = claim.Mine(claims("-5: -1 0"), 0); err.Error() != "dandelion: 11 of -5 by -1 0" {
		t.Errorf("a conflict's text is %q", err.Error())
	}
	if _, err = claim.Owner(nil, 5); err.Error() != "dandelion: 6" {
		t.Errorf("a fault's text is %q", err.Error())
	}
	if _, err = claim.Owner(nil, 0); err.Error() != "dandelion: 2" {
		t.Errorf("a fault's text is %q", err.Error())
	}
}

// P11.3

func TestMineOfTheExamples(t *testing.T) {
	l := examples()
	for self, want := range map[int]int{2: 7, 4: 0, 99: 0} {
		if id, err := claim.Mine(l, self); id != want || err != nil {
			t.Errorf("Mine of %d = %d, %v", self, id, err)
		}
	}
	for _, self := range []int{1, 3} {
		if id, err := claim.Mine(l, self); id != 0 || !isConflict(err, l[0]) {
			t.Errorf("Mine of %d = %d, %v", self, id, err)
		}
	}
}

func TestMineOfNone(t *testing.T) {
	for _, l := range [][]api.Claim{nil, {}, claims("5:"), claims("0:"), {{Id: 5, Routers: []int{}}}, claims("5: 2, 6: 2 3")} {
		for _, self := range append([]int{1, 4, 24}, noRouters...) {
			if id, err := claim.Mine(l, self); id != 0 || err != nil {
				t.Errorf("Mine(%v, %d) = %d, %v", l, self, id, err)
			}
		}
	}
}

func TestMineIsTheOneOfTheLeastId(t *testing.T) {
	for _, x := range []struct {
		l    string
		id   int
		with string
	}{
		{"9: 1 2, 4: 1", 4, ""},
		{"4: 1, 9: 1 2", 4, ""},
		{"4: 1 2, 9: 1", 0, "4: 1 2"},
		{"9: 1, 4: 2 1", 0, "4: 2 1"},
		{"3: 2, 2: 3, 1: 4 5, 9: 1, 8: 1, 10: 1", 8, ""},
		{"5: 1, 5: 1 2", 5, ""},
		{"5: 1 2, 5: 1", 0, "5: 1 2"},
		{"5: 2 1, 5: 1 2", 0, "5: 2 1"},
		{"5: 1 3, 5: 1 2, 6: 1", 0, "5: 1 3"},
		{"5:, 5: 2, 5: 1", 5, ""},
		{"6: 1, 5: 2 3, 5: 3 1", 0, "5: 3 1"},
		{"1024: 1, 1: 1", 1, ""},
		{"1: 1, 0: 1", 0, ""},
		{"1: 1, 0: 1 2", 0, "0: 1 2"},
		{"1: 1, -1: 1, 0: 1 2", -1, ""},
		{"-1: 1, -2: 1 1", 0, "-2: 1 1"},
		{"1025: 1", 1025, ""},
		{"7: 1 1", 0, "7: 1 1"},
		{"9223372036854775807: 1", math.MaxInt, ""},
		{"9223372036854775807: 1, -9223372036854775808: 1", math.MinInt, ""},
		{"-9223372036854775808: 1, 0: 1, 9223372036854775807: 1", math.MinInt, ""},
	} {
		l := claims(x.l)
		id, err := claim.Mine(l, 1)
		right := id == x.id && err == nil
		if x.with != "" {
			right = id == 0 && isConflict(err, claims(x.with)[0])
		}
		if !right {
			t.Errorf("Mine(%s, 1) = %d, %v", x.l, id, err)
		}
		wantMine(t, l, 1)
	}
}

func TestMineOfWhatIsNoRouter(t *testing.T) {
	for _, n := range noRouters {
		l := []api.Claim{{Id: 4, Routers: []int{1}}, {Id: 5, Routers: []int{n}}, {Id: 6, Routers: []int{n, 1}}}
		if id, err := claim.Mine(l, n); id != 5 || err != nil {
			t.Errorf("Mine(%v, %d) = %d, %v", l, n, id, err)
		}
		if id, err := claim.Mine(l[2:], n); id != 0 || !isConflict(err, l[2]) {
			t.Errorf("Mine(%v, %d) = %d, %v", l[2:], n, id, err)
		}
		if id, err := claim.Mine(l[:1], n); id != 0 || err != nil {
			t.Errorf("Mine(%v, %d) = %d, %v", l[:1], n, id, err)
		}
	}
}

func TestMineWhereverItStands(t *testing.T) {
	all := ints("1 2 3 4 5 6 7 8 9 10 11 12 13 14 15 16 17 18 19 20 21 22 23 24")
	l := []api.Claim{{Id: 1024, Routers: all}}
	for self := -1; self <= 26; self++ {
		wantMine(t, l, self)
	}
	var each []api.Claim
	for _, n := range all {
		each = append(each, api.Claim{Id: 1025 - n, Routers: []int{n}})
	}
	for self := -1; self <= 26; self++ {
		wantMine(t, each, self)
	}
}

// P11.4

func TestFreeAndIdsOfTheExamples(t *testing.T) {
	if f := claim.Free(examples()); !alike(f, claims("7: 2")) {
		t.Errorf("Free = %v", f)
	}
	if ids, without := claim.Ids(examples(), ints("2 1 2 9")); !slices.Equal(ids, ints("7")) || !slices.Equal(without, ints("1 9")) {
		t.Errorf("Ids = %v, %v", ids, without)
	}
}

func TestFree(t *testing.T) {
	for _, x := range [][2]string{
		{"", ""},
		{"5:", ""},
		{"5: 1", "5: 1"},
		{"5: 1 2", ""},
		{"5: 1 1", ""},
		{"9: 1, 4: 2, 7: 3", "9: 1, 4: 2, 7: 3"},
		{"9: 1, 4:, 8: 2 3, 7: 3, 4: 4", "9: 1, 7: 3, 4: 4"},
		{"5: 1, 5: 1, 5: 2", "5: 1, 5: 1, 5: 2"},
		{"5: 1 2, 5: 3, 5:", "5: 3"},
		{"0: 0, -1: 25, 1025: -7, 5: 1", "0: 0, -1: 25, 1025: -7, 5: 1"},
	} {
		if f := claim.Free(claims(x[0])); !alike(f, claims(x[1])) {
			t.Errorf("Free(%s) = %v", x[0], f)
		}
		wantFree(t, claims(x[0]))
	}
	if f := claim.Free([]api.Claim{{Id: 5, Routers: []int{}}}); len(f) != 0 {
		t.Errorf("Free of a claim without routers = %v", f)
	}
}

func TestIds(t *testing.T) {
	for _, x := range [][4]string{
		{"", "", "", ""},
		{"", "3 1 3", "", "1 3"},
		{"5: 1, 7: 2", "", "", ""},
		{"5: 1, 7: 2", "1 2", "5 7", ""},
		{"7: 1, 5: 2", "1 2", "5 7", ""},
		{"7: 1, 5: 2", "2 2 2", "5", ""},
		{"9: 1, 4: 1, 6: 1", "1", "4 6 9", ""},
		{"5: 1, 5: 2", "2 1", "5", ""},
		{"5: 1, 5: 1", "1", "5", ""},
		{"5: 1, 5: 2", "2", "5", ""},
		{"5: 1 2, 6: 1", "2 1", "6", "2"},
		{"5: 1 1", "1", "", "1"},
		{"5:", "1", "", "1"},
		{"5: 1 2, 5: 3", "3 2 1", "5", "1 2"},
		{"1024: 24, 1: 1", "24 1 12", "1 1024", "12"},
		{"5: 1", "25 0 -1 99 1 -1 25", "5", "-1 0 25 99"},
		{"0: 1, -3: 2, 1025: 3, 4: 25", "25 3 2 1", "-3 0 4 1025", ""},
		{"5: 0", "0", "5", ""},
		{"5: 0", "1", "", "1"},
		{"0: 1", "1 2", "0", "2"},
	} {
		l, routers := claims(x[0]), ints(x[1])
		ids, without := claim.Ids(l, routers)
		if !slices.Equal(ids, ints(x[2])) || !slices.Equal(without, ints(x[3])) {
			t.Errorf("Ids(%s, %s) = %v, %v", x[0], x[1], ids, without)
		}
		wantIds(t, l, routers)
	}
}

func TestIdsOfFarNumbers(t *testing.T) {
	var l []api.Claim
	for i, n := range far {
		l = append(l, api.Claim{Id: n, Routers: []int{far[len(far)-1-i]}})
	}
	for at := range far {
		wantIds(t, l, far[at:])
		wantIds(t, l[at:], far)
		wantIds(t, l[:at], append(slices.Clone(far), noRouters...))
		wantMine(t, l, far[at])
	}
	wantFree(t, l)
}

func TestIdsOfAllRouters(t *testing.T) {
	var l []api.Claim
	var routers []int
	for n := 24; n >= 1; n-- {
		l = append(l, api.Claim{Id: n * 40, Routers: []int{n}})
		routers = append(routers, n)
		wantIds(t, l, routers)
		wantIds(t, l, routers[:len(routers)/2])
		wantIds(t, l[:len(l)/2], routers)
	}
	both := append(slices.Clone(routers), routers...)
	wantIds(t, l, both)
	wantIds(t, append(slices.Clone(l), l...), both)
}

// All rows of at most three claims of few numbers, with all rows of routers.
func TestAllShortListsOfClaims(t *testing.T) {
	var of []api.Claim
	for _, id := range []int{0, 1, 2} {
		for _, text := range []string{"", "1", "2", "1 1", "1 2", "2 1"} {
			of = append(of, api.Claim{Id: id, Routers: ints(text)})
		}
	}
	var rows [][]int
	eachRow(ints("2 1 3"), 3, func(l []int) { rows = append(rows, l) })
	eachRow(of, 3, func(l []api.Claim) {
		wantFree(t, l)
		for n := range 4 {
			wantOwner(t, l, n)
			wantMine(t, l, n)
		}
		if len(l) < 3 {
			for _, routers := range rows {
				wantIds(t, l, routers)
			}
		}
	})
}

func TestMadeUpListsOfClaims(t *testing.T) {
	var d dice = 42
	for round := range 3000 {
		l := d.claims(d.below(12), 2+round%9, 3+round%25)
		wantFree(t, l)
		for range 4 {
			n := d.below(30) - 2
			wantOwner(t, l, n)
			wantMine(t, l, n)
			var routers []int
			for range d.below(9) {
				routers = append(routers, d.below(30)-2)
			}
			wantIds(t, l, routers)
		}
	}
}

func TestLongListsOfClaims(t *testing.T) {
	const many = 1 << 17
	l, routers := make([]api.Claim, many), make([]int, many)
	for i := range l {
		l[i] = api.Claim{Id: many - i, Routers: []int{i}}
		routers[i] = many - i
	}
	ids, without := claim.Ids(l, routers)
	// The router many has no claim; the claim many is of the router 0, which is not asked for.
	if len(ids) != many-1 || ids[0] != 1 || ids[many-2] != many-1 || !slices.Equal(without, []int{many}) {
		t.Errorf("Ids of many: %d ids, without %v", len(ids), without)
	}
	if f := claim.Free(l); len(f) != many {
		t.Errorf("Free of many: %d", len(f))
	}
	if id, err := claim.Mine(l, many-1); id != 1 || err != nil {
		t.Errorf("Mine of many = %d, %v", id, err)
	}
	if n, err := claim.Owner(l, 1); n != many-1 || err != nil {
		t.Errorf("Owner of many = %d, %v", n, err)
	}
	all := []api.Claim{{Id: 5, Routers: routers}}
	if n, err := claim.Owner(all, 5); n != 0 || !isConflict(err, all[0]) {
		t.Errorf("Owner of one that many claim = %d", n)
	}
}

// P11.5

// wantWhatFollows looks through what records claim, router by router and id by id.
func wantWhatFollows(t *testing.T, l []api.Record) {
	t.Helper()
	all, e := claim.All(l)
	if e != api.OK {
		t.Fatalf("All(%v) = %d", l, e)
	}
	free := claim.Free(all)
	by := map[int][]int{}
	for n := 1; n <= 24; n++ {
		for _, r := range l {
			if r.Origin == n && r.Claim != 0 {
				by[r.Claim] = append(by[r.Claim], n)
			}
		}
	}
	if len(all) != len(by) {
		t.Fatalf("All(%v) = %v: %d ids are claimed", l, all, len(by))
	}
	for id, routers := range by {
		at := slices.IndexFunc(all, func(c api.Claim) bool { return c.Id == id })
		if at < 0 || !slices.Equal(all[at].Routers, routers) {
			t.Fatalf("All(%v) = %v: %d is claimed by %v", l, all, id, routers)
		}
		inFree := slices.ContainsFunc(free, func(c api.Claim) bool { return c.Id == id })
		n, err := claim.Owner(all, id)
		if len(routers) > 1 && (n != 0 || inFree || !isConflict(err, api.Claim{Id: id, Routers: routers})) {
			t.Fatalf("%v: Owner of %d, which %v claim, = %d, %v; Free = %v", l, id, routers, n, err, free)
		}
		if len(routers) == 1 && (n != routers[0] || !inFree || err != nil) {
			t.Fatalf("%v: Owner of %d, which %v claims, = %d, %v; Free = %v", l, id, routers, n, err, free)
		}
		for _, self := range routers {
			mine, err := claim.Mine(all, self)
			ids, without := claim.Ids(all, []int{self})
			if len(routers) == 1 && (mine != id || err != nil || !slices.Equal(ids, []int{id}) || len(without) != 0) {
				t.Fatalf("%v: Mine of %d = %d, %v; Ids = %v, %v", l, self, mine, err, ids, without)
			}
			if len(routers) > 1 && (mine != 0 || !isConflict(err, api.Claim{Id: id, Routers: routers}) || len(ids) != 0 || !slices.Equal(without, []int{self})) {
				t.Fatalf("%v: Mine of %d = %d, %v; Ids = %v, %v", l, self, mine, err, ids, without)
			}
		}
	}
	for _, r := range l {
		if id, err := claim.Mine(all, r.Origin); r.Claim == 0 && (id != 0 || err != nil) {
			t.Fatalf("%v: Mine of %d, who claims nothing, = %d, %v", l, r.Origin, id, err)
		}
	}
}

func TestWhatFollowsOfFewRouters(t *testing.T) {
	eachRow([]int{0, 1, 5, 1024}, 4, func(ids []int) {
		var l []api.Record
		for i, id := range ids {
			l = append(l, rec([]int{24, 1, 3, 2}[i], id))
		}
		wantWhatFollows(t, l)
	})
}

func TestWhatFollowsOfMadeUpRecords(t *testing.T) {
	var d dice = 115
	for round := range 500 {
		wantWhatFollows(t, d.records([]int{1, 3, 12, 24, 1024}[round%5]))
	}
}

// P11.6

func TestNoOrderOfRecordsIsSeen(t *testing.T) {
	for _, text := range []string{"1: 5, 2: 7, 3: 5, 4: 0", "1: 1024, 24: 1, 2: 1, 23: 1024, 12: 1", "5: 1, 4: 2, 3: 3, 2: 4, 1: 5", "1: 9, 2: 9, 3: 9, 4: 9, 5: 9", "1: 0, 2: 0, 3: 1"} {
		l := recs(text)
		want := claimsOf(l)
		eachOrder(l, func(l []api.Record) { wantClaims(t, l, want) })
	}
	var d dice = 116
	for range 100 {
		l := d.records(10)
		want, _ := claim.All(l)
		for range 5 {
			wantClaims(t, shuffled(&d, l), want)
		}
	}
}

func TestOneRecordMore(t *testing.T) {
	var d dice = 117
	for round := range 300 {
		l := d.records([]int{2, 10, 40}[round%3])
		left := 0
		for n := 1; n <= 24; n++ {
			if !slices.ContainsFunc(l, func(r api.Record) bool { return r.Origin == n }) {
				left = n
			}
		}
		if left == 0 {
			continue
		}
		was, _ := claim.All(l)
		at := d.below(len(l) + 1)
		wantClaims(t, slices.Insert(slices.Clone(l), at, rec(left, 0)), was)
		for _, id := range append([]int{1, 2, 3, 41, 1024}, someIds...) {
			more, e := claim.All(slices.Insert(slices.Clone(l), at, rec(left, id)))
			others := slices.DeleteFunc(cloned(more), func(c api.Claim) bool { return c.Id == id })
			before := slices.DeleteFunc(cloned(was), func(c api.Claim) bool { return c.Id == id })
			if e != api.OK || !alike(others, before) {
				t.Fatalf("%v, and %d claims %d: %v was, %v is, %d", l, left, id, was, more, e)
			}
			taken := slices.ContainsFunc(was, func(c api.Claim) bool { return c.Id == id })
			n, err := claim.Owner(more, id)
			if !taken && (len(more) != len(was)+1 || n != left || err != nil) {
				t.Fatalf("%v, and %d claims %d: Owner = %d, %v", l, left, id, n, err)
			}
			if taken && (len(more) != len(was) || n != 0 || !errors.Is(err, api.ErrBitConflict)) {
				t.Fatalf("%v, and %d claims %d too: Owner = %d, %v", l, left, id, n, err)
			}
		}
	}
}

// Two claim one id, and no more once one of them is gone.
func TestAConflictGoes(t *testing.T) {
	both := recs("1: 2, 2: 2, 3: 7")
	wantClaims(t, both, claims("2: 1 2, 7: 3"))
	wantClaims(t, both[1:], claims("2: 2, 7: 3"))
	wantClaims(t, []api.Record{both[0], both[2]}, claims("2: 1, 7: 3"))
}

// R5: what is handed in stays as it was, the room behind its ends too.

const behind = -77

// roomy has room behind its end, filled.
func roomy(l []int) []int {
	out := append(slices.Clone(l), behind, behind, behind)
	return out[:len(l)]
}

func roomyClaims(l []api.Claim) []api.Claim {
	l = cloned(l)
	for i := range l {
		l[i].Routers = roomy(l[i].Routers)
	}
	n := len(l)
	return append(l, api.Claim{Id: behind}, api.Claim{Id: behind})[:n]
}

func roomyRecords(l []api.Record) []api.Record {
	l = slices.Clone(l)
	for i := range l {
		l[i].Adjs = append(slices.Clone(l[i].Adjs), api.Adj{To: behind})[:len(l[i].Adjs)]
	}
	n := len(l)
	return append(l, api.Record{Origin: behind}, api.Record{Origin: behind})[:n]
}

func wholeInts(l []int) []int { return slices.Clone(l[:len(l)+3]) }

func wholeClaims(l []api.Claim) []api.Claim {
	out := slices.Clone(l[:len(l)+2])
	for i := range l {
		out[i].Routers = wholeInts(out[i].Routers)
	}
	return out
}

func wholeRecords(l []api.Record) []api.Record {
	out := slices.Clone(l[:len(l)+2])
	for i := range l {
		out[i].Adjs = slices.Clone(out[i].Adjs[:len(out[i].Adjs)+1])
	}
	return out
}

func TestWhatIsHandedInStays(t *testing.T) {
	var d dice = 5
	for range 200 {
		l := roomyRecords(d.records(8))
		for i := range l {
			if l[i].Origin != 1 {
				l[i].Adjs = append(l[i].Adjs[:0], api.Adj{To: 1, Cost: 9})
				l[i].Adjs = append(l[i].Adjs, api.Adj{To: behind})[:1]
			}
		}
		was := wholeRecords(l)
		claim.All(l)
		claim.All(append(slices.Clone(l), api.Record{}))
		if !reflect.DeepEqual(wholeRecords(l), was) {
			t.Fatalf("All changed %v to %v", was, l)
		}
		c, routers := roomyClaims(d.claims(d.below(9), 5, 6)), roomy(shuffled(&d, ints("4 3 3 2 1 -1 9")))
		wasClaims, wasRouters := wholeClaims(c), wholeInts(routers)
		for n := -1; n < 6; n++ {
			claim.Owner(c, n)
			claim.Mine(c, n)
		}
		claim.Free(c)
		claim.Ids(c, routers)
		if !reflect.DeepEqual(wholeClaims(c), wasClaims) || !slices.Equal(wholeInts(routers), wasRouters) {
			t.Fatalf("%v, %v were changed to %v, %v", wasClaims, wasRouters, c, routers)
		}
	}
}

// scrawl writes over a list, and over the room behind its end.
func scrawl(l []int) {
	l = l[:cap(l)]
	for i := range l {
		l[i] = -7
	}
}

// scrawlOneByOne writes over a list of claims, and looks whether one of them is in another one's lists.
func scrawlOneByOne(t *testing.T, name string, l []api.Claim) {
	t.Helper()
	for i := range l {
		rest := cloned(l[i+1:])
		scrawl(l[i].Routers)
		if !alike(l[i+1:], rest) {
			t.Fatalf("%s: the lists of one answer are shared", name)
		}
	}
	l = l[:cap(l)]
	for i := range l {
		l[i] = api.Claim{Id: -7}
	}
}

func TestWhatIsAnsweredIsNew(t *testing.T) {
	records := recs("9: 3, 1: 5, 2: 7, 3: 5, 4: 0, 8: 3, 7: 1024")
	want := claimsOf(records)
	for range 2 {
		all, _ := claim.All(records)
		second, _ := claim.All(records)
		scrawlOneByOne(t, "All", all)
		if !alike(second, want) {
			t.Fatal("two answers of All are shared")
		}
		wantClaims(t, records, want)
	}
	l := claims("5: 1 3, 7: 2, 9: 4, 4: 2, 3:")
	was := cloned(l)
	for range 2 {
		free, second := claim.Free(l), claim.Free(l)
		scrawlOneByOne(t, "Free", free)
		if !alike(second, freeOf(was)) || !alike(l, was) {
			t.Fatal("Free shares what it answers")
		}
		routers := ints("2 4 1 9")
		ids, without := claim.Ids(l, routers)
		scrawl(ids)
		if !slices.Equal(without, ints("1 9")) {
			t.Fatal("the lists that Ids answers are shared")
		}
		scrawl(without)
		if !alike(l, was) || !slices.Equal(routers, ints("2 4 1 9")) {
			t.Fatal("Ids shares what it answers")
		}
		wantIds(t, l, routers)
	}
}

// A list that is in order already, each number once, is not handed back.
func TestIdsDoesNotHandBackItsRouters(t *testing.T) {
	routers := roomy(ints("1 2 9"))
	_, without := claim.Ids(nil, routers)
	if !slices.Equal(without, ints("1 2 9")) {
		t.Fatalf("Ids(none, 1 2 9) = %v", without)
	}
	scrawl(without)
	if !slices.Equal(wholeInts(routers), []int{1, 2, 9, behind, behind, behind}) {
		t.Errorf("routers are %v", wholeInts(routers))
	}
}

func TestConflictsAreNew(t *testing.T) {
	l := roomyClaims(claims("5: 3 1 2, 7: 2"))
	was, told := wholeClaims(l), claims("5: 3 1 2")[0]
	calls := map[string]func() error{
		"Owner": func() error { _, err := claim.Owner(l, 5); return err },
		"Mine":  func() error { _, err := claim.Mine(l, 1); return err },
	}
	for name, call := range calls {
		var first, second *api.Conflict
		err := call()
		if !errors.As(err, &first) || !errors.As(call(), &second) {
			t.Fatalf("%s answers no conflict", name)
		}
		first.Id = -7
		scrawl(first.Routers)
		if !reflect.DeepEqual(wholeClaims(l), was) {
			t.Fatalf("%s hands out the claim's routers", name)
		}
		if !like(api.Claim(*second), told) || !isConflict(call(), told) {
			t.Fatalf("two conflicts of %s are shared", name)
		}
		// And the other way round: a conflict outlives the claims that it was told of.
		kept := call()
		mine := l[0].Routers[0]
		l[0].Routers[0] = 24
		if !isConflict(kept, told) {
			t.Fatalf("a conflict of %s changes with the claims", name)
		}
		l[0].Routers[0] = mine
	}
}

func TestFaultsAreNew(t *testing.T) {
	for id, code := range map[int]api.Errno{0: api.ErrArg, 9: api.ErrNone} {
		_, first := claim.Owner(examples(), id)
		var f *api.Fault
		if !errors.As(first, &f) {
			t.Fatalf("Owner(%d) answers no fault", id)
		}
		f.Code, f.At = api.ErrLine, 7
		if _, err := claim.Owner(examples(), id); !isFault(err, code) {
			t.Fatalf("Owner(%d) behind a fault that was changed = %v", id, err)
		}
	}
}

// R3, R6: no map's order is seen, and what was asked before has no part in it.

func TestNoOrderOfAMapIsSeen(t *testing.T) {
	var records []api.Record
	var l []api.Claim
	var routers []int
	for n := 1; n <= 24; n++ {
		records = append(records, rec(n, 1+n*389%1024))
		routers = append(routers, n*7%25)
		l = append(l, api.Claim{Id: 1 + n*389%1024, Routers: []int{n}})
	}
	want := claimsOf(records)
	ids, without := idsOf(l, routers)
	for range 200 {
		wantClaims(t, records, want)
		i, w := claim.Ids(l, routers)
		if !slices.Equal(i, ids) || !slices.Equal(w, without) {
			t.Fatalf("Ids = %v, %v", i, w)
		}
		wantFree(t, l)
	}
}

// Each byte of what is made up is a record's Origin and Claim, or a claim's number.
func FuzzClaims(f *testing.F) {
	f.Add([]byte{1, 2, 3}, []byte{1, 0x12, 0x13}, []byte{2, 1, 2, 9})
	f.Add([]byte{0x15, 0x27, 0x35, 0x40}, []byte{0xff, 0, 1, 0, 0xf1}, []byte{})
	f.Add([]byte("records are of unlike routers"), []byte("claims are any"), []byte("routers"))
	f.Fuzz(func(t *testing.T, rawRecords, rawClaims, rawRouters []byte) {
		var l []api.Record
		for _, c := range rawRecords {
			r := rec(int(c/8), int(c%8)*200)
			wrong := r.Origin == 0 || r.Origin > 24 || r.Claim > 1024 || slices.ContainsFunc(l, func(x api.Record) bool { return x.Origin == r.Origin })
			if wrong {
				wantNoClaims(t, append(slices.Clone(l), r))
				continue
			}
			l = append(l, r)
		}
		wantClaims(t, l, claimsOf(l))
		wantWhatFollows(t, l)
		var lists []api.Claim
		for at := 0; at < len(rawClaims); at++ {
			c := api.Claim{Id: int(rawClaims[at]/4) - 1}
			for range rawClaims[at] % 4 {
				if at++; at < len(rawClaims) {
					c.Routers = append(c.Routers, int(rawClaims[at]%32)-2)
				}
			}
			lists = append(lists, c)
		}
		var routers []int
		for _, c := range rawRouters {
			routers = append(routers, int(c%32)-2)
		}
		wantFree(t, lists)
		wantIds(t, lists, routers)
		for n := -2; n <= 64; n++ {
			wantOwner(t, lists, n)
			wantMine(t, lists, n)
		}
	})
}
