package bits_test

import (
	"math"
	"slices"
	"strconv"
	"strings"
	"testing"

	"dandelion/api"
	"dandelion/bits"
)

var (
	edgeBits = []int{1, 8, 9, 63, 64, 65, 128, 129, 192, 193, 255, 256}
	noBits   = []int{0, -1, -8, -64, 257, 320, math.MinInt, math.MaxInt, math.MinInt32, math.MaxInt32}
)

// word is Go's own way to say where the document lays the bit n.
func word(n int) (int, uint64) { return (n - 1) / 64, uint64(1) << ((n - 1) % 64) }

// laid makes a bit string without the package that is tested.
func laid(l ...int) api.Bits {
	var b api.Bits
	for _, n := range l {
		i, m := word(n)
		b[i] |= m
	}
	return b
}

func all() api.Bits {
	return api.Bits{math.MaxUint64, math.MaxUint64, math.MaxUint64, math.MaxUint64}
}

// numbers reads the bits of b one by one, without the package that is tested.
func numbers(b api.Bits) []int {
	l := []int{}
	for n := 1; n <= 256; n++ {
		if i, m := word(n); b[i]&m != 0 {
			l = append(l, n)
		}
	}
	return l
}

// samples are none, all, each bit alone, all but each bit, all below each bit, and mixed ones from a fixed rule.
func samples() []api.Bits {
	l := []api.Bits{{}, all(), laid(edgeBits...)}
	for n := 1; n <= 256; n++ {
		i, m := word(n)
		but, low := all(), api.Bits{}
		but[i] &^= m
		for k := 1; k < n; k++ {
			j, o := word(k)
			low[j] |= o
		}
		l = append(l, laid(n), but, low)
	}
	return append(l, mixed(64)...)
}

func mixed(count int) []api.Bits {
	var l []api.Bits
	x := uint64(1)
	for range count {
		var b api.Bits
		for i := range b {
			x ^= x << 13
			x ^= x >> 7
			x ^= x << 17
			b[i] = x
		}
		l = append(l, b)
	}
	return l
}

// P1.1

func TestOf(t *testing.T) {
	b, e := bits.Of(1, 64, 65, 256, 64)
	if want := (api.Bits{0x8000000000000001, 1, 0, 0x8000000000000000}); b != want || e != api.OK {
		t.Errorf("Of(1, 64, 65, 256, 64) = %x, %d", b, e)
	}
	if b, e := bits.Of(); b != (api.Bits{}) || e != api.OK {
		t.Errorf("Of() = %x, %d", b, e)
	}
	for n := 1; n <= 256; n++ {
		if b, e := bits.Of(n); b != laid(n) || e != api.OK {
			t.Errorf("Of(%d) = %x, %d", n, b, e)
		}
	}
	for _, want := range samples() {
		l := numbers(want)
		slices.Reverse(l)
		if b, e := bits.Of(append(l, l...)...); b != want || e != api.OK {
			t.Errorf("Of(%v) = %x, %d", l, b, e)
		}
	}
}

func TestOfRefuses(t *testing.T) {
	for _, n := range noBits {
		for _, l := range [][]int{{n}, {n, 3}, {3, n}, {1, n, 256}, {1, n, n}} {
			if b, e := bits.Of(l...); b != (api.Bits{}) || e != api.ErrArg {
				t.Errorf("Of(%v) = %x, %d", l, b, e)
			}
		}
	}
}

func TestOfLeavesItsArgument(t *testing.T) {
	room := []int{256, 1, 64, 7}
	bits.Of(room[:3]...)
	if !slices.Equal(room, []int{256, 1, 64, 7}) {
		t.Errorf("Of has changed what it was handed: %v", room)
	}
}

func TestHas(t *testing.T) {
	for _, b := range samples() {
		for n := 1; n <= 256; n++ {
			if i, m := word(n); bits.Has(b, n) != (b[i]&m != 0) {
				t.Fatalf("Has(%x, %d) = %v", b, n, bits.Has(b, n))
			}
		}
	}
	for _, n := range noBits {
		if bits.Has(all(), n) || bits.Has(api.Bits{}, n) {
			t.Errorf("Has(.., %d)", n)
		}
	}
}

func TestWithAndWithout(t *testing.T) {
	for _, b := range samples() {
		for _, n := range edgeBits {
			i, m := word(n)
			with, without := b, b
			with[i] |= m
			without[i] &^= m
			if got, e := bits.With(b, n); got != with || e != api.OK {
				t.Errorf("With(%x, %d) = %x, %d", b, n, got, e)
			}
			if got, e := bits.Without(b, n); got != without || e != api.OK {
				t.Errorf("Without(%x, %d) = %x, %d", b, n, got, e)
			}
		}
	}
	for _, n := range noBits {
		for _, b := range []api.Bits{{}, laid(1, 256), all()} {
			if got, e := bits.With(b, n); got != (api.Bits{}) || e != api.ErrArg {
				t.Errorf("With(%x, %d) = %x, %d", b, n, got, e)
			}
			if got, e := bits.Without(b, n); got != (api.Bits{}) || e != api.ErrArg {
				t.Errorf("Without(%x, %d) = %x, %d", b, n, got, e)
			}
		}
	}
}

// P1.2

func TestAndOrAndNot(t *testing.T) {
	l := append([]api.Bits{{}, all(), laid(edgeBits...), laid(1), laid(64), laid(65), laid(256)}, mixed(32)...)
	for _, a := range l {
		for _, b := range l {
			var and, or, andNot []int
			for n := 1; n <= 256; n++ {
				i, m := word(n)
				inA, inB := a[i]&m != 0, b[i]&m != 0
				if inA && inB {
					and = append(and, n)
				}
				if inA || inB {
					or = append(or, n)
				}
				if inA && !inB {
					andNot = append(andNot, n)
				}
			}
			if got := bits.And(a, b); got != laid(and...) {
				t.Errorf("And(%x, %x) = %x", a, b, got)
			}
			if got := bits.Or(a, b); got != laid(or...) {
				t.Errorf("Or(%x, %x) = %x", a, b, got)
			}
			if got := bits.AndNot(a, b); got != laid(andNot...) {
				t.Errorf("AndNot(%x, %x) = %x", a, b, got)
			}
		}
	}
}

// P1.3

func TestLowestAndCount(t *testing.T) {
	if n := bits.Lowest(api.Bits{}); n != 0 {
		t.Errorf("Lowest of none = %d", n)
	}
	for _, b := range samples() {
		l := numbers(b)
		if len(l) > 0 && bits.Lowest(b) != l[0] {
			t.Errorf("Lowest(%x) = %d", b, bits.Lowest(b))
		}
		if bits.Count(b) != len(l) {
			t.Errorf("Count(%x) = %d", b, bits.Count(b))
		}
	}
}

func TestBelow(t *testing.T) {
	for _, b := range samples() {
		top := 0
		for _, n := range numbers(b) {
			top = n
		}
		for width := 0; width <= 256; width++ {
			if bits.Below(b, width) != (top <= width) {
				t.Fatalf("Below(%x, %d) = %v", b, width, bits.Below(b, width))
			}
		}
	}
	for _, width := range []int{-1, -8, 257, 264, math.MinInt, math.MaxInt} {
		for _, b := range []api.Bits{{}, laid(1), all()} {
			if bits.Below(b, width) {
				t.Errorf("Below(%x, %d)", b, width)
			}
		}
	}
}

// P1.4

func TestListAndEach(t *testing.T) {
	for _, b := range samples() {
		want := numbers(b)
		if got := bits.List(b); !slices.Equal(got, want) {
			t.Errorf("List(%x) = %v", b, got)
		}
		if got := slices.Collect(bits.Each(b)); !slices.Equal(got, want) {
			t.Errorf("Each(%x) tells %v", b, got)
		}
	}
}

func TestEachIsLeftAndGoneThroughAgain(t *testing.T) {
	each := bits.Each(laid(1, 64, 65, 256))
	for stop := 1; stop <= 4; stop++ {
		var told []int
		for n := range each {
			told = append(told, n)
			if len(told) == stop {
				break
			}
		}
		if !slices.Equal(told, []int{1, 64, 65, 256}[:stop]) {
			t.Errorf("left behind %d: %v", stop, told)
		}
	}
	for range 2 {
		if l := slices.Collect(each); !slices.Equal(l, []int{1, 64, 65, 256}) {
			t.Errorf("gone through again: %v", l)
		}
	}
}

func TestEachInsideItself(t *testing.T) {
	each := bits.Each(laid(2, 200))
	var told []int
	for a := range each {
		for b := range each {
			told = append(told, a, b)
		}
	}
	if !slices.Equal(told, []int{2, 2, 2, 200, 200, 2, 200, 200}) {
		t.Errorf("one inside the other: %v", told)
	}
}

func TestEachKeepsTheContentAlone(t *testing.T) {
	b := laid(3, 100)
	each := bits.Each(b)
	b[0] = math.MaxUint64
	if l := slices.Collect(each); !slices.Equal(l, []int{3, 100}) {
		t.Errorf("Each tells %v", l)
	}
}

func TestListIsNewMemory(t *testing.T) {
	b := laid(3, 100)
	first, second := bits.List(b), bits.List(b)
	first[0] = 99
	if second[0] != 3 || b != laid(3, 100) {
		t.Errorf("List shares: %v, %x", second, b)
	}
}

// P1.5

func TestBytesLayout(t *testing.T) {
	for _, c := range []struct {
		b     api.Bits
		width int
		want  string
	}{
		{laid(1, 10), 16, "\x01\x02"},
		{api.Bits{}, 8, "\x00"},
		{laid(1, 8), 8, "\x81"},
		{laid(9), 24, "\x00\x01\x00"},
		{laid(64, 65), 72, "\x00\x00\x00\x00\x00\x00\x00\x80\x01"},
		{laid(1, 256), 256, "\x01" + strings.Repeat("\x00", 30) + "\x80"},
		{all(), 256, strings.Repeat("\xff", 32)},
	} {
		if s, e := bits.Bytes(c.b, c.width); s != c.want || e != api.OK {
			t.Errorf("Bytes(%x, %d) = %x, %d", c.b, c.width, s, e)
		}
		if b, e := bits.Read(c.want); b != c.b || e != api.OK {
			t.Errorf("Read(%x) = %x, %d", c.want, b, e)
		}
	}
}

func TestBytesRefuses(t *testing.T) {
	for width := -300; width <= 600; width++ {
		isWidth := width >= 8 && width <= 256 && width%8 == 0
		if s, e := bits.Bytes(api.Bits{}, width); !isWidth && (s != "" || e != api.ErrArg) {
			t.Errorf("Bytes of none at the width %d = %x, %d", width, s, e)
		}
		// ErrArg is named ahead of ErrLong.
		if s, e := bits.Bytes(all(), width); !isWidth && (s != "" || e != api.ErrArg) {
			t.Errorf("Bytes of all at the width %d = %x, %d", width, s, e)
		}
	}
	for _, width := range []int{math.MinInt, math.MaxInt, math.MaxInt - 7} {
		if s, e := bits.Bytes(laid(1), width); s != "" || e != api.ErrArg {
			t.Errorf("Bytes at the width %d = %x, %d", width, s, e)
		}
	}
	for width := 8; width <= 256; width += 8 {
		for n := 1; n <= 256; n++ {
			s, e := bits.Bytes(laid(1, n), width)
			if n > width && (s != "" || e != api.ErrLong) {
				t.Errorf("Bytes(1 %d, %d) = %x, %d", n, width, s, e)
			}
			if n <= width && (len(s) != width/8 || e != api.OK) {
				t.Errorf("Bytes(1 %d, %d) = %x, %d", n, width, s, e)
			}
		}
	}
}

func TestReadLengths(t *testing.T) {
	for length := 0; length <= 70; length++ {
		b, e := bits.Read(strings.Repeat("\xff", length))
		if length < 1 || length > 32 {
			if b != (api.Bits{}) || e != api.ErrForm {
				t.Errorf("Read of %d bytes = %x, %d", length, b, e)
			}
			continue
		}
		if l := numbers(b); e != api.OK || len(l) != 8*length || l[len(l)-1] != 8*length {
			t.Errorf("Read of %d bytes = %x, %d", length, b, e)
		}
	}
	if b, e := bits.Read(strings.Repeat("\x00", 1<<16)); b != (api.Bits{}) || e != api.ErrForm {
		t.Errorf("Read of 65536 bytes = %x, %d", b, e)
	}
}

// P1.6

func TestText(t *testing.T) {
	for _, b := range samples() {
		var words []string
		for _, n := range numbers(b) {
			words = append(words, strconv.Itoa(n))
		}
		want := strings.Join(words, " ")
		if len(words) == 0 {
			want = "-"
		}
		if got := bits.Text(b); got != want {
			t.Errorf("Text(%x) = %q", b, got)
		}
	}
}

func TestParse(t *testing.T) {
	for s, want := range map[string]api.Bits{
		"-":           {},
		"1":           laid(1),
		"256":         laid(256),
		"1 3":         laid(1, 3),
		"9 10 99 100": laid(9, 10, 99, 100),
		"1 64 65 256": laid(1, 64, 65, 256),
	} {
		if b, e := bits.Parse(s); b != want || e != api.OK {
			t.Errorf("Parse(%q) = %x, %d", s, b, e)
		}
	}
}

func TestParseRefuses(t *testing.T) {
	for _, s := range []string{
		"", " ", "  ", "\x00", "\xff", "x", "one",
		"3 1", "1 1", "1 3 2", "1 2 2", "256 1", "9 10 9",
		"0", "00", "0 1", "01", "1 02", "001", "257", "1 257", "1000", "99999999999999999999", "18446744073709551617",
		"-1", "-0", "+1", "1 +2", "- 1", "1 -", "--", "-  ", "- ", " -",
		" 1", "1 ", "1  2", "1\t2", "1\n2", "1\n", "1,2", "1 2\x00", "1\u00a02",
		"0x1", "1_0", "1e1", "1.0", "\u0661", "\uff11",
		strings.Repeat("1", 1<<16), strings.Repeat(" ", 1<<16), strings.Repeat("1 ", 1<<15),
	} {
		if b, e := bits.Parse(s); b != (api.Bits{}) || e != api.ErrForm {
			t.Errorf("Parse(%.40q) = %x, %d", s, b, e)
		}
	}
}

// P1.7

func TestLawsOfSets(t *testing.T) {
	l := append([]api.Bits{{}, all(), laid(edgeBits...)}, mixed(12)...)
	for _, a := range l {
		for _, b := range l {
			lawsOfTwo(t, a, b)
			for _, c := range l {
				lawsOfThree(t, a, b, c)
			}
		}
	}
}

func lawsOfTwo(t *testing.T, a, b api.Bits) {
	t.Helper()
	none := api.Bits{}
	for name, holds := range map[string]bool{
		"and turns round":          bits.And(a, b) == bits.And(b, a),
		"or turns round":           bits.Or(a, b) == bits.Or(b, a),
		"and, or of itself":        bits.And(a, a) == a && bits.Or(a, a) == a,
		"and not of itself":        bits.AndNot(a, a) == none,
		"none":                     bits.And(a, none) == none && bits.Or(a, none) == a && bits.AndNot(a, none) == a && bits.AndNot(none, a) == none,
		"all":                      bits.And(a, all()) == a && bits.Or(a, all()) == all() && bits.AndNot(a, all()) == none,
		"swallowed":                bits.And(a, bits.Or(a, b)) == a && bits.Or(a, bits.And(a, b)) == a,
		"parted":                   bits.Or(bits.And(a, b), bits.AndNot(a, b)) == a && bits.And(bits.And(a, b), bits.AndNot(a, b)) == none,
		"counts":                   bits.Count(a)+bits.Count(b) == bits.Count(bits.Or(a, b))+bits.Count(bits.And(a, b)),
		"and not, then or":         bits.Or(bits.AndNot(a, b), b) == bits.Or(a, b),
		"and not shares with none": bits.And(bits.AndNot(a, b), b) == none,
	} {
		if !holds {
			t.Errorf("%s: %x, %x", name, a, b)
		}
	}
}

func lawsOfThree(t *testing.T, a, b, c api.Bits) {
	t.Helper()
	for name, holds := range map[string]bool{
		"and is put together": bits.And(a, bits.And(b, c)) == bits.And(bits.And(a, b), c),
		"or is put together":  bits.Or(a, bits.Or(b, c)) == bits.Or(bits.Or(a, b), c),
		"and over or":         bits.And(a, bits.Or(b, c)) == bits.Or(bits.And(a, b), bits.And(a, c)),
		"or over and":         bits.Or(a, bits.And(b, c)) == bits.And(bits.Or(a, b), bits.Or(a, c)),
		"not of or":           bits.AndNot(a, bits.Or(b, c)) == bits.And(bits.AndNot(a, b), bits.AndNot(a, c)),
		"not of and":          bits.AndNot(a, bits.And(b, c)) == bits.Or(bits.AndNot(a, b), bits.AndNot(a, c)),
	} {
		if !holds {
			t.Errorf("%s: %x, %x, %x", name, a, b, c)
		}
	}
}

func TestWithoutItsLowestOneFewer(t *testing.T) {
	for _, b := range samples() {
		for b != (api.Bits{}) {
			low, count := bits.Lowest(b), bits.Count(b)
			less, e := bits.Without(b, low)
			if e != api.OK || bits.Count(less) != count-1 || bits.Has(less, low) || bits.Or(less, laid(low)) != b {
				t.Fatalf("%x without %d = %x, %d", b, low, less, e)
			}
			b = less
		}
	}
}

func TestThereAndBack(t *testing.T) {
	for _, b := range samples() {
		if got, e := bits.Of(bits.List(b)...); got != b || e != api.OK {
			t.Errorf("Of(List(%x)) = %x, %d", b, got, e)
		}
		if got, e := bits.Parse(bits.Text(b)); got != b || e != api.OK {
			t.Errorf("Parse(Text(%x)) = %x, %d", b, got, e)
		}
		for width := 8; width <= 256; width += 8 {
			s, e := bits.Bytes(b, width)
			if (e == api.OK) != bits.Below(b, width) {
				t.Errorf("Bytes(%x, %d): %d", b, width, e)
			}
			if got, f := bits.Read(s); e == api.OK && (got != b || f != api.OK) {
				t.Errorf("Read(Bytes(%x, %d)) = %x, %d", b, width, got, f)
			}
		}
	}
}

// FuzzParse: a text is refused, or it is the text of what was read.
func FuzzParse(f *testing.F) {
	for _, s := range []string{"", "-", "1", "1 3", "3 1", "01", "257", "1 2 3 256", "\xff\xfe"} {
		f.Add(s)
	}
	f.Fuzz(func(t *testing.T, s string) {
		b, e := bits.Parse(s)
		switch {
		case e == api.OK && bits.Text(b) != s:
			t.Errorf("Parse(%q) = %x", s, b)
		case e != api.OK && (e != api.ErrForm || b != api.Bits{}):
			t.Errorf("Parse(%q) = %x, %d", s, b, e)
		}
	})
}

// FuzzRead: bytes are refused, or they are the bytes of what was read.
func FuzzRead(f *testing.F) {
	for _, s := range []string{"", "\x00", "\x01\x02", strings.Repeat("\xff", 32), strings.Repeat("a", 33)} {
		f.Add(s)
	}
	f.Fuzz(func(t *testing.T, s string) {
		b, e := bits.Read(s)
		if want := len(s) >= 1 && len(s) <= 32; want != (e == api.OK) {
			t.Fatalf("Read(%x): %d", s, e)
		}
		if e != api.OK && (e != api.ErrForm || b != api.Bits{}) {
			t.Errorf("Read(%x) = %x, %d", s, b, e)
		}
		if back, f := bits.Bytes(b, 8*len(s)); e == api.OK && (back != s || f != api.OK) {
			t.Errorf("Bytes(Read(%x)) = %x, %d", s, back, f)
		}
	})
}
