package wire_test

import (
	"bytes"
	"encoding/binary"
	"encoding/hex"
	"math"
	"slices"
	"strings"
	"testing"

	"dandelion/api"
	"dandelion/wire"
)

var (
	sizes   = []int{1, 2, 4, 8}
	noSizes = []int{0, -1, -2, -4, -8, 3, 5, 6, 7, 9, 16, 64, 256, 1 << 32, math.MinInt, math.MaxInt}
	aheads  = []string{"", "a", "\x00", "\xff\x80\x00", strings.Repeat("\x81", 300)}
)

// numbers are the edges of each count of bits, and mixed ones from a fixed rule.
func numbers() []uint64 {
	l := []uint64{0, 258, 300, math.MaxUint64}
	for n := range 64 {
		p := uint64(1) << n
		l = append(l, p-1, p, p+1, -p)
	}
	x := uint64(1)
	for n := range 64 {
		x ^= x << 13
		x ^= x >> 7
		x ^= x << 17
		l = append(l, x, x>>n)
	}
	return l
}

// mixed is count bytes from a fixed rule.
func mixed(count int) string {
	x := uint32(count)*2 + 1
	var out []byte
	for range count {
		x = x*1664525 + 1013904223
		out = append(out, byte(x>>24))
	}
	return string(out)
}

// laid is v as the lowest size of the eight bytes that Go's library lays.
func laid(v uint64, size int) string {
	return string(binary.BigEndian.AppendUint64(nil, v)[8-size:])
}

// P2.1

func TestPut(t *testing.T) {
	if s, e := wire.Put("a", 258, 2); s != "a\x01\x02" || e != api.OK {
		t.Errorf("Put(a, 258, 2) = %q, %d", s, e)
	}
	for _, size := range sizes {
		for _, v := range numbers() {
			for _, b := range aheads {
				want, wantE := b+laid(v, size), api.OK
				if size < 8 && v >= 1<<(8*size) {
					want, wantE = "", api.ErrLong
				}
				if s, e := wire.Put(b, v, size); s != want || e != wantE {
					t.Fatalf("Put(%q, %d, %d) = %q, %d", b, v, size, s, e)
				}
			}
		}
	}
}

func TestPutAtTheEdgesOfSizes(t *testing.T) {
	for _, x := range []struct {
		v    uint64
		size int
		want string
		e    api.Errno
	}{
		{0, 1, "\x00", api.OK}, {255, 1, "\xff", api.OK}, {256, 1, "", api.ErrLong},
		{0, 2, "\x00\x00", api.OK}, {65535, 2, "\xff\xff", api.OK}, {65536, 2, "", api.ErrLong},
		{1, 4, "\x00\x00\x00\x01", api.OK}, {1<<32 - 1, 4, "\xff\xff\xff\xff", api.OK}, {1 << 32, 4, "", api.ErrLong},
		{1 << 63, 1, "", api.ErrLong}, {1 << 63, 2, "", api.ErrLong}, {1 << 63, 4, "", api.ErrLong},
		{0x0102030405060708, 8, "\x01\x02\x03\x04\x05\x06\x07\x08", api.OK},
		{math.MaxUint64, 8, "\xff\xff\xff\xff\xff\xff\xff\xff", api.OK},
	} {
		if s, e := wire.Put("", x.v, x.size); s != x.want || e != x.e {
			t.Errorf("Put(, %d, %d) = %q, %d", x.v, x.size, s, e)
		}
	}
}

func TestPutRefusesSizes(t *testing.T) {
	for _, size := range noSizes {
		// Numbers that would not go in either: what is wrong with the size comes first.
		for _, v := range []uint64{0, 1, 256, math.MaxUint64} {
			if s, e := wire.Put("abc", v, size); s != "" || e != api.ErrArg {
				t.Errorf("Put(abc, %d, %d) = %q, %d", v, size, s, e)
			}
		}
	}
}

func TestTake(t *testing.T) {
	for length := range 20 {
		b := mixed(length)
		for _, size := range sizes {
			for at := range length - size + 1 {
				want := uint64(0)
				for _, c := range []byte(b[at : at+size]) {
					want = want*256 + uint64(c)
				}
				if v, e := wire.Take(b, at, size); v != want || e != api.OK {
					t.Errorf("Take(%q, %d, %d) = %d, %d", b, at, size, v, e)
				}
			}
		}
	}
	if v, e := wire.Take("\x01\x02\x03", 1, 2); v != 515 || e != api.OK {
		t.Errorf("Take(01 02 03, 1, 2) = %d, %d", v, e)
	}
	if v, e := wire.Take("\xff\xff\xff\xff\xff\xff\xff\xff", 0, 8); v != math.MaxUint64 || e != api.OK {
		t.Errorf("Take of 2^64 - 1 = %d, %d", v, e)
	}
}

func TestTakeRefusesPlaces(t *testing.T) {
	for length := range 20 {
		b := mixed(length)
		for _, size := range sizes {
			last := length - size
			l := []int{-1, -2, -8, math.MinInt, math.MinInt + 8, length, length + 1, math.MaxInt, math.MaxInt - 1, math.MaxInt - 7, math.MaxInt - 8, math.MaxInt32, math.MaxInt32 - 1, last + 1, last + 2}
			for _, at := range l {
				if at >= 0 && at <= last {
					continue
				}
				if v, e := wire.Take(b, at, size); v != 0 || e != api.ErrForm {
					t.Errorf("Take(%q, %d, %d) = %d, %d", b, at, size, v, e)
				}
			}
		}
	}
}

func TestTakeRefusesSizes(t *testing.T) {
	for _, size := range noSizes {
		// Places that are none either: what is wrong with the size comes first.
		for _, at := range []int{0, 1, -1, 100, math.MinInt, math.MaxInt} {
			for _, b := range []string{"", mixed(20)} {
				if v, e := wire.Take(b, at, size); v != 0 || e != api.ErrArg {
					t.Errorf("Take(%q, %d, %d) = %d, %d", b, at, size, v, e)
				}
			}
		}
	}
}

// P2.2

func TestPutVar(t *testing.T) {
	for _, x := range []struct {
		v    uint64
		want string
	}{
		{0, "\x00"}, {1, "\x01"}, {127, "\x7f"}, {128, "\x80\x01"}, {300, "\xac\x02"},
		{16383, "\xff\x7f"}, {16384, "\x80\x80\x01"},
		{1<<63 - 1, strings.Repeat("\xff", 8) + "\x7f"},
		{1 << 63, strings.Repeat("\x80", 9) + "\x01"},
		{math.MaxUint64, strings.Repeat("\xff", 9) + "\x01"},
	} {
		if s := wire.PutVar("", x.v); s != x.want {
			t.Errorf("PutVar(, %d) = %x", x.v, s)
		}
	}
	for _, v := range numbers() {
		for _, b := range aheads {
			if s := wire.PutVar(b, v); s != b+string(binary.AppendUvarint(nil, v)) {
				t.Errorf("PutVar(%q, %d) = %x", b, v, s)
			}
		}
	}
}

func TestTakeVar(t *testing.T) {
	for _, v := range numbers() {
		laid := string(binary.AppendUvarint(nil, v))
		for _, ahead := range aheads {
			for _, behind := range []string{"", "\x00", "\x80", "\xff\xff"} {
				got, next, e := wire.TakeVar(ahead+laid+behind, len(ahead))
				if got != v || next != len(ahead)+len(laid) || e != api.OK {
					t.Fatalf("TakeVar(%x %x %x) = %d, %d, %d", ahead, laid, behind, got, next, e)
				}
			}
		}
	}
}

func refuseVar(t *testing.T, b string, at int) {
	t.Helper()
	if v, next, e := wire.TakeVar(b, at); v != 0 || next != 0 || e != api.ErrForm {
		t.Errorf("TakeVar(%x, %d) = %d, %d, %d", b, at, v, next, e)
	}
}

func TestTakeVarRefusesBytes(t *testing.T) {
	l := []string{"", "\x80", "\xff", "\x80\x80", "\xac\x82"}
	for n := 1; n <= 12; n++ {
		// They end too early, have a byte more than need be, or more than 64 bits.
		l = append(l, strings.Repeat("\xff", n), strings.Repeat("\x80", n), strings.Repeat("\x80", n)+"\x00", strings.Repeat("\xff", n)+"\x00")
	}
	for _, last := range []string{"\x02", "\x03", "\x7f", "\x80", "\x81", "\xff", "\x80\x01", "\x81\x00", "\x81\x01", "\xff\x01"} {
		l = append(l, strings.Repeat("\xff", 9)+last, strings.Repeat("\x80", 9)+last)
	}
	for _, b := range l {
		for _, ahead := range aheads {
			refuseVar(t, ahead+b, len(ahead))
		}
	}
	for _, v := range numbers() {
		laid := string(binary.AppendUvarint(nil, v))
		for n := range len(laid) {
			refuseVar(t, laid[:n], 0)
		}
		longer := []byte(laid)
		longer[len(longer)-1] |= 128
		refuseVar(t, string(longer)+"\x00", 0)
	}
}

func TestTakeVarRefusesPlaces(t *testing.T) {
	for _, b := range []string{"", "\x01", "\x01\x02\x03"} {
		for _, at := range []int{-1, -2, math.MinInt, len(b), len(b) + 1, math.MaxInt - 1, math.MaxInt} {
			refuseVar(t, b, at)
		}
	}
}

func TestTakeVarOfAllShortBytes(t *testing.T) {
	for n := range 1 << 16 {
		takeVarAsModel(t, string([]byte{byte(n >> 8), byte(n)}), 0)
	}
	for _, first := range []int{1, 127, 128, 129, 255} {
		for n := range 1 << 16 {
			takeVarAsModel(t, string([]byte{byte(first), byte(n >> 8), byte(n)}), 0)
		}
	}
}

// takeVarAsModel holds TakeVar against Go's library, which reads longer forms too: those are told by laying the number again.
func takeVarAsModel(t *testing.T, b string, at int) {
	t.Helper()
	if at < 0 || at > len(b) {
		refuseVar(t, b, at)
		return
	}
	want, n := binary.Uvarint([]byte(b[at:]))
	if n <= 0 || len(binary.AppendUvarint(nil, want)) != n {
		refuseVar(t, b, at)
		return
	}
	if v, next, e := wire.TakeVar(b, at); v != want || next != at+n || e != api.OK {
		t.Errorf("TakeVar(%x, %d) = %d, %d, %d", b, at, v, next, e)
	}
}

func FuzzTakeVar(f *testing.F) {
	f.Add("\xac\x02", 0)
	f.Add("\xff\xff\xff\xff\xff\xff\xff\xff\xff\x01", 0)
	f.Add("\x80\x00", 0)
	f.Add("\x80", -1)
	f.Fuzz(func(t *testing.T, b string, at int) { takeVarAsModel(t, b, at) })
}

// P2.3

// rest is the sum as a long division: the bits of b and 16 noughts behind, of which the first 16 are turned, by x^16 + x^12 + x^5 + 1.
func rest(b string) uint16 {
	var l []byte
	for _, c := range []byte(b + "\x00\x00") {
		for n := 7; n >= 0; n-- {
			l = append(l, c>>n&1)
		}
	}
	for n := range 16 {
		l[n] ^= 1
	}
	for n := range len(l) - 16 {
		if l[n] == 1 {
			l[n], l[n+4], l[n+11], l[n+16] = 0, l[n+4]^1, l[n+11]^1, l[n+16]^1
		}
	}
	s := uint16(0)
	for _, bit := range l[len(l)-16:] {
		s = s<<1 | uint16(bit)
	}
	return s
}

func sumSamples() []string {
	l := []string{"", "123456789", "dandelion", "\x00", "\x00\x00\x00", "\xff", "\xff\xff", strings.Repeat("\xff", 512), strings.Repeat("\x00", 512)}
	for n := range 256 {
		l = append(l, string([]byte{byte(n)}), mixed(n))
	}
	return append(l, mixed(512))
}

func TestSum(t *testing.T) {
	if s := wire.Sum(); s != 0xffff {
		t.Errorf("Sum() = %x", s)
	}
	if s := wire.Sum("", "", ""); s != 0xffff {
		t.Errorf("Sum of nothing three times = %x", s)
	}
	if s := wire.Sum("123456789"); s != 0x29b1 {
		t.Errorf("Sum(123456789) = %x", s)
	}
	for _, b := range sumSamples() {
		if s := wire.Sum(b); s != rest(b) {
			t.Errorf("Sum(%x) = %x, %x is asked for", b, s, rest(b))
		}
	}
}

func TestSumLeavesItsArgument(t *testing.T) {
	room := []string{"a", "b", "c"}
	wire.Sum(room[:2]...)
	if !slices.Equal(room, []string{"a", "b", "c"}) {
		t.Errorf("Sum has changed what it was handed: %q", room)
	}
}

func TestSeal(t *testing.T) {
	if s := wire.Seal(""); s != "\xff\xff" {
		t.Errorf("Seal() = %x", s)
	}
	if s := wire.Seal("123456789"); s != "123456789\x29\xb1" {
		t.Errorf("Seal(123456789) = %x", s)
	}
	for _, b := range sumSamples() {
		if s := wire.Seal(b); s != b+laid(uint64(rest(b)), 2) {
			t.Errorf("Seal(%x) = %x", b, s)
		}
	}
}

func TestOpen(t *testing.T) {
	for _, b := range sumSamples() {
		if s, e := wire.Open(b + laid(uint64(rest(b)), 2)); s != b || e != api.OK {
			t.Errorf("Open(%x and its sum) = %x, %d", b, s, e)
		}
	}
	if s, e := wire.Open("\xff\xff"); s != "" || e != api.OK {
		t.Errorf("Open(ff ff) = %x, %d", s, e)
	}
}

func TestOpenRefuses(t *testing.T) {
	if s, e := wire.Open(""); s != "" || e != api.ErrForm {
		t.Errorf("Open() = %x, %d", s, e)
	}
	for n := range 256 {
		if s, e := wire.Open(string([]byte{byte(n)})); s != "" || e != api.ErrForm {
			t.Errorf("Open(%x) = %x, %d", n, s, e)
		}
	}
	for n := range 0xffff {
		if s, e := wire.Open(laid(uint64(n), 2)); s != "" || e != api.ErrSum {
			t.Errorf("Open(%x) = %x, %d", n, s, e)
		}
	}
	for _, b := range []string{"\x00\xff\xff", "123456789\xb1\x29", "123456789\x29\xb0", "123456789\x28\xb1", "12345678\x29\xb1", "\x29\xb1123456789"} {
		if s, e := wire.Open(b); s != "" || e != api.ErrSum {
			t.Errorf("Open(%x) = %x, %d", b, s, e)
		}
	}
}

// P2.4

func TestHex(t *testing.T) {
	if s := wire.Hex("az"); s != "617a" {
		t.Errorf("Hex(az) = %s", s)
	}
	if s := wire.Hex("\x0f\xf0"); s != "0ff0" {
		t.Errorf("Hex(0f f0) = %s", s)
	}
	for _, b := range sumSamples() {
		if s := wire.Hex(b); s != hex.EncodeToString([]byte(b)) {
			t.Errorf("Hex(%q) = %s", b, s)
		}
	}
}

// unhexAsModel holds Unhex against Go's library, which reads the digits A to F too.
func unhexAsModel(t *testing.T, s string) {
	t.Helper()
	want, err := hex.DecodeString(s)
	wantE := api.OK
	if err != nil || strings.ContainsAny(s, "ABCDEF") {
		want, wantE = nil, api.ErrForm
	}
	if b, e := wire.Unhex(s); b != string(want) || e != wantE {
		t.Errorf("Unhex(%q) = %q, %d", s, b, e)
	}
}

func TestUnhex(t *testing.T) {
	if b, e := wire.Unhex("617a"); b != "az" || e != api.OK {
		t.Errorf("Unhex(617a) = %q, %d", b, e)
	}
	if b, e := wire.Unhex(""); b != "" || e != api.OK {
		t.Errorf("Unhex() = %q, %d", b, e)
	}
	for n := range 1 << 16 {
		unhexAsModel(t, string([]byte{byte(n >> 8), byte(n)}))
	}
}

func TestUnhexRefuses(t *testing.T) {
	for _, s := range []string{"6", "617", "617a0", "6A", "A6", "617A", "6g", "g6", "/0", ":0", "`0", "@0", " 6", "6 ", "61 7a", "-1", "+1", "0x", "61\n", "\x00\x00", "\xff\xff", "é", "617a6", "617a6G", "zz617a"} {
		if b, e := wire.Unhex(s); b != "" || e != api.ErrForm {
			t.Errorf("Unhex(%q) = %q, %d", s, b, e)
		}
	}
}

func FuzzUnhex(f *testing.F) {
	for _, s := range []string{"", "617a", "6", "6A", "6g"} {
		f.Add(s)
	}
	f.Fuzz(func(t *testing.T, s string) { unhexAsModel(t, s) })
}

// P2.5

func TestTakeOfPut(t *testing.T) {
	for _, ahead := range aheads {
		for _, v := range numbers() {
			for _, size := range sizes {
				b, e := wire.Put(ahead, v, size)
				if e != api.OK {
					continue
				}
				if got, e := wire.Take(b, len(ahead), size); got != v || e != api.OK {
					t.Errorf("Take of Put(%q, %d, %d) = %d, %d", ahead, v, size, got, e)
				}
			}
			b := wire.PutVar(ahead, v)
			if got, next, e := wire.TakeVar(b, len(ahead)); got != v || next != len(b) || e != api.OK {
				t.Errorf("TakeVar of PutVar(%q, %d) = %d, %d, %d", ahead, v, got, next, e)
			}
		}
	}
}

func TestNumbersBehindOneAnother(t *testing.T) {
	b := ""
	for i, v := range numbers() {
		b, _ = wire.Put(b, v, 8)
		b = wire.PutVar(b, v)
		b, _ = wire.Put(b, uint64(i%256), 1)
	}
	at := 0
	for i, v := range numbers() {
		got, e := wire.Take(b, at, 8)
		gotVar, next, eVar := wire.TakeVar(b, at+8)
		if got != v || gotVar != v || e != api.OK || eVar != api.OK {
			t.Fatalf("%d at %d: %d, %d, %d, %d", v, at, got, gotVar, e, eVar)
		}
		if n, e := wire.Take(b, next, 1); n != uint64(i%256) || e != api.OK {
			t.Fatalf("behind %d: %d, %d", v, n, e)
		}
		at = next + 1
	}
	if at != len(b) {
		t.Errorf("%d bytes of %d were read", at, len(b))
	}
}

func TestOpenOfSealAndUnhexOfHex(t *testing.T) {
	for _, b := range sumSamples() {
		if s, e := wire.Open(wire.Seal(b)); s != b || e != api.OK {
			t.Errorf("Open of Seal(%x) = %x, %d", b, s, e)
		}
		if s, e := wire.Open(wire.Seal(wire.Seal(b))); s != wire.Seal(b) || e != api.OK {
			t.Errorf("Open of what was sealed twice, %x = %x, %d", b, s, e)
		}
		if s, e := wire.Unhex(wire.Hex(b)); s != b || e != api.OK {
			t.Errorf("Unhex of Hex(%x) = %x, %d", b, s, e)
		}
	}
}

func TestSumOfParts(t *testing.T) {
	for _, b := range []string{"123456789", "dandelion", mixed(60), strings.Repeat("\x00", 20)} {
		want := wire.Sum(b)
		for i := range len(b) + 1 {
			for k := i; k <= len(b); k++ {
				if s := wire.Sum(b[:i], b[i:k], "", b[k:]); s != want {
					t.Errorf("Sum of %q in parts at %d and %d = %x, not %x", b, i, k, s, want)
				}
			}
		}
		if s := wire.Sum(strings.Split(b, "")...); s != want {
			t.Errorf("Sum of %q sign by sign = %x, not %x", b, s, want)
		}
	}
}

// P2.6

// turn turns, of the bits of b from the bit at on, the highest one of each byte being the first, those that are 1 in pattern.
func turn(b []byte, at int, pattern uint16) {
	wide := uint32(pattern) << (8 - at%8)
	for i, n := range []int{16, 8, 0} {
		if k := at/8 + i; k < len(b) {
			b[k] ^= byte(wide >> n)
		}
	}
}

// turnUp does so too, the lowest bit of each byte being the first one.
func turnUp(b []byte, at int, pattern uint16) {
	wide := uint32(pattern) << (at % 8)
	for i, n := range []int{0, 8, 16} {
		if k := at/8 + i; k < len(b) {
			b[k] ^= byte(wide >> n)
		}
	}
}

func refuseTurned(t *testing.T, sealed string, at int, pattern uint16) {
	t.Helper()
	for _, way := range []func([]byte, int, uint16){turn, turnUp} {
		b := []byte(sealed)
		way(b, at, pattern)
		if string(b) == sealed {
			t.Fatalf("nothing was turned: %x at %d", pattern, at)
		}
		if s, e := wire.Open(string(b)); s != "" || e != api.ErrSum {
			t.Fatalf("%x turned to %x was opened: %x, %d", sealed, b, s, e)
		}
	}
}

func TestBurstsOfShortBytes(t *testing.T) {
	for length := range 4 {
		sealed := wire.Seal(mixed(length))
		for at := range 8*len(sealed) - 15 {
			for pattern := 1; pattern <= math.MaxUint16; pattern++ {
				refuseTurned(t, sealed, at, uint16(pattern))
			}
		}
	}
}

func TestBurstsOfLongBytes(t *testing.T) {
	patterns := []uint16{1, 3, 0x8000, 0x8001, 0x1021, 0x8810, 0x8408, 0xffff, 0xaaaa, 0x5555, 0x00ff, 0xff00}
	for n := range 16 {
		patterns = append(patterns, 1<<n, 0x8000|1<<n, 1<<n-1|0x8000)
	}
	for _, length := range []int{30, 200, 510} {
		sealed := wire.Seal(mixed(length))
		for at := range 8*len(sealed) - 15 {
			for i := range 6 {
				refuseTurned(t, sealed, at, patterns[(at+7*i)%len(patterns)])
			}
		}
	}
}

func TestBurstsHaveUnlikeSums(t *testing.T) {
	b := []byte(mixed(40))
	want := wire.Sum(string(b))
	for at := range 8*len(b) - 15 {
		for n := range 1 << 10 {
			pattern := uint16(n*61 + 1)
			turned := bytes.Clone(b)
			turn(turned, at, pattern)
			if wire.Sum(string(turned)) == want {
				t.Fatalf("%x turned by %x at %d has the same sum", b, pattern, at)
			}
		}
	}
}
