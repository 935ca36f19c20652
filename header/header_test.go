package header_test

import (
	"encoding/binary"
	"math"
	"slices"
	"strings"
	"testing"

	"dandelion/api"
	"dandelion/header"
	"dandelion/wire"
)

var (
	widths  = []int{8, 16, 32, 64, 128, 256}
	example = api.Header{Width: 8, Set: 2, Entropy: 0x01020304, Hops: 15, Source: 7, Group: 3, Id: 9, Bits: api.Bits{0x81}}
)

const exampleBytes = "\x10\x02\x01\x02\x03\x04\x0f\x07\x03\x00\x00\x00\x09\x81\x5e\xea"

// noWidths are numbers between, below and above the widths, and such as are like one in their lowest bits.
func noWidths() []int {
	l := []int{math.MinInt, math.MinInt32, math.MaxInt, math.MaxInt32}
	for n := -600; n <= 600; n++ {
		if !slices.Contains(widths, n) {
			l = append(l, n)
		}
	}
	for _, w := range widths {
		l = append(l, w+1<<16, w+1<<32, w-1<<32)
	}
	return l
}

// bit makes a bit string without the packages that are tested.
func bit(n int) api.Bits {
	var b api.Bits
	b[(n-1)/64] = 1 << ((n - 1) % 64)
	return b
}

func both(a, b api.Bits) api.Bits {
	for i := range a {
		a[i] |= b[i]
	}
	return a
}

// upTo has the bits 1 to n.
func upTo(n int) api.Bits {
	var b api.Bits
	for k := 1; k <= n; k++ {
		b = both(b, bit(k))
	}
	return b
}

func hasAbove(b api.Bits, width int) bool {
	for n := 1; n <= 256; n++ {
		if n > width && b[(n-1)/64]>>((n-1)%64)&1 == 1 {
			return true
		}
	}
	return false
}

// bitsAt are bit strings that a header of that width may have.
func bitsAt(width int) []api.Bits {
	low := upTo(width)
	mixed := api.Bits{0x9e3779b97f4a7c15, 0xbf58476d1ce4e5b9, 0x94d049bb133111eb, 0x2545f4914f6cdd1d}
	for i := range mixed {
		mixed[i] &= low[i]
	}
	l := []api.Bits{{}, bit(1), bit(width), both(bit(1), bit(width)), upTo(width - 1), low, mixed}
	for n := 8; n < width; n += 8 {
		l = append(l, bit(n), bit(n+1))
	}
	return l
}

// bitsAbove are bit strings that a header of that width may not have: there are none at 256.
func bitsAbove(width int) []api.Bits {
	var l []api.Bits
	for n := width + 1; n <= 256; n++ {
		l = append(l, bit(n), both(bit(1), bit(n)))
	}
	return l
}

// headers may be: at each width each number at its least, its greatest and between, and all kinds of bits.
func headers() []api.Header {
	var l []api.Header
	for _, w := range widths {
		h := example
		h.Width = w
		for _, b := range bitsAt(w) {
			h.Bits = b
			l = append(l, h)
		}
		for _, n := range []int{0, 1, 64, 126, 127} {
			x := h
			x.Set = n
			l = append(l, x)
		}
		for _, n := range []uint32{0, 1, 255, 256, 1<<31 - 1, 1 << 31, math.MaxUint32} {
			x, y := h, h
			x.Entropy, y.Id = n, n
			l = append(l, x, y)
		}
		for n := range 16 {
			x := h
			x.Hops = n
			l = append(l, x)
		}
		for n := range 24 {
			x := h
			x.Source = n + 1
			l = append(l, x)
		}
		for n := range 8 {
			x := h
			x.Group = n
			l = append(l, x)
		}
		l = append(l,
			api.Header{Width: w, Source: 1},
			api.Header{Width: w, Set: 127, Entropy: math.MaxUint32, Hops: 15, Source: 24, Group: 7, Id: math.MaxUint32, Bits: upTo(w)})
	}
	return l
}

// noHeaders may not be: one thing is wrong with each of them, and then all at once.
func noHeaders() []api.Header {
	var l []api.Header
	wrong := func(h api.Header, change func(h *api.Header)) {
		change(&h)
		l = append(l, h)
	}
	for _, w := range widths {
		for _, h := range []api.Header{{Width: w, Source: 1}, {Width: w, Set: 5, Entropy: 6, Hops: 7, Source: 8, Group: 4, Id: 9, Bits: bit(w)}} {
			for _, n := range []int{-1, -128, -256, -1 << 32, math.MinInt, math.MaxInt, 256, 257, 1 << 16, 1 << 32, 1<<32 + 1} {
				wrong(h, func(h *api.Header) { h.Set = n })
				wrong(h, func(h *api.Header) { h.Hops = n })
				wrong(h, func(h *api.Header) { h.Source = n })
				wrong(h, func(h *api.Header) { h.Group = n })
			}
			wrong(h, func(h *api.Header) { h.Set = 128 })
			wrong(h, func(h *api.Header) { h.Hops = 16 })
			wrong(h, func(h *api.Header) { h.Source = 0 })
			wrong(h, func(h *api.Header) { h.Source = 25 })
			wrong(h, func(h *api.Header) { h.Group = 8 })
			for _, b := range bitsAbove(w) {
				wrong(h, func(h *api.Header) { h.Bits = b })
			}
			wrong(h, func(h *api.Header) { *h = api.Header{Width: w + 1, Set: 128, Hops: 16, Group: 8, Bits: upTo(256)} })
		}
	}
	for _, w := range noWidths() {
		wrong(example, func(h *api.Header) { h.Width = w })
		wrong(example, func(h *api.Header) { h.Width, h.Bits = w, api.Bits{} })
	}
	return append(l, api.Header{})
}

// mayBe is the document's words, one by one.
func mayBe(h api.Header) bool {
	return slices.Contains(widths, h.Width) && h.Set >= 0 && h.Set <= 127 && h.Hops >= 0 && h.Hops <= 15 &&
		h.Source >= 1 && h.Source <= 24 && h.Group >= 0 && h.Group <= 7 && !hasAbove(h.Bits, h.Width)
}

// laid is a header's bytes without the seal, by Go's library. It lays headers that may not be too, if their numbers go into a byte.
func laid(h api.Header) string {
	out := []byte{byte(16 + slices.Index(widths, h.Width)), byte(h.Set)}
	out = binary.BigEndian.AppendUint32(out, h.Entropy)
	out = append(out, byte(h.Hops), byte(h.Source), byte(h.Group))
	out = binary.BigEndian.AppendUint32(out, h.Id)
	var b []byte
	for _, w := range h.Bits {
		b = binary.LittleEndian.AppendUint64(b, w)
	}
	return string(append(out, b[:h.Width/8]...))
}

// told is what laid has laid.
func told(b string) api.Header {
	h := api.Header{Width: 8 << (b[0] - 16), Set: int(b[1]), Hops: int(b[6]), Source: int(b[7]), Group: int(b[8])}
	h.Entropy = binary.BigEndian.Uint32([]byte(b[2:6]))
	h.Id = binary.BigEndian.Uint32([]byte(b[9:13]))
	room := make([]byte, 32)
	copy(room, b[13:])
	for i := range h.Bits {
		h.Bits[i] = binary.LittleEndian.Uint64(room[8*i:])
	}
	return h
}

// P3.1

func TestWide(t *testing.T) {
	for _, w := range widths {
		if !header.Wide(w) {
			t.Errorf("%d is a width", w)
		}
	}
	for _, w := range noWidths() {
		if header.Wide(w) {
			t.Errorf("%d is no width", w)
		}
	}
}

func TestCheck(t *testing.T) {
	for _, h := range headers() {
		if e := header.Check(h); e != api.OK {
			t.Errorf("Check(%v) = %d", h, e)
		}
	}
}

func TestCheckRefuses(t *testing.T) {
	for _, h := range noHeaders() {
		if e := header.Check(h); e != api.ErrArg {
			t.Errorf("Check(%v) = %d", h, e)
		}
	}
}

func TestCheckAtTheEdgeOfEachWidth(t *testing.T) {
	for _, w := range widths {
		for n := 1; n <= 256; n++ {
			want := api.OK
			if n > w {
				want = api.ErrArg
			}
			h := api.Header{Width: w, Source: 24, Bits: bit(n)}
			if e := header.Check(h); e != want {
				t.Errorf("the bit %d at the width %d: Check = %d", n, w, e)
			}
		}
	}
}

func TestCheckOfAllSmallNumbers(t *testing.T) {
	for n := -300; n <= 300; n++ {
		for _, change := range []func(h *api.Header){
			func(h *api.Header) { h.Width = n },
			func(h *api.Header) { h.Set = n },
			func(h *api.Header) { h.Hops = n },
			func(h *api.Header) { h.Source = n },
			func(h *api.Header) { h.Group = n },
		} {
			h := example
			change(&h)
			want := api.ErrArg
			if mayBe(h) {
				want = api.OK
			}
			if e := header.Check(h); e != want {
				t.Errorf("Check(%v) = %d", h, e)
			}
		}
	}
}

func TestSize(t *testing.T) {
	for w, want := range map[int]int{8: 16, 16: 17, 32: 19, 64: 23, 128: 31, 256: 47} {
		if n, e := header.Size(w); n != want || e != api.OK {
			t.Errorf("Size(%d) = %d, %d", w, n, e)
		}
	}
	for _, w := range noWidths() {
		if n, e := header.Size(w); n != 0 || e != api.ErrArg {
			t.Errorf("Size(%d) = %d, %d", w, n, e)
		}
	}
}

// P3.2

func TestEncodeOfTheExample(t *testing.T) {
	if s, e := header.Encode(example); s != exampleBytes || e != api.OK {
		t.Errorf("Encode = %x, %d", s, e)
	}
	wide := example
	wide.Width, wide.Bits = 256, bit(256)
	want := "\x15" + exampleBytes[1:13] + strings.Repeat("\x00", 31) + "\x80\x23\xed"
	if s, e := header.Encode(wide); s != want || e != api.OK {
		t.Errorf("Encode = %x, %d", s, e)
	}
}

func TestEncode(t *testing.T) {
	for _, h := range headers() {
		s, e := header.Encode(h)
		if s != wire.Seal(laid(h)) || e != api.OK {
			t.Errorf("Encode(%v) = %x, %d", h, s, e)
		}
		if n, _ := header.Size(h.Width); n != len(s) {
			t.Errorf("Size(%d) = %d, and Encode tells %d bytes", h.Width, n, len(s))
		}
	}
}

func TestEncodeRefuses(t *testing.T) {
	for _, h := range noHeaders() {
		if s, e := header.Encode(h); s != "" || e != api.ErrArg {
			t.Errorf("Encode(%v) = %x, %d", h, s, e)
		}
	}
}

func TestDecode(t *testing.T) {
	if h, e := header.Decode(exampleBytes); h != example || e != api.OK {
		t.Errorf("Decode of the example = %v, %d", h, e)
	}
	for _, h := range headers() {
		if got, e := header.Decode(wire.Seal(laid(h))); got != h || e != api.OK {
			t.Errorf("Decode of %v = %v, %d", h, got, e)
		}
	}
}

func refuse(t *testing.T, s string, want api.Errno) {
	t.Helper()
	if h, e := header.Decode(s); h != (api.Header{}) || e != want {
		t.Errorf("Decode(%x) = %v, %d; %d is asked for", s, h, e, want)
	}
}

func TestDecodeRefusesFirstBytes(t *testing.T) {
	for c := range 256 {
		if c >= 16 && c <= 21 {
			continue
		}
		for _, w := range widths {
			h := example
			h.Width, h.Bits = w, bit(w)
			body := string([]byte{byte(c)}) + laid(h)[1:]
			// The one has the right sum, the other one a wrong one: the first byte comes ahead of that.
			refuse(t, wire.Seal(body), api.ErrForm)
			refuse(t, body+"\x00\x00", api.ErrForm)
		}
	}
}

func TestDecodeRefusesFirstBytesOfOtherWidths(t *testing.T) {
	for _, w := range widths {
		for code, other := range widths {
			if other == w {
				continue
			}
			h := example
			h.Width, h.Bits = w, bit(w)
			refuse(t, wire.Seal(string([]byte{byte(16 + code)})+laid(h)[1:]), api.ErrForm)
		}
	}
}

func TestDecodeRefusesLengths(t *testing.T) {
	refuse(t, "", api.ErrForm)
	for c := range 256 {
		refuse(t, string([]byte{byte(c)}), api.ErrForm)
	}
	for _, w := range widths {
		h := example
		h.Width, h.Bits = w, bit(w)
		s := wire.Seal(laid(h))
		for n := range len(s) {
			refuse(t, s[:n], api.ErrForm)
		}
		for n := range 70 {
			refuse(t, s+strings.Repeat("\x00", n+1), api.ErrForm)
		}
		// Sums that are right do not make up for the length.
		body := laid(h)
		refuse(t, wire.Seal(body[:len(body)-1]), api.ErrForm)
		refuse(t, wire.Seal(body+"\x00"), api.ErrForm)
		refuse(t, wire.Seal(s), api.ErrForm)
		refuse(t, wire.Seal(body[:1]), api.ErrForm)
	}
}

func TestDecodeRefusesSums(t *testing.T) {
	refuse(t, exampleBytes[:13]+"\x80"+exampleBytes[14:], api.ErrSum)
	for _, h := range headers() {
		body := laid(h)
		sum := wire.Sum(body)
		for _, wrong := range []uint16{^sum, sum ^ 1, sum ^ 0x8000, sum<<8 | sum>>8, sum + 1} {
			if wrong != sum {
				refuse(t, string(binary.BigEndian.AppendUint16([]byte(body), wrong)), api.ErrSum)
			}
		}
	}
	for n := range 1 << 16 {
		if s := exampleBytes[:14] + string([]byte{byte(n >> 8), byte(n)}); s != exampleBytes {
			refuse(t, s, api.ErrSum)
		}
	}
}

func TestDecodeRefusesNumbers(t *testing.T) {
	for _, w := range widths {
		h := example
		h.Width, h.Bits = w, bit(w)
		for _, at := range []int{1, 6, 7, 8} {
			for c := range 256 {
				b := []byte(laid(h))
				b[at] = byte(c)
				decodeAsModel(t, wire.Seal(string(b)))
			}
		}
	}
	for _, x := range []struct {
		at int
		c  byte
	}{{1, 128}, {1, 255}, {6, 16}, {6, 255}, {7, 0}, {7, 25}, {7, 255}, {8, 8}, {8, 255}} {
		b := []byte(laid(example))
		b[x.at] = x.c
		refuse(t, wire.Seal(string(b)), api.ErrForm)
		// The sum comes ahead of what stands there.
		refuse(t, string(b)+exampleBytes[14:], api.ErrSum)
	}
}

// decodeAsModel holds Decode against the document's words, one by one.
func decodeAsModel(t *testing.T, s string) {
	t.Helper()
	if s == "" || s[0] < 16 || s[0] > 21 || len(s) != 13+1<<(s[0]-16)+2 {
		refuse(t, s, api.ErrForm)
		return
	}
	body := s[:len(s)-2]
	if binary.BigEndian.Uint16([]byte(s[len(s)-2:])) != wire.Sum(body) {
		refuse(t, s, api.ErrSum)
		return
	}
	want := told(body)
	if !mayBe(want) {
		refuse(t, s, api.ErrForm)
		return
	}
	if h, e := header.Decode(s); h != want || e != api.OK {
		t.Errorf("Decode(%x) = %v, %d; %v is asked for", s, h, e, want)
	}
}

func FuzzDecode(f *testing.F) {
	f.Add("")
	f.Add(exampleBytes)
	for _, w := range widths {
		f.Add(laid(api.Header{Width: w, Source: 1, Bits: upTo(w)}))
	}
	f.Fuzz(func(t *testing.T, s string) {
		decodeAsModel(t, s)
		// Made-up bytes hardly ever have the right sum: with one behind them they come further.
		decodeAsModel(t, wire.Seal(s))
	})
}

// P3.3

func TestHop(t *testing.T) {
	for _, h := range headers() {
		want, wantE := h, api.OK
		want.Hops--
		if h.Hops == 0 {
			want, wantE = api.Header{}, api.ErrNone
		}
		if got, e := header.Hop(h); got != want || e != wantE {
			t.Errorf("Hop(%v) = %v, %d", h, got, e)
		}
	}
}

func TestHopTillNoneIsLeft(t *testing.T) {
	h, e := example, api.OK
	for left := 14; left >= 0; left-- {
		h, e = header.Hop(h)
		if h.Hops != left || e != api.OK {
			t.Fatalf("Hop = %v, %d; Hops %d are asked for", h, e, left)
		}
	}
	if h, e = header.Hop(h); h != (api.Header{}) || e != api.ErrNone {
		t.Errorf("Hop of Hops 0 = %v, %d", h, e)
	}
}

func TestHopRefuses(t *testing.T) {
	for _, h := range noHeaders() {
		if got, e := header.Hop(h); got != (api.Header{}) || e != api.ErrArg {
			t.Errorf("Hop(%v) = %v, %d", h, got, e)
		}
		// That there is none is told of headers that may be alone.
		if h.Hops = 0; mayBe(h) {
			continue
		}
		if got, e := header.Hop(h); got != (api.Header{}) || e != api.ErrArg {
			t.Errorf("Hop(%v) = %v, %d", h, got, e)
		}
	}
}

func TestWith(t *testing.T) {
	for _, h := range headers() {
		for _, b := range bitsAt(h.Width) {
			want := h
			want.Bits = b
			if got, e := header.With(h, b); got != want || e != api.OK {
				t.Fatalf("With(%v, %x) = %v, %d", h, b, got, e)
			}
		}
	}
}

func TestWithRefusesBits(t *testing.T) {
	for _, w := range widths {
		h := api.Header{Width: w, Source: 1, Bits: bit(w)}
		for _, b := range bitsAbove(w) {
			if got, e := header.With(h, b); got != (api.Header{}) || e != api.ErrLong {
				t.Errorf("With(%v, %x) = %v, %d", h, b, got, e)
			}
		}
	}
}

func TestWithRefusesHeaders(t *testing.T) {
	for _, h := range noHeaders() {
		// Bits that would be good, and such as are above any of the lesser widths: what is wrong with the header comes first.
		for _, b := range []api.Bits{{}, bit(1), bit(256)} {
			if got, e := header.With(h, b); got != (api.Header{}) || e != api.ErrArg {
				t.Errorf("With(%v, %x) = %v, %d", h, b, got, e)
			}
		}
	}
}

// P3.4

func TestThereAndBack(t *testing.T) {
	for _, h := range headers() {
		s, e := header.Encode(h)
		if e != api.OK {
			t.Fatalf("Encode(%v): %d", h, e)
		}
		if got, e := header.Decode(s); got != h || e != api.OK {
			t.Errorf("Decode of Encode(%v) = %v, %d", h, got, e)
		}
	}
}

// mixedBodies are bytes of the width's length from a fixed rule; the numbers of every second one are brought to such as may be.
func mixedBodies(code, count int) []string {
	var l []string
	x := uint32(code)*2 + 1
	for i := range count {
		b := make([]byte, 13+1<<code)
		for k := range b {
			x = x*1664525 + 1013904223
			b[k] = byte(x >> 24)
		}
		b[0] = byte(16 + code)
		if i%2 == 0 {
			b[1], b[6], b[7], b[8] = b[1]%128, b[6]%16, b[7]%24+1, b[8]%8
		}
		l = append(l, string(b))
	}
	return l
}

func TestBytesThereAndBack(t *testing.T) {
	for code := range widths {
		taken := 0
		for _, body := range mixedBodies(code, 2000) {
			s := wire.Seal(body)
			decodeAsModel(t, s)
			h, e := header.Decode(s)
			if e != api.OK {
				continue
			}
			taken++
			if again, e := header.Encode(h); again != s || e != api.OK {
				t.Errorf("Encode of Decode(%x) = %x, %d", s, again, e)
			}
		}
		if taken < 1000 {
			t.Errorf("the code %d: Decode took %d of the bytes", code, taken)
		}
	}
}

func TestOneByteTurned(t *testing.T) {
	for _, w := range widths {
		for _, h := range []api.Header{{Width: w, Source: 1}, {Width: w, Set: 127, Entropy: math.MaxUint32, Hops: 15, Source: 24, Group: 7, Id: math.MaxUint32, Bits: upTo(w)}, {Width: w, Set: 5, Entropy: 6, Hops: 7, Source: 8, Group: 4, Id: 9, Bits: bit(w)}} {
			s, _ := header.Encode(h)
			for at := range len(s) {
				for by := 1; by < 256; by++ {
					b := []byte(s)
					b[at] ^= byte(by)
					decodeAsModel(t, string(b))
					if got, e := header.Decode(string(b)); got == h || e == api.OK && got == (api.Header{}) {
						t.Fatalf("%x, the byte %d turned by %x: %v, %d", s, at, by, got, e)
					}
				}
			}
		}
	}
}

func TestHopAndWithLeaveAllElse(t *testing.T) {
	for _, h := range headers() {
		if h.Hops == 0 {
			continue
		}
		b := bit(h.Width)
		hopped, e := header.Hop(h)
		got, f := header.With(hopped, b)
		want := h
		want.Hops, want.Bits = h.Hops-1, b
		if got != want || e != api.OK || f != api.OK {
			t.Errorf("With of Hop(%v) = %v, %d, %d", h, got, e, f)
		}
		s, _ := header.Encode(h)
		other, _ := header.Encode(hopped)
		for at := range s[:len(s)-2] {
			if at != 6 && s[at] != other[at] {
				t.Errorf("Hop(%v) has changed the byte %d", h, at)
			}
		}
	}
}
