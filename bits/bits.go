// Package bits is layer 1: bit strings; see shared/doc/01-bits.md.
package bits

import (
	"iter"
	mathbits "math/bits"
	"strconv"
	"strings"

	"dandelion/api"
)

const (
	wordBits  = 64
	byteBits  = 8
	wordBytes = wordBits / byteBits
	maxBytes  = api.MaxBits / byteBits
	noneText  = "-"
)

func isBit(n int) bool { return n >= 1 && n <= api.MaxBits }

// only is handed numbers of bits alone: any other one is no place of the array.
func only(n int) api.Bits {
	var b api.Bits
	b[(n-1)/wordBits] = 1 << ((n - 1) % wordBits)
	return b
}

func highest(b api.Bits) int {
	for i := len(b) - 1; i >= 0; i-- {
		if b[i] != 0 {
			return i*wordBits + mathbits.Len64(b[i])
		}
	}
	return 0
}

func Of(l ...int) (api.Bits, api.Errno) {
	var b api.Bits
	for _, n := range l {
		if !isBit(n) {
			return api.Bits{}, api.ErrArg
		}
		b = Or(b, only(n))
	}
	return b, api.OK
}

func Has(b api.Bits, n int) bool {
	return isBit(n) && And(b, only(n)) != api.Bits{}
}

func With(b api.Bits, n int) (api.Bits, api.Errno) {
	if !isBit(n) {
		return api.Bits{}, api.ErrArg
	}
	return Or(b, only(n)), api.OK
}

func Without(b api.Bits, n int) (api.Bits, api.Errno) {
	if !isBit(n) {
		return api.Bits{}, api.ErrArg
	}
	return AndNot(b, only(n)), api.OK
}

func And(a, b api.Bits) api.Bits {
	for i, w := range b {
		a[i] &= w
	}
	return a
}

func Or(a, b api.Bits) api.Bits {
	for i, w := range b {
		a[i] |= w
	}
	return a
}

func AndNot(a, b api.Bits) api.Bits {
	for i, w := range b {
		a[i] &^= w
	}
	return a
}

func Lowest(b api.Bits) int {
	for i, w := range b {
		if w != 0 {
			return i*wordBits + mathbits.TrailingZeros64(w) + 1
		}
	}
	return 0
}

func Count(b api.Bits) int {
	count := 0
	for _, w := range b {
		count += mathbits.OnesCount64(w)
	}
	return count
}

func Below(b api.Bits, width int) bool {
	return width >= 0 && width <= api.MaxBits && highest(b) <= width
}

func List(b api.Bits) []int {
	l := make([]int, 0, Count(b))
	for n := range Each(b) {
		l = append(l, n)
	}
	return l
}

func Each(b api.Bits) iter.Seq[int] {
	return func(yield func(int) bool) {
		// A copy of its own is used up, so that b can be gone through again.
		rest := b
		for rest != (api.Bits{}) {
			n := Lowest(rest)
			if !yield(n) {
				return
			}
			rest = AndNot(rest, only(n))
		}
	}
}

func Bytes(b api.Bits, width int) (string, api.Errno) {
	if width < byteBits || width > api.MaxBits || width%byteBits != 0 {
		return "", api.ErrArg
	}
	if !Below(b, width) {
		return "", api.ErrLong
	}
	out := make([]byte, width/byteBits)
	for i := range out {
		out[i] = byte(b[i/wordBytes] >> (i % wordBytes * byteBits))
	}
	return string(out), api.OK
}

func Read(s string) (api.Bits, api.Errno) {
	var b api.Bits
	if len(s) < 1 || len(s) > maxBytes {
		return b, api.ErrForm
	}
	for i := range len(s) {
		b[i/wordBytes] |= uint64(s[i]) << (i % wordBytes * byteBits)
	}
	return b, api.OK
}

func Text(b api.Bits) string {
	if b == (api.Bits{}) {
		return noneText
	}
	var words []string
	for n := range Each(b) {
		words = append(words, strconv.Itoa(n))
	}
	return strings.Join(words, " ")
}

func Parse(s string) (api.Bits, api.Errno) {
	if s == noneText {
		return api.Bits{}, api.OK
	}
	var b api.Bits
	last, more := 0, true
	for more {
		var word string
		word, s, more = strings.Cut(s, " ")
		n, ok := number(word)
		// Text tells bits rising, each once: any other order is nobody's text.
		if !ok || !isBit(n) || n <= last {
			return api.Bits{}, api.ErrForm
		}
		b = Or(b, only(n))
		last = n
	}
	return b, api.OK
}

func number(word string) (int, bool) {
	n, err := strconv.Atoi(word)
	// Atoi also takes a + and noughts ahead, which R9 rules out.
	if err != nil || strconv.Itoa(n) != word {
		return 0, false
	}
	return n, true
}
