package msg_test

import (
	"encoding/binary"
	"fmt"
	"math"
	"reflect"
	"slices"
	"strings"
	"sync"
	"testing"

	"dandelion/api"
	"dandelion/msg"
)

// far are numbers far from all that may be, such as are like one that may be in their lowest bits among them.
var far = []int{
	math.MinInt, math.MinInt + 1, math.MinInt + 7, math.MinInt32, math.MaxInt32, math.MaxInt - 1, math.MaxInt,
	256, 257, 263, 280, 1 << 16, 1<<16 + 1, 1<<16 + 7, 1 << 32, 1<<32 + 1, 1<<32 + 7, 1<<32 + 24,
	-255, -249, 1 - 1<<16, 7 - 1<<16, 1 - 1<<32, 7 - 1<<32, 1<<61 + 1, 1<<62 + 7,
}

var (
	noRouters = append([]int{0, -1, -2, -24, 25, 26, 32, 255}, far...)
	noHops    = append([]int{-1, -2, -15, -24, 25, 26, 32, 255}, far...)
	noKinds   = append([]int{0, -1, -5, 6, 7, 8, 10, 255}, far...)
	lives     = []uint32{1, 2, 3, 255, 256, 257, 1<<16 - 1, 1 << 16, 1<<24 + 1, 1<<31 - 1, 1 << 31, 1<<31 + 1, math.MaxUint32 - 1, math.MaxUint32}
)

func wish() api.Message {
	return api.Message{Kind: api.MsgWish, To: 7, Hops: 15, Wish: api.Wish{From: 2, Epoch: 1, Version: 3, Groups: 0x81}}
}

func ack() api.Message {
	return api.Message{Kind: api.MsgAck, To: 2, Hops: 15, Ack: api.Ack{From: 7, Epoch: 1, To: 2, Life: 1, Version: 3}}
}

func stamp() api.Message {
	return api.Message{Kind: api.MsgStamp, Stamp: api.Stamp{Origin: 3, Epoch: 1, Seq: 2}}
}

func data() api.Message {
	return api.Message{Kind: api.MsgData, Header: api.Header{Width: 8, Set: 2, Entropy: 0x01020304, Hops: 15, Source: 7, Group: 3, Id: 9, Bits: api.Bits{0x81}}}
}

func rec() api.Message {
	return api.Message{Kind: api.MsgRecord, Record: api.Record{Origin: 1, Epoch: 1, Seq: 2, Claim: 258, Ingress: true, Adjs: []api.Adj{{To: 2, Cost: 5}}}}
}

// neighbours are so many of a router, the greatest ones, with unlike costs up to the greatest.
func neighbours(origin, count int) []api.Adj {
	var l []api.Adj
	for to := 24; len(l) < count; to-- {
		if to != origin {
			l = append(l, api.Adj{To: to, Cost: 1000 - 37*len(l)})
		}
	}
	slices.Reverse(l)
	return l
}

// bases are messages of each kind: ordinary ones, the least, and such as have all that may be.
func bases() []api.Message {
	full := api.Bits{math.MaxUint64, math.MaxUint64, math.MaxUint64, math.MaxUint64}
	return []api.Message{
		rec(),
		{Kind: 1, Record: api.Record{Origin: 1, Epoch: 1, Seq: 1}},
		{Kind: 1, Record: api.Record{Origin: 2, Epoch: 0x01020304, Seq: 0x05060708, Claim: 1, Adjs: []api.Adj{{To: 1, Cost: 7}, {To: 3, Cost: 1}}}},
		{Kind: 1, Record: api.Record{Origin: 24, Epoch: math.MaxUint32, Seq: math.MaxUint32, Claim: 1024, Ingress: true, Adjs: neighbours(24, 16)}},
		stamp(),
		{Kind: 2, Stamp: api.Stamp{Origin: 1, Epoch: 1, Seq: 1}},
		{Kind: 2, Stamp: api.Stamp{Origin: 24, Epoch: math.MaxUint32, Seq: math.MaxUint32}},
		{Kind: 2, Stamp: api.Stamp{Origin: 9, Epoch: 0x01020304, Seq: 0x05060708}},
		data(),
		{Kind: 3, Header: api.Header{Width: 8, Source: 1}},
		{Kind: 3, Header: api.Header{Width: 16, Source: 2, Bits: api.Bits{0x8001}}},
		{Kind: 3, Header: api.Header{Width: 32, Set: 64, Hops: 1, Source: 12, Group: 1, Bits: api.Bits{0x80000001}}},
		{Kind: 3, Header: api.Header{Width: 64, Hops: 7, Source: 3, Id: 0x05060708, Bits: api.Bits{1<<63 | 1}}},
		{Kind: 3, Header: api.Header{Width: 128, Entropy: 1, Source: 3, Bits: api.Bits{1, 1 << 63}}},
		{Kind: 3, Header: api.Header{Width: 256, Set: 127, Entropy: math.MaxUint32, Hops: 15, Source: 24, Group: 7, Id: math.MaxUint32, Bits: full}},
		wish(),
		{Kind: 4, To: 1, Wish: api.Wish{From: 1, Epoch: 1, Version: 1}},
		{Kind: 4, To: 24, Hops: 24, Wish: api.Wish{From: 24, Epoch: math.MaxUint32, Version: math.MaxUint32, Groups: 255}},
		{Kind: 4, To: 3, Hops: 1, Wish: api.Wish{From: 9, Epoch: 0x01020304, Version: 0x05060708, Groups: 8}},
		ack(),
		{Kind: 5, To: 1, Ack: api.Ack{From: 1, Epoch: 1, To: 1, Life: 1, Version: 1}},
		{Kind: 5, To: 24, Hops: 24, Ack: api.Ack{From: 24, Epoch: math.MaxUint32, To: 24, Life: math.MaxUint32, Version: math.MaxUint32}},
		{Kind: 5, To: 3, Hops: 1, Ack: api.Ack{From: 9, Epoch: 0x01020304, To: 8, Life: 0x05060708, Version: 0x090a0b0c}},
	}
}

// copied shares no list with m.
func copied(m api.Message) api.Message {
	m.Record.Adjs = slices.Clone(m.Record.Adjs)
	return m
}

// The document's words a second time, without the packages that are tested.

func isRouter(n int) bool { return 1 <= n && n <= 24 }

func isWidth(n int) bool { return slices.Contains([]int{8, 16, 32, 64, 128, 256}, n) }

func plainRecordMayBe(r api.Record) bool {
	ok := isRouter(r.Origin) && r.Epoch > 0 && r.Seq > 0 && 0 <= r.Claim && r.Claim <= 1024 && len(r.Adjs) <= 16
	for i, a := range r.Adjs {
		ok = ok && isRouter(a.To) && a.To != r.Origin && 1 <= a.Cost && a.Cost <= 1000 && (i == 0 || r.Adjs[i-1].To < a.To)
	}
	return ok
}

func plainHeaderMayBe(h api.Header) bool {
	ok := isWidth(h.Width) && 0 <= h.Set && h.Set <= 127 && 0 <= h.Hops && h.Hops <= 15 && isRouter(h.Source) && 0 <= h.Group && h.Group <= 7
	for n := max(h.Width, 0); ok && n < 256; n++ {
		ok = h.Bits[n/64]>>(n%64)&1 == 0
	}
	return ok
}

// plainMayBe takes what the kind names out of m, and asks whether anything is left.
func plainMayBe(m api.Message) bool {
	way := isRouter(m.To) && 0 <= m.Hops && m.Hops <= 24
	ok := false
	left := m
	left.Kind = 0
	switch m.Kind {
	case 1:
		ok, left.Record = plainRecordMayBe(m.Record), api.Record{}
	case 2:
		ok, left.Stamp = isRouter(m.Stamp.Origin) && m.Stamp.Epoch > 0 && m.Stamp.Seq > 0, api.Stamp{}
	case 3:
		ok, left.Header = plainHeaderMayBe(m.Header), api.Header{}
	case 4:
		w := m.Wish
		ok = way && isRouter(w.From) && w.Epoch > 0 && w.Version > 0
		left.To, left.Hops, left.Wish = 0, 0, api.Wish{}
	case 5:
		a := m.Ack
		ok = way && isRouter(a.From) && isRouter(a.To) && a.Epoch > 0 && a.Life > 0 && a.Version > 0
		left.To, left.Hops, left.Ack = 0, 0, api.Ack{}
	}
	if len(left.Record.Adjs) == 0 {
		left.Record.Adjs = nil
	}
	return ok && reflect.DeepEqual(left, api.Message{})
}

// laid puts numbers behind one another, each as the document's size in bytes says: "1 4 4" and three numbers.
func laid(sizes string, numbers ...uint64) string {
	var out []byte
	for i, size := range strings.Fields(sizes) {
		whole := binary.BigEndian.AppendUint64(nil, numbers[i])
		out = append(out, whole[8-int(size[0]-'0'):]...)
	}
	return string(out)
}

// plainSum goes bit by bit: a register that is moved up, and turned when what falls out is unlike the bit that comes.
func plainSum(b string) uint16 {
	s := uint16(0xffff)
	for i := range 8 * len(b) {
		in := b[i/8] >> (7 - i%8) & 1
		out := byte(s >> 15)
		s <<= 1
		if in != out {
			s ^= 0x1021
		}
	}
	return s
}

func sealed(b string) string { return b + laid("2", uint64(plainSum(b))) }

// plainBody is what stands ahead of the seal, of a message that may be.
func plainBody(m api.Message) string {
	r, s, h, w, a := m.Record, m.Stamp, m.Header, m.Wish, m.Ack
	switch m.Kind {
	case 1:
		ingress := uint64(0)
		if r.Ingress {
			ingress = 1
		}
		out := laid("1 1 4 4 2 1 1", 1, uint64(r.Origin), uint64(r.Epoch), uint64(r.Seq), uint64(r.Claim), ingress, uint64(len(r.Adjs)))
		for _, x := range r.Adjs {
			out += laid("1 2", uint64(x.To), uint64(x.Cost))
		}
		return out
	case 2:
		return laid("1 1 4 4", 2, uint64(s.Origin), uint64(s.Epoch), uint64(s.Seq))
	case 3:
		code := slices.Index([]int{8, 16, 32, 64, 128, 256}, h.Width)
		head := laid("1 1 4 1 1 1 4", uint64(16+code), uint64(h.Set), uint64(h.Entropy), uint64(h.Hops), uint64(h.Source), uint64(h.Group), uint64(h.Id))
		for n := 0; n < h.Width; n += 8 {
			head += string([]byte{byte(h.Bits[n/64] >> (n % 64))})
		}
		return "\x03" + sealed(head)
	case 4:
		return laid("1 1 1 1 4 4 1", 4, uint64(m.To), uint64(m.Hops), uint64(w.From), uint64(w.Epoch), uint64(w.Version), uint64(w.Groups))
	}
	return laid("1 1 1 1 4 1 4 4", 5, uint64(m.To), uint64(m.Hops), uint64(a.From), uint64(a.Epoch), uint64(a.To), uint64(a.Life), uint64(a.Version))
}

func plainBytes(m api.Message) string { return sealed(plainBody(m)) }

// number is the one in the bytes from at up to end.
func number(s string, at, end int) int {
	n := 0
	for _, c := range []byte(s[at:end]) {
		n = n<<8 + int(c)
	}
	return n
}

func life(s string, at int) uint32 { return uint32(number(s, at, at+4)) }

// plainRead goes by fixed places, which a length that is not the kind's rules out ahead of that.
func plainRead(b string) (m api.Message, ok bool) {
	m.Kind = int(b[0])
	switch {
	case m.Kind == 1 && len(b) >= 14 && len(b) == 14+3*int(b[13]) && b[12] <= 1:
		m.Record = api.Record{Origin: number(b, 1, 2), Epoch: life(b, 2), Seq: life(b, 6), Claim: number(b, 10, 12), Ingress: b[12] == 1}
		for at := 14; at < len(b); at += 3 {
			m.Record.Adjs = append(m.Record.Adjs, api.Adj{To: number(b, at, at+1), Cost: number(b, at+1, at+3)})
		}
	case m.Kind == 2 && len(b) == 10:
		m.Stamp = api.Stamp{Origin: number(b, 1, 2), Epoch: life(b, 2), Seq: life(b, 6)}
	case m.Kind == 3 && len(b) > 1 && b[1] >= 16 && b[1] <= 21:
		bytes := 1 << (b[1] - 16)
		if len(b) != 1+13+bytes+2 || sealed(b[1:len(b)-2]) != b[1:] {
			return m, false
		}
		m.Header = api.Header{Width: 8 * bytes, Set: number(b, 2, 3), Entropy: life(b, 3), Hops: number(b, 7, 8), Source: number(b, 8, 9), Group: number(b, 9, 10), Id: life(b, 10)}
		for i := range bytes {
			m.Header.Bits[i/8] |= uint64(b[14+i]) << (i % 8 * 8)
		}
	case m.Kind == 4 && len(b) == 13:
		m.To, m.Hops = number(b, 1, 2), number(b, 2, 3)
		m.Wish = api.Wish{From: number(b, 3, 4), Epoch: life(b, 4), Version: life(b, 8), Groups: b[12]}
	case m.Kind == 5 && len(b) == 17:
		m.To, m.Hops = number(b, 1, 2), number(b, 2, 3)
		m.Ack = api.Ack{From: number(b, 3, 4), Epoch: life(b, 4), To: number(b, 8, 9), Life: life(b, 9), Version: life(b, 13)}
	default:
		return m, false
	}
	return m, plainMayBe(m)
}

func plainDecode(s string) (api.Message, api.Errno) {
	if len(s) > 512 {
		return api.Message{}, api.ErrLong
	}
	if len(s) < 3 {
		return api.Message{}, api.ErrForm
	}
	b := s[:len(s)-2]
	if sealed(b) != s {
		return api.Message{}, api.ErrSum
	}
	m, ok := plainRead(b)
	if !ok {
		return api.Message{}, api.ErrForm
	}
	return m, api.OK
}

// sameMessage takes an empty list for none.
func sameMessage(a, b api.Message) bool {
	for _, m := range []*api.Message{&a, &b} {
		if len(m.Record.Adjs) == 0 {
			m.Record.Adjs = nil
		}
	}
	return reflect.DeepEqual(a, b)
}

// holdMessage holds Check and Encode of m, and what comes back of it, against the document's words.
func holdMessage(t *testing.T, m api.Message) {
	t.Helper()
	s, e := msg.Encode(m)
	c := msg.Check(m)
	if !plainMayBe(m) {
		if c != api.ErrArg || e != api.ErrArg || s != "" {
			t.Fatalf("%+v may not be: Check %d, Encode %x, %d", m, c, s, e)
		}
		return
	}
	if c != api.OK || e != api.OK || s != plainBytes(m) {
		t.Fatalf("%+v: Check %d, Encode %x, %d; not %x", m, c, s, e, plainBytes(m))
	}
	holdBytes(t, s)
	if back, e := msg.Decode(s); e != api.OK || !sameMessage(back, m) {
		t.Fatalf("Decode of Encode of %+v = %+v, %d", m, back, e)
	}
}

// holdBytes holds Decode and Kind of s, and what they are encoded to again, against the document's words.
func holdBytes(t *testing.T, s string) {
	t.Helper()
	want, wantErr := plainDecode(s)
	m, e := msg.Decode(s)
	if e != wantErr || !sameMessage(m, want) {
		t.Fatalf("Decode(%x) = %+v, %d; not %+v, %d", s, m, e, want, wantErr)
	}
	if e != api.OK && !reflect.DeepEqual(m, api.Message{}) {
		t.Fatalf("Decode(%x) = %+v beside %d", s, m, e)
	}
	if k := msg.Kind(s); k != want.Kind {
		t.Fatalf("Kind(%x) = %d, not %d", s, k, want.Kind)
	}
	if e != api.OK {
		return
	}
	if again, e := msg.Encode(m); e != api.OK || again != s || msg.Check(m) != api.OK {
		t.Fatalf("Encode of Decode(%x) = %x, %d", s, again, e)
	}
}

func refused(t *testing.T, s string, want api.Errno) {
	t.Helper()
	m, e := msg.Decode(s)
	if e != want || !reflect.DeepEqual(m, api.Message{}) || msg.Kind(s) != 0 {
		t.Fatalf("Decode(%x) = %+v, %d, Kind %d; not %d", s, m, e, msg.Kind(s), want)
	}
	holdBytes(t, s)
}

func forbidden(t *testing.T, m api.Message) {
	t.Helper()
	if plainMayBe(m) {
		t.Fatalf("%+v may be", m)
	}
	holdMessage(t, m)
}

func allowed(t *testing.T, m api.Message) {
	t.Helper()
	if !plainMayBe(m) {
		t.Fatalf("%+v may not be", m)
	}
	holdMessage(t, m)
}

func turned(m api.Message, turn func(m *api.Message)) api.Message {
	m = copied(m)
	turn(&m)
	return m
}

// The examples of the chapter.

func TestAsTheExamplesTell(t *testing.T) {
	for _, c := range []struct {
		m    api.Message
		body string
	}{
		{stamp(), "\x02\x03\x00\x00\x00\x01\x00\x00\x00\x02"},
		{wish(), "\x04\x07\x0f\x02\x00\x00\x00\x01\x00\x00\x00\x03\x81"},
		{ack(), "\x05\x02\x0f\x07\x00\x00\x00\x01\x02\x00\x00\x00\x01\x00\x00\x00\x03"},
	} {
		if s, e := msg.Encode(c.m); e != api.OK || s != sealed(c.body) {
			t.Errorf("Encode(%+v) = %x, %d; not %x", c.m, s, e, sealed(c.body))
		}
	}
	for _, turn := range []func(m *api.Message){
		func(m *api.Message) { m.Stamp = stamp().Stamp },
		func(m *api.Message) { m.To = 25 },
		func(m *api.Message) { m.Hops = 25 },
		func(m *api.Message) { m.Wish.Version = 0 },
		func(m *api.Message) { m.Kind = 6 },
	} {
		if m := turned(wish(), turn); msg.Check(m) != api.ErrArg {
			t.Errorf("Check(%+v) = %d", m, msg.Check(m))
		}
	}
	s, _ := msg.Encode(wish())
	refused(t, "", api.ErrForm)
	refused(t, strings.Repeat("\x04", 513), api.ErrLong)
	refused(t, s[:5]+"\x09"+s[6:], api.ErrSum)
	if k := msg.Kind(s); k != 4 {
		t.Errorf("Kind of the wish's bytes = %d", k)
	}
}

// The bytes of a record and of a packet are written out here once, the seals too.
func TestBytesWrittenOut(t *testing.T) {
	for _, c := range []struct {
		m api.Message
		s string
	}{
		{rec(), "\x01\x01\x00\x00\x00\x01\x00\x00\x00\x02\x01\x02\x01\x01\x02\x00\x05\x22\xf8"},
		{data(), "\x03\x10\x02\x01\x02\x03\x04\x0f\x07\x03\x00\x00\x00\x09\x81\x5e\xea\x9c\xc0"},
		{wish(), "\x04\x07\x0f\x02\x00\x00\x00\x01\x00\x00\x00\x03\x81\xe1\x09"},
	} {
		s, e := msg.Encode(c.m)
		if e != api.OK || s != c.s {
			t.Errorf("Encode(%+v) = %x, %d; not %x", c.m, s, e, c.s)
		}
		if m, e := msg.Decode(c.s); e != api.OK || !sameMessage(m, c.m) {
			t.Errorf("Decode(%x) = %+v, %d", c.s, m, e)
		}
	}
}

// P19.1

func TestMessagesThatMayBe(t *testing.T) {
	for _, m := range bases() {
		allowed(t, m)
	}
}

func TestKinds(t *testing.T) {
	for _, m := range append(bases(), api.Message{}) {
		for _, k := range noKinds {
			forbidden(t, turned(m, func(m *api.Message) { m.Kind = k }))
		}
		for k := -300; k <= 300; k++ {
			if k != m.Kind {
				forbidden(t, turned(m, func(m *api.Message) { m.Kind = k }))
			}
		}
	}
}

// ways are the messages that go on to a router.
func ways() []api.Message {
	var l []api.Message
	for _, m := range bases() {
		if m.Kind >= 4 {
			l = append(l, m)
		}
	}
	return l
}

func TestToAndHops(t *testing.T) {
	for _, m := range ways() {
		for n := 1; n <= 24; n++ {
			allowed(t, turned(m, func(m *api.Message) { m.To = n }))
			allowed(t, turned(m, func(m *api.Message) { m.Hops = n }))
		}
		allowed(t, turned(m, func(m *api.Message) { m.Hops = 0 }))
		for _, n := range noRouters {
			forbidden(t, turned(m, func(m *api.Message) { m.To = n }))
		}
		for _, n := range noHops {
			forbidden(t, turned(m, func(m *api.Message) { m.Hops = n }))
		}
	}
}

func TestRoutersOfWishesAndAcks(t *testing.T) {
	for n := 1; n <= 24; n++ {
		allowed(t, turned(wish(), func(m *api.Message) { m.Wish.From = n }))
		allowed(t, turned(ack(), func(m *api.Message) { m.Ack.From = n }))
		allowed(t, turned(ack(), func(m *api.Message) { m.Ack.To = n }))
	}
	for _, n := range noRouters {
		forbidden(t, turned(wish(), func(m *api.Message) { m.Wish.From = n }))
		forbidden(t, turned(ack(), func(m *api.Message) { m.Ack.From = n }))
		forbidden(t, turned(ack(), func(m *api.Message) { m.Ack.To = n }))
	}
}

// livesOf are the places of a kind's epochs, lives, versions and numbers of records.
func livesOf(m *api.Message) []*uint32 {
	switch m.Kind {
	case 1:
		return []*uint32{&m.Record.Epoch, &m.Record.Seq}
	case 2:
		return []*uint32{&m.Stamp.Epoch, &m.Stamp.Seq}
	case 4:
		return []*uint32{&m.Wish.Epoch, &m.Wish.Version}
	case 5:
		return []*uint32{&m.Ack.Epoch, &m.Ack.Life, &m.Ack.Version}
	}
	return nil
}

func TestEpochsLivesVersions(t *testing.T) {
	for _, m := range bases() {
		for i := range livesOf(&m) {
			for _, n := range lives {
				allowed(t, turned(m, func(m *api.Message) { *livesOf(m)[i] = n }))
			}
			forbidden(t, turned(m, func(m *api.Message) { *livesOf(m)[i] = 0 }))
		}
	}
}

func TestGroups(t *testing.T) {
	for n := range 256 {
		allowed(t, turned(wish(), func(m *api.Message) { m.Wish.Groups = uint8(n) }))
	}
}

func TestRecordsThatMayNotBe(t *testing.T) {
	for _, turn := range []func(r *api.Record){
		func(r *api.Record) { *r = api.Record{} },
		func(r *api.Record) { r.Origin = 0 },
		func(r *api.Record) { r.Origin = 25 },
		func(r *api.Record) { r.Origin, r.Adjs = 2, []api.Adj{{To: 2, Cost: 1}} },
		func(r *api.Record) { r.Claim = -1 },
		func(r *api.Record) { r.Claim = 1025 },
		func(r *api.Record) { r.Adjs = neighbours(r.Origin, 17) },
		func(r *api.Record) { r.Adjs = []api.Adj{{To: 23, Cost: 1}, {To: 22, Cost: 1}} },
		func(r *api.Record) { r.Adjs = []api.Adj{{To: 22, Cost: 1}, {To: 22, Cost: 1}} },
		func(r *api.Record) { r.Adjs = []api.Adj{{To: 0, Cost: 1}} },
		func(r *api.Record) { r.Adjs = []api.Adj{{To: 22, Cost: 0}} },
		func(r *api.Record) { r.Adjs = []api.Adj{{To: 22, Cost: 1001}} },
		func(r *api.Record) { r.Adjs = make([]api.Adj, 1<<20) },
	} {
		for _, m := range bases()[:4] {
			forbidden(t, turned(m, func(m *api.Message) { turn(&m.Record) }))
		}
	}
}

func TestStampsThatMayNotBe(t *testing.T) {
	for _, n := range noRouters {
		forbidden(t, turned(stamp(), func(m *api.Message) { m.Stamp.Origin = n }))
	}
	forbidden(t, api.Message{Kind: 2})
}

func TestHeadersThatMayNotBe(t *testing.T) {
	for _, turn := range []func(h *api.Header){
		func(h *api.Header) { *h = api.Header{} },
		func(h *api.Header) { h.Width = 0 },
		func(h *api.Header) { h.Width = 24 },
		func(h *api.Header) { h.Width = 512 },
		func(h *api.Header) { h.Set = -1 },
		func(h *api.Header) { h.Set = 128 },
		func(h *api.Header) { h.Hops = -1 },
		func(h *api.Header) { h.Hops = 16 },
		func(h *api.Header) { h.Source = 0 },
		func(h *api.Header) { h.Source = 25 },
		func(h *api.Header) { h.Group = -1 },
		func(h *api.Header) { h.Group = 8 },
		func(h *api.Header) { h.Width, h.Bits = 8, api.Bits{1 << 8} },
		func(h *api.Header) { h.Width, h.Bits = 128, api.Bits{0, 0, 1} },
	} {
		for _, m := range bases() {
			if m.Kind == 3 {
				forbidden(t, turned(m, func(m *api.Message) { turn(&m.Header) }))
			}
		}
	}
}

// leaf is a field of a message that has no fields of its own.
type leaf struct {
	path string
	at   []int
}

func leaves(of reflect.Type, path string, at []int) []leaf {
	if of.Kind() != reflect.Struct {
		return []leaf{{path, at}}
	}
	var l []leaf
	for i := range of.NumField() {
		f := of.Field(i)
		l = append(l, leaves(f.Type, path+"."+f.Name, append(slices.Clone(at), i))...)
	}
	return l
}

func allLeaves() []leaf { return leaves(reflect.TypeFor[api.Message](), "", nil) }

// named are the fields of a kind, as the document's table tells them.
func named(kind int, path string) bool {
	for _, p := range [][]string{1: {".Record."}, 2: {".Stamp."}, 3: {".Header."}, 4: {".To", ".Hops", ".Wish."}, 5: {".To", ".Hops", ".Ack."}}[kind] {
		if strings.HasPrefix(path, p) {
			return true
		}
	}
	return false
}

// values are some that are not zero, such as may be and such as may not.
func values(v reflect.Value) []any {
	switch v.Interface().(type) {
	case bool:
		return []any{true}
	case int:
		return []any{1, 2, 5, 8, 24, 25, -1, 256, 1 << 32, math.MinInt, math.MaxInt}
	case uint32:
		return []any{uint32(1), uint32(256), uint32(1 << 31), uint32(math.MaxUint32)}
	case uint8:
		return []any{uint8(1), uint8(128), uint8(255)}
	case api.Bits:
		return []any{api.Bits{1}, api.Bits{1 << 63}, api.Bits{0, 1}, api.Bits{0, 0, 1}, api.Bits{0, 0, 0, 1 << 63}}
	}
	return []any{[]api.Adj{{}}, []api.Adj{{To: 3, Cost: 1}}, []api.Adj{{To: 3, Cost: 1}, {To: 4, Cost: 1}}}
}

// eachLeaf tells each message that is m with one field set, beside that field.
func eachLeaf(m api.Message, tell func(l leaf, m api.Message)) {
	for _, l := range allLeaves() {
		for _, value := range values(reflect.ValueOf(m).FieldByIndex(l.at)) {
			c := copied(m)
			reflect.ValueOf(&c).Elem().FieldByIndex(l.at).Set(reflect.ValueOf(value))
			tell(l, c)
		}
	}
}

func TestFieldsThatTheKindDoesNotName(t *testing.T) {
	for _, m := range bases() {
		beside := 0
		eachLeaf(m, func(l leaf, c api.Message) {
			holdMessage(t, c)
			if l.path == ".Kind" || named(m.Kind, l.path) {
				return
			}
			beside++
			if msg.Check(c) != api.ErrArg {
				t.Fatalf("Check takes %s of %+v", l.path, c)
			}
		})
		if beside < 60 {
			t.Fatalf("%d fields beside those of the kind %d", beside, m.Kind)
		}
	}
}

// Two fields are set, and so several things may be wrong at once, or one may be wrong that the other one hides.
func TestTwoFieldsSet(t *testing.T) {
	for _, m := range []api.Message{rec(), stamp(), data(), wish(), ack(), {}, {Kind: 4}} {
		eachLeaf(m, func(_ leaf, one api.Message) {
			eachLeaf(one, func(_ leaf, two api.Message) {
				if got, may := msg.Check(two), plainMayBe(two); may != (got == api.OK) || !may && got != api.ErrArg {
					t.Fatalf("Check(%+v) = %d", two, got)
				}
			})
		})
	}
}

// What one kind names set beside what the other one names, whole: no kind takes both.
func TestKindsTogether(t *testing.T) {
	for _, a := range bases() {
		for _, b := range bases() {
			c := copied(a)
			switch b.Kind {
			case 1:
				c.Record = b.Record
			case 2:
				c.Stamp = b.Stamp
			case 3:
				c.Header = b.Header
			case 4:
				c.To, c.Hops, c.Wish = b.To, b.Hops, b.Wish
			case 5:
				c.To, c.Hops, c.Ack = b.To, b.Hops, b.Ack
			}
			for kind := -1; kind <= 6; kind++ {
				c.Kind = kind
				holdMessage(t, c)
				if a.Kind != b.Kind && plainMayBe(c) {
					t.Fatalf("%+v may be", c)
				}
			}
		}
	}
}

func TestEmptyListIsNone(t *testing.T) {
	for _, m := range bases() {
		if len(m.Record.Adjs) > 0 {
			continue
		}
		want, _ := msg.Encode(m)
		for _, l := range [][]api.Adj{nil, {}, make([]api.Adj, 0, 4), []api.Adj{{To: 3, Cost: 1}}[:0]} {
			c := m
			c.Record.Adjs = l
			allowed(t, c)
			if s, e := msg.Encode(c); e != api.OK || s != want {
				t.Fatalf("Encode(%+v) = %x, %d; not %x", c, s, e, want)
			}
		}
	}
}

// P19.2

func TestLengths(t *testing.T) {
	for n := range 600 {
		for _, c := range []string{"\x00", "\x01", "\x04", "\xff"} {
			b := strings.Repeat(c, n)
			holdBytes(t, b)
			holdBytes(t, sealed(b))
		}
	}
	// Each of these is sealed rightly.
	refused(t, sealed(""), api.ErrForm)
	refused(t, sealed("\x04"), api.ErrForm)
	refused(t, sealed(strings.Repeat("\x04", 510)), api.ErrForm)
	refused(t, sealed(strings.Repeat("\x04", 511)), api.ErrLong)
	refused(t, sealed(strings.Repeat("\x04", 1<<20)), api.ErrLong)
	// And none of these.
	refused(t, "\xff", api.ErrForm)
	refused(t, "\x00\x00", api.ErrForm)
	refused(t, "\x00\x00\x00", api.ErrSum)
	refused(t, strings.Repeat("\x04", 512), api.ErrSum)
	refused(t, strings.Repeat("\x04", 513), api.ErrLong)
}

func TestOfTwoErrorsTheOneNamedFirst(t *testing.T) {
	for _, m := range bases() {
		s := plainBytes(m)
		long := plainBody(m) + strings.Repeat("\x00", 512)
		refused(t, long, api.ErrLong)
		refused(t, sealed(long), api.ErrLong)
		// The sum is wrong, and the kind, and the length.
		refused(t, "\x06"+s[1:], api.ErrSum)
		refused(t, "\x00"+s[1:], api.ErrSum)
		refused(t, s+"\x01", api.ErrSum)
		refused(t, s[1:], api.ErrSum)
		refused(t, s[:2], api.ErrForm)
		// What is sealed and has a 0 behind it is, by how sums are made, sealed again: its length alone is wrong.
		refused(t, s+"\x00", api.ErrForm)
	}
}

func TestSumThatIsWrong(t *testing.T) {
	for _, m := range bases() {
		b := plainBody(m)
		right := int(plainSum(b))
		for n := range 1 << 16 {
			if n == right {
				continue
			}
			s := b + laid("2", uint64(n))
			if got, e := msg.Decode(s); e != api.ErrSum || !reflect.DeepEqual(got, api.Message{}) {
				t.Fatalf("Decode(%x) = %+v, %d", s, got, e)
			}
		}
	}
}

func TestSealedOneByteTooShortOrTooLong(t *testing.T) {
	for _, m := range bases() {
		b := plainBody(m)
		for n := range len(b) {
			refused(t, sealed(b[:n]), api.ErrForm)
		}
		for c := range 256 {
			refused(t, sealed(b+string([]byte{byte(c)})), api.ErrForm)
		}
		refused(t, sealed(b[:len(b)-1]), api.ErrForm)
		refused(t, sealed(b[1:]), api.ErrForm)
		refused(t, sealed(b+b), api.ErrForm)
		refused(t, sealed(sealed(b)), api.ErrForm)
	}
}

// Each byte ahead of the seal is each of 256, and what comes of it is sealed rightly.
func TestSealedEachByteEach(t *testing.T) {
	for _, m := range bases() {
		b := []byte(plainBody(m))
		for i, was := range b {
			for c := range 256 {
				b[i] = byte(c)
				holdBytes(t, sealed(string(b)))
			}
			b[i] = was
		}
	}
}

// A header's own seal stands right too: what is refused, is refused for what it holds.
func TestSealedTwiceEachByteEach(t *testing.T) {
	for _, m := range bases() {
		if m.Kind != 3 {
			continue
		}
		b := []byte(plainBody(m))
		b = b[1 : len(b)-2]
		for i, was := range b {
			for c := range 256 {
				b[i] = byte(c)
				holdBytes(t, sealed("\x03"+sealed(string(b))))
			}
			b[i] = was
		}
	}
}

// The header's sum is wrong, and the message's right: ErrForm, not ErrSum.
func TestHeaderWithAWrongSum(t *testing.T) {
	b := plainBody(data())
	for n := range 1 << 16 {
		s := b[:len(b)-2] + laid("2", uint64(n))
		if s != b {
			refused(t, sealed(s), api.ErrForm)
		}
	}
	if plainSum(b[1:len(b)-2]) != 0x5eea {
		t.Error("the header's sum")
	}
}

func TestSealedThatAreNone(t *testing.T) {
	fields := []string{"", "\x00", strings.Repeat("\x00", 9), strings.Repeat("\x01", 16), strings.Repeat("\xff", 60)}
	for _, m := range bases() {
		fields = append(fields, plainBody(m)[1:])
	}
	for kind := range 256 {
		for _, f := range fields {
			holdBytes(t, sealed(string([]byte{byte(kind)})+f))
		}
	}
	for n := range 513 {
		refused(t, sealed(strings.Repeat("\x00", n)+"\x06"+strings.Repeat("\x01", 512-n)), api.ErrLong)
	}
}

// Of each kind, what may stand in a field alone is taken out of its place: a record may have no byte 2 for an Ingress, and so on.
func TestSealedFieldsThatMayNotBe(t *testing.T) {
	for _, c := range []string{
		"\x01" + laid("1 4 4 2 1 1", 1, 1, 1, 0, 2, 0),
		"\x01" + laid("1 4 4 2 1 1", 1, 1, 1, 1025, 0, 0),
		"\x01" + laid("1 4 4 2 1 1", 0, 1, 1, 0, 0, 0),
		"\x01" + laid("1 4 4 2 1 1", 1, 0, 1, 0, 0, 0),
		"\x01" + laid("1 4 4 2 1 1", 1, 1, 0, 0, 0, 0),
		"\x01" + laid("1 4 4 2 1 1", 1, 1, 1, 0, 0, 1),
		"\x01" + laid("1 4 4 2 1 1 1 2", 1, 1, 1, 0, 0, 1, 1, 1),
		"\x01" + laid("1 4 4 2 1 1 1 2", 1, 1, 1, 0, 0, 1, 2, 1001),
		"\x02" + laid("1 4 4", 0, 1, 1),
		"\x02" + laid("1 4 4", 25, 1, 1),
		"\x02" + laid("1 4 4", 1, 0, 1),
		"\x02" + laid("1 4 4", 1, 1, 0),
		"\x04" + laid("1 1 1 4 4 1", 0, 0, 1, 1, 1, 1),
		"\x04" + laid("1 1 1 4 4 1", 25, 0, 1, 1, 1, 1),
		"\x04" + laid("1 1 1 4 4 1", 1, 25, 1, 1, 1, 1),
		"\x04" + laid("1 1 1 4 4 1", 1, 0, 0, 1, 1, 1),
		"\x04" + laid("1 1 1 4 4 1", 1, 0, 25, 1, 1, 1),
		"\x04" + laid("1 1 1 4 4 1", 1, 0, 1, 0, 1, 1),
		"\x04" + laid("1 1 1 4 4 1", 1, 0, 1, 1, 0, 1),
		"\x05" + laid("1 1 1 4 1 4 4", 0, 0, 1, 1, 1, 1, 1),
		"\x05" + laid("1 1 1 4 1 4 4", 25, 0, 1, 1, 1, 1, 1),
		"\x05" + laid("1 1 1 4 1 4 4", 1, 25, 1, 1, 1, 1, 1),
		"\x05" + laid("1 1 1 4 1 4 4", 1, 0, 0, 1, 1, 1, 1),
		"\x05" + laid("1 1 1 4 1 4 4", 1, 0, 1, 0, 1, 1, 1),
		"\x05" + laid("1 1 1 4 1 4 4", 1, 0, 1, 1, 0, 1, 1),
		"\x05" + laid("1 1 1 4 1 4 4", 1, 0, 1, 1, 25, 1, 1),
		"\x05" + laid("1 1 1 4 1 4 4", 1, 0, 1, 1, 1, 0, 1),
		"\x05" + laid("1 1 1 4 1 4 4", 1, 0, 1, 1, 1, 1, 0),
		strings.Repeat("\x04", 13) + "\x81",
	} {
		refused(t, sealed(c), api.ErrForm)
	}
}

func TestKind(t *testing.T) {
	for _, m := range bases() {
		s := plainBytes(m)
		if msg.Kind(s) != m.Kind || msg.Kind(s[:len(s)-1]) != 0 || msg.Kind(s+"\x00") != 0 {
			t.Errorf("Kind of %+v: %d, %d, %d", m, msg.Kind(s), msg.Kind(s[:len(s)-1]), msg.Kind(s+"\x00"))
		}
	}
}

// P19.3

// dice makes up numbers, the same ones each time.
type dice struct{ x uint64 }

func (d *dice) upTo(n int) int {
	d.x = d.x*6364136223846793005 + 1442695040888963407
	return int(d.x >> 33 % uint64(n))
}

func (d *dice) life() uint32 {
	if d.upTo(3) == 0 {
		return lives[d.upTo(len(lives))]
	}
	return uint32(1 + d.upTo(1<<30))
}

func (d *dice) router() int { return 1 + d.upTo(24) }

func (d *dice) record() api.Record {
	r := api.Record{Origin: d.router(), Epoch: d.life(), Seq: d.life(), Claim: d.upTo(1025), Ingress: d.upTo(2) == 1}
	to := 0
	for range d.upTo(17) {
		to += 1 + d.upTo(3)
		if to <= 24 && to != r.Origin {
			r.Adjs = append(r.Adjs, api.Adj{To: to, Cost: 1 + d.upTo(1000)})
		}
	}
	return r
}

func (d *dice) header() api.Header {
	h := api.Header{Width: 8 << d.upTo(6), Set: d.upTo(128), Entropy: d.life(), Hops: d.upTo(16), Source: d.router(), Group: d.upTo(8), Id: d.life()}
	for range d.upTo(20) {
		n := d.upTo(h.Width)
		h.Bits[n/64] |= 1 << (n % 64)
	}
	return h
}

func (d *dice) message() api.Message {
	m := api.Message{Kind: 1 + d.upTo(5)}
	switch m.Kind {
	case 1:
		m.Record = d.record()
	case 2:
		m.Stamp = api.Stamp{Origin: d.router(), Epoch: d.life(), Seq: d.life()}
	case 3:
		m.Header = d.header()
	case 4:
		m.To, m.Hops = d.router(), d.upTo(25)
		m.Wish = api.Wish{From: d.router(), Epoch: d.life(), Version: d.life(), Groups: uint8(d.upTo(256))}
	case 5:
		m.To, m.Hops = d.router(), d.upTo(25)
		m.Ack = api.Ack{From: d.router(), Epoch: d.life(), To: d.router(), Life: d.life(), Version: d.life()}
	}
	return m
}

func TestThereAndBack(t *testing.T) {
	d := dice{1}
	for range 20000 {
		allowed(t, d.message())
	}
}

func TestNoTwoMessagesHaveTheSameBytes(t *testing.T) {
	d := dice{2}
	seen := map[string]string{}
	for _, m := range bases() {
		seen[plainBytes(m)] = fmt.Sprint(m)
	}
	for range 5000 {
		m := d.message()
		s, _ := msg.Encode(m)
		if was, ok := seen[s]; ok && was != fmt.Sprint(m) {
			t.Fatalf("%s and %v: %x", was, m, s)
		}
		seen[s] = fmt.Sprint(m)
	}
}

func TestOneByteTurned(t *testing.T) {
	d := dice{3}
	l := bases()
	for range 50 {
		l = append(l, d.message())
	}
	for _, m := range l {
		s, _ := msg.Encode(m)
		b := []byte(s)
		for i, was := range b {
			for c := range 256 {
				if b[i] = byte(c); b[i] == was {
					continue
				}
				if got, e := msg.Decode(string(b)); e != api.ErrSum || !reflect.DeepEqual(got, api.Message{}) || msg.Kind(string(b)) != 0 {
					t.Fatalf("Decode(%x), turned at %d, = %+v, %d", b, i, got, e)
				}
			}
			b[i] = was
		}
	}
}

// TestOneByteLess asks for no certain error: by chance the bytes that are left may be sealed rightly.
func TestOneByteLess(t *testing.T) {
	sum := 0
	for _, m := range bases() {
		s := plainBytes(m)
		for n := range len(s) {
			_, e := msg.Decode(s[:n])
			if holdBytes(t, s[:n]); e == api.OK {
				t.Fatalf("Decode takes %x", s[:n])
			}
			if e == api.ErrSum {
				sum++
			}
		}
	}
	if sum == 0 {
		t.Error("no sum is wrong")
	}
}

// The most bytes of each kind are told, the seal among them.
func TestAtMostMaxBytes(t *testing.T) {
	d := dice{4}
	most := [6]int{}
	l := bases()
	for range 2000 {
		l = append(l, d.message())
	}
	for _, m := range l {
		s, e := msg.Encode(m)
		if e != api.OK || len(s) > api.MaxBytes {
			t.Fatalf("Encode(%+v) has %d bytes, %d", m, len(s), e)
		}
		most[m.Kind] = max(most[m.Kind], len(s))
	}
	if want := [6]int{0, 1 + 13 + 16*3 + 2, 12, 1 + 13 + 32 + 2 + 2, 15, 19}; most != want {
		t.Errorf("the most bytes are %v, not %v", most, want)
	}
}

// R5

// guarded is l with room behind its end that nobody may touch.
func guarded(l []api.Adj) (list, room []api.Adj) {
	room = append(slices.Clone(l), api.Adj{To: 77, Cost: 77}, api.Adj{To: 78, Cost: 78})
	return room[:len(l)], room
}

func TestWhatIsHandedInStays(t *testing.T) {
	for _, m := range bases() {
		list, room := guarded(m.Record.Adjs)
		before := slices.Clone(room)
		c := m
		c.Record.Adjs = list
		msg.Check(c)
		s, e := msg.Encode(c)
		if e != api.OK || s != plainBytes(m) || !slices.Equal(room, before) {
			t.Fatalf("Encode(%+v) = %x, %d; behind it: %v", m, s, e, room)
		}
		for i := range room {
			room[i] = api.Adj{To: 9, Cost: 9}
		}
		if back, _ := msg.Decode(s); !sameMessage(back, m) {
			t.Fatalf("%+v came back as %+v", m, back)
		}
	}
	// One that may not be stays, too.
	list, room := guarded([]api.Adj{{To: 9, Cost: 1}, {To: 3, Cost: 2}})
	before := slices.Clone(room)
	for kind := range 7 {
		forbidden(t, api.Message{Kind: kind, Record: api.Record{Origin: 1, Epoch: 1, Seq: 1, Adjs: list}})
	}
	if !slices.Equal(room, before) {
		t.Errorf("behind it: %v", room)
	}
}

func TestWhatIsAnsweredIsTheCallersOwn(t *testing.T) {
	for _, m := range bases() {
		s := plainBytes(m)
		one, _ := msg.Decode(s)
		two, _ := msg.Decode(s)
		for i := range one.Record.Adjs[:cap(one.Record.Adjs)] {
			one.Record.Adjs[:cap(one.Record.Adjs)][i] = api.Adj{To: 9, Cost: 9}
		}
		three, _ := msg.Decode(s)
		if !sameMessage(two, m) || !sameMessage(three, m) {
			t.Fatalf("%+v came back as %+v and %+v", m, two, three)
		}
	}
}

// R6

func TestTheSameCallsTheSameAnswers(t *testing.T) {
	l := bases()
	var want []string
	for _, m := range l {
		s, _ := msg.Encode(m)
		want = append(want, s)
	}
	// Other calls between change nothing, and calls by several at a time have nothing in common.
	var all sync.WaitGroup
	for k := range 4 {
		all.Go(func() {
			for i := range l {
				j := (i*7 + k) % len(l)
				msg.Decode(want[i][:len(want[i])-1])
				msg.Encode(api.Message{Kind: j})
				s, e := msg.Encode(l[j])
				m, f := msg.Decode(want[j])
				if s != want[j] || e != api.OK || f != api.OK || !sameMessage(m, l[j]) {
					t.Errorf("Encode(%+v) = %x, %d; Decode = %+v, %d", l[j], s, e, m, f)
				}
			}
		})
	}
	all.Wait()
}

func FuzzDecode(f *testing.F) {
	for _, m := range bases() {
		f.Add(plainBody(m))
	}
	f.Add("")
	f.Add(strings.Repeat("\x04", 513))
	f.Fuzz(func(t *testing.T, b string) {
		if len(b) > 600 {
			b = b[:600]
		}
		holdBytes(t, b)
		holdBytes(t, sealed(b))
		if len(b) > 0 {
			holdBytes(t, sealed("\x03"+sealed(b[1:])))
		}
	})
}
