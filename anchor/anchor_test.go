package anchor

import (
	"bytes"
	"encoding/binary"
	"math"
	"math/rand"
	"reflect"
	"slices"
	"testing"

	"chatelaine/api"
)

const top = api.MaxCount

// key is 32 bytes that all differ, and differ from those of another number.
func key(n int) (b [32]byte) {
	for i := range b {
		b[i] = byte(7*n + 5*i + 1)
	}
	return b
}

// full is 32 bytes that all are one.
func full(one byte) (b [32]byte) {
	for i := range b {
		b[i] = one
	}
	return b
}

// keys is keys and sums: noughts, bytes that all differ, and single bits at either end among them.
func keys() [][32]byte {
	return [][32]byte{{}, {1}, {31: 1}, {128}, {31: 128}, {15: 3, 16: 4}, key(0), key(1), key(9), full(1), full(128), full(255)}
}

// rights is limits that may be, at each edge and between.
func rights() []int {
	return []int{0, 1, 2, 3, 127, 128, 255, 256, 257, 65535, 65536, 1<<31 - 1, 1 << 31, 1<<32 - 1, 1 << 32, 1<<32 + 1, 0x0102030405, 0xfedcba9876, 1 << 39, top - 2, top - 1, top}
}

// wrongs is limits that may not be, at each edge and far beyond; of some the lowest bytes are what may be.
func wrongs() []int {
	return []int{
		-1, -2, -255, -256, -1 << 31, -1<<31 - 1, -1 << 32, -1<<32 + 1, -top + 1, -top, -top - 1, -1 << 62, math.MinInt + 1, math.MinInt + top, math.MinInt,
		top + 1, top + 2, top + 255, top + 256, 2*top - 1, 2 * top, 2*top + 1, 1 << 48, 1<<48 + 1, 1 << 56, 1<<56 + 1, 1 << 62, 1<<62 + 1, math.MaxInt - 1, math.MaxInt,
	}
}

// greats is numbers of eight bytes beyond MaxCount: by one, by single bits, by the highest bits, and all that there are.
func greats() []uint64 {
	l := []uint64{top + 1, top + 2, top + 256, 2*top - 1, 1<<63 - 1, 1<<63 + 1, 1<<63 + top, 1<<64 - top, 1<<64 - 2, 1<<64 - 1, 0x0102030405060708, 0xfedcba9876543210, 0xff << 56, 0xff << 48, 0xff<<56 + 3, 0x80000000ffffffff}
	for bit := 41; bit < 64; bit++ {
		l = append(l, 1<<bit, 1<<bit+1, 1<<bit+top, 1<<bit-1)
	}
	return l
}

// nones is slots that no call made.
func nones() []*Slot { return []*Slot{nil, {}, new(Slot)} }

// raw is a slot's bytes, as the words say them.
func raw(count, limit uint64, key, sum [32]byte) []byte {
	b := binary.BigEndian.AppendUint64(nil, count)
	b = binary.BigEndian.AppendUint64(b, limit)
	b = append(b, key[:]...)
	return append(b, sum[:]...)
}

// plain is a slot as the words say it.
type plain struct {
	root  api.Root
	limit int
}

// set is what the words say that Set answers.
func (p *plain) set(key, sum [32]byte) api.Errno {
	if p.root.Count >= p.limit {
		return api.ErrCount
	}
	p.root = api.Root{Count: p.root.Count + 1, Key: key, Sum: sum}
	return api.OK
}

// bytes is what the words say that Bytes answers.
func (p plain) bytes() []byte {
	return raw(uint64(p.root.Count), uint64(p.limit), p.root.Key, p.root.Sum)
}

// plainOf is what the words say that Of answers.
func plainOf(b []byte) (plain, api.Errno) {
	if len(b) < 80 {
		return plain{}, api.ErrEnd
	}
	if len(b) > 80 {
		return plain{}, api.ErrExtra
	}
	count, limit := binary.BigEndian.Uint64(b), binary.BigEndian.Uint64(b[8:])
	if limit > top || count > limit {
		return plain{}, api.ErrForm
	}
	return plain{api.Root{Count: int(count), Key: [32]byte(b[16:48]), Sum: [32]byte(b[48:])}, int(limit)}, api.OK
}

// made is a new slot, which must be made.
func made(t testing.TB, key [32]byte, limit int) *Slot {
	t.Helper()
	s, e := New(key, limit)
	if e != api.OK || s == nil {
		t.Fatalf("New(%v, %d): %d", key, limit, e)
	}
	return s
}

// read is a slot of bytes, which must be made.
func read(t testing.TB, b []byte) *Slot {
	t.Helper()
	s, e := Of(b)
	if e != api.OK || s == nil {
		t.Fatalf("Of(%x): %d", b, e)
	}
	return s
}

// as asks that a slot tells what a plain one has, however often it is asked.
func as(t *testing.T, what string, s *Slot, want plain) {
	t.Helper()
	for range 2 {
		if got := s.Get(); got != want.root {
			t.Fatalf("%s: Get is %v, not %v", what, got, want.root)
		}
		if got := s.Limit(); got != want.limit {
			t.Fatalf("%s: Limit is %d, not %d", what, got, want.limit)
		}
		if got := s.Can(); got != (want.root.Count < want.limit) {
			t.Fatalf("%s: Can is %v of %d below %d", what, got, want.root.Count, want.limit)
		}
		if got := s.Bytes(); !bytes.Equal(got, want.bytes()) {
			t.Fatalf("%s: Bytes is %x, not %x", what, got, want.bytes())
		}
	}
}

// sets asks that a slot is set.
func sets(t *testing.T, s *Slot, key, sum [32]byte) {
	t.Helper()
	if e := s.Set(key, sum); e != api.OK {
		t.Fatalf("Set(%v, %v) of %d below %d: %d", key, sum, s.Get().Count, s.Limit(), e)
	}
}

// noSet asks that a slot isn't set, and that nothing changes.
func noSet(t *testing.T, s *Slot) {
	t.Helper()
	before := plain{s.Get(), s.Limit()}
	for _, k := range keys() {
		for _, sum := range keys() {
			if e := s.Set(k, sum); e != api.ErrCount {
				t.Fatalf("Set of %d at %d: %d", s.Get().Count, s.Limit(), e)
			}
		}
		as(t, "behind a Set that fails", s, before)
	}
}

// noOf asks that no slot is made.
func noOf(t *testing.T, b []byte, want api.Errno) {
	t.Helper()
	for range 2 {
		if s, e := Of(b); e != want || s != nil {
			t.Fatalf("Of(%x) is %v, %d, not %d", b, s, e, want)
		}
	}
}

// P16.1: a new slot has the count 0, the key and the limit that it was given, and a sum of noughts.
func TestNew(t *testing.T) {
	for _, limit := range rights() {
		for _, k := range keys() {
			as(t, "a new slot", made(t, k, limit), plain{api.Root{Key: k}, limit})
		}
	}
}

// P16.1: of a limit that may not be there is no slot, whatever the key.
func TestNewWrong(t *testing.T) {
	for _, limit := range wrongs() {
		for _, k := range keys() {
			if s, e := New(k, limit); e != api.ErrArg || s != nil {
				t.Errorf("New(%v, %d) is %v, %d", k, limit, s, e)
			}
		}
	}
}

// P16.1: the first Set below the limit gives key and sum, and the count 1; with a limit of 0 there is none.
func TestFirstSet(t *testing.T) {
	for _, limit := range rights() {
		for _, k := range keys() {
			for _, sum := range keys() {
				s := made(t, key(3), limit)
				if limit == 0 {
					noSet(t, s)
					break
				}
				sets(t, s, k, sum)
				as(t, "behind one Set", s, plain{api.Root{Count: 1, Key: k, Sum: sum}, limit})
			}
		}
	}
}

// P16.1, P16.3: of each small limit all Sets up to it go, and none behind; behind n Sets the count is n, and the Root has what the last one gave.
func TestCount(t *testing.T) {
	for limit := range 41 {
		s := made(t, key(100), limit)
		for n := range limit {
			as(t, "ahead of a Set", s, plain{api.Root{Count: n, Key: s.Get().Key, Sum: s.Get().Sum}, limit})
			sets(t, s, key(n), key(n+50))
			as(t, "behind a Set", s, plain{api.Root{Count: n + 1, Key: key(n), Sum: key(n + 50)}, limit})
		}
		noSet(t, s)
	}
}

// P16.3: of the key and the sum ahead nothing is left, be the new ones noughts, or the old ones again, or the old ones the other way round.
func TestNothingIsLeft(t *testing.T) {
	for _, limit := range []int{1, 3, top} {
		for _, old := range keys() {
			for _, k := range keys() {
				s := made(t, old, limit)
				sets(t, s, k, old)
				as(t, "one", s, plain{api.Root{Count: 1, Key: k, Sum: old}, limit})
				if limit == 1 {
					noSet(t, s)
					continue
				}
				sets(t, s, old, k)
				as(t, "the other way round", s, plain{api.Root{Count: 2, Key: old, Sum: k}, limit})
				sets(t, s, [32]byte{}, [32]byte{})
				as(t, "noughts", s, plain{api.Root{Count: 3}, limit})
			}
		}
	}
}

// P16.1: at great counts, too, the last Set below the limit goes, and none behind.
func TestLastSet(t *testing.T) {
	for _, limit := range rights() {
		for left := range min(limit, 3) + 1 {
			count := limit - left
			s := read(t, raw(uint64(count), uint64(limit), key(1), key(2)))
			as(t, "ahead of the last ones", s, plain{api.Root{Count: count, Key: key(1), Sum: key(2)}, limit})
			for i := range left {
				sets(t, s, key(i+3), key(i+6))
				as(t, "one of the last", s, plain{api.Root{Count: count + i + 1, Key: key(i + 3), Sum: key(i + 6)}, limit})
			}
			noSet(t, s)
		}
	}
}

// P16.2: the bytes as they stand: count and limit, the highest byte first, then key and sum.
func TestBytes(t *testing.T) {
	k, sum := key(4), key(8)
	rest := append(slices.Clone(k[:]), sum[:]...)
	for _, c := range []struct {
		count, limit int
		ahead        []byte
	}{
		{0, 0, []byte{0, 0, 0, 0, 0, 0, 0, 0, 0, 0, 0, 0, 0, 0, 0, 0}},
		{0, 1, []byte{0, 0, 0, 0, 0, 0, 0, 0, 0, 0, 0, 0, 0, 0, 0, 1}},
		{1, 1, []byte{0, 0, 0, 0, 0, 0, 0, 1, 0, 0, 0, 0, 0, 0, 0, 1}},
		{2, 3, []byte{0, 0, 0, 0, 0, 0, 0, 2, 0, 0, 0, 0, 0, 0, 0, 3}},
		{255, 256, []byte{0, 0, 0, 0, 0, 0, 0, 255, 0, 0, 0, 0, 0, 0, 1, 0}},
		{0x0102030405, 0x060708090a, []byte{0, 0, 0, 1, 2, 3, 4, 5, 0, 0, 0, 6, 7, 8, 9, 10}},
		{0xf1f2f3f4f5, 0xfafbfcfdfe, []byte{0, 0, 0, 0xf1, 0xf2, 0xf3, 0xf4, 0xf5, 0, 0, 0, 0xfa, 0xfb, 0xfc, 0xfd, 0xfe}},
		{top - 1, top, []byte{0, 0, 0, 255, 255, 255, 255, 255, 0, 0, 1, 0, 0, 0, 0, 0}},
		{top, top, []byte{0, 0, 1, 0, 0, 0, 0, 0, 0, 0, 1, 0, 0, 0, 0, 0}},
	} {
		want := slices.Concat(c.ahead, rest)
		s := read(t, want)
		if got := s.Bytes(); !bytes.Equal(got, want) {
			t.Errorf("Bytes of %d of %d: %x, not %x", c.count, c.limit, got, want)
		}
		as(t, "of bytes", s, plain{api.Root{Count: c.count, Key: k, Sum: sum}, c.limit})
	}
	s := made(t, k, 0x060708090a)
	if got, want := s.Bytes(), slices.Concat([]byte{0, 0, 0, 0, 0, 0, 0, 0, 0, 0, 0, 6, 7, 8, 9, 10}, k[:], make([]byte, 32)); !bytes.Equal(got, want) {
		t.Errorf("Bytes of a new slot: %x, not %x", got, want)
	}
}

// P16.2: of all counts and limits that may be, with whatever key and sum, Of and Bytes are each other's way back.
func TestOf(t *testing.T) {
	for _, limit := range rights() {
		for _, count := range append(rights(), limit, limit/2, max(limit-1, 0)) {
			if count > limit {
				continue
			}
			for _, k := range keys() {
				for _, sum := range keys() {
					b := raw(uint64(count), uint64(limit), k, sum)
					s := read(t, b)
					as(t, "of bytes", s, plain{api.Root{Count: count, Key: k, Sum: sum}, limit})
					as(t, "of a slot's bytes", read(t, s.Bytes()), plain{api.Root{Count: count, Key: k, Sum: sum}, limit})
				}
			}
		}
	}
}

// P16.2: of a count of 0 the sum may be any: Of tells what stands there.
func TestOfNoughts(t *testing.T) {
	as(t, "noughts", read(t, make([]byte, 80)), plain{})
	noSet(t, read(t, make([]byte, 80)))
	s := read(t, raw(0, 1, [32]byte{}, [32]byte{}))
	sets(t, s, [32]byte{}, [32]byte{})
	as(t, "noughts", s, plain{api.Root{Count: 1}, 1})
	as(t, "a sum at the count 0", read(t, raw(0, 5, key(1), key(2))), plain{api.Root{Key: key(1), Sum: key(2)}, 5})
}

// P16.2: fewer than 80 bytes, none among them, and more, are told ahead of what the bytes say.
func TestOfLengths(t *testing.T) {
	noOf(t, nil, api.ErrEnd)
	noOf(t, []byte{}, api.ErrEnd)
	for _, b := range [][]byte{
		raw(2, 3, key(1), key(2)), raw(0, 0, [32]byte{}, [32]byte{}), raw(top, top, key(1), key(2)),
		raw(3, 2, key(1), key(2)), raw(0, top+1, key(1), key(2)), raw(1<<64-1, 1<<64-1, full(255), full(255)), raw(1<<63, 1<<63, key(1), key(2)), raw(1<<64-1, 0, key(1), key(2)),
	} {
		for n := range 80 {
			noOf(t, b[:n], api.ErrEnd)
			noOf(t, slices.Clone(b[:n]), api.ErrEnd)
		}
		for _, more := range []int{1, 2, 8, 16, 32, 79, 80, 81, 160, 1000, 1 << 16, api.MaxText} {
			noOf(t, slices.Concat(b, make([]byte, more)), api.ErrExtra)
			noOf(t, slices.Concat(b, bytes.Repeat([]byte{255}, more)), api.ErrExtra)
		}
		noOf(t, slices.Concat(b, b), api.ErrExtra)
	}
}

// P16.2: a limit above MaxCount, be the count below it, at it or above it.
func TestOfGreatLimit(t *testing.T) {
	for _, limit := range greats() {
		for _, count := range append(greats(), 0, 1, 2, 255, 1<<32, top-1, top, limit, limit-1, limit+1) {
			noOf(t, raw(count, limit, key(1), key(2)), api.ErrForm)
		}
	}
}

// P16.2: a count above the limit, by one, by single bits, and by all that there are.
func TestOfGreatCount(t *testing.T) {
	for _, limit := range rights() {
		counts := append(greats(), uint64(limit)+1, uint64(limit)+2, uint64(limit)+256, 2*uint64(limit)+1, 1<<63+uint64(limit), 1<<32+uint64(limit), 1<<40+uint64(limit)+1, -uint64(limit)-1)
		for _, other := range rights() {
			if other > limit {
				counts = append(counts, uint64(other))
			}
		}
		for _, count := range counts {
			for _, k := range keys() {
				noOf(t, raw(count, uint64(limit), k, key(2)), api.ErrForm)
			}
		}
		for _, count := range []int{0, limit / 2, limit} {
			read(t, raw(uint64(count), uint64(limit), key(1), key(2)))
		}
	}
}

// P16.2: every count and limit of small bytes, and each with each single bit turned, is told as the words say.
func TestOfEveryBit(t *testing.T) {
	for limit := range uint64(6) {
		for count := range uint64(7) {
			b := raw(count, limit, key(1), key(2))
			told(t, b)
			for bit := range 640 {
				b[bit/8] ^= 1 << (bit % 8)
				told(t, b)
				b[bit/8] ^= 1 << (bit % 8)
			}
		}
	}
	for place := range 16 {
		for one := range 256 {
			for _, b := range [][]byte{raw(0, 0, key(1), key(2)), raw(1, top, key(1), key(2)), raw(top, top, key(1), key(2)), raw(1<<64-1, 1<<64-1, key(1), key(2))} {
				b[place] = byte(one)
				told(t, b)
			}
		}
	}
}

// told asks that Of tells of bytes what the words say.
func told(t *testing.T, b []byte) {
	t.Helper()
	want, e := plainOf(b)
	if e != api.OK {
		noOf(t, b, e)
		return
	}
	as(t, "of bytes", read(t, b), want)
}

// P16.2: a slot that Of makes goes on as the one whose bytes it was made of.
func TestOfGoesOn(t *testing.T) {
	for _, limit := range []int{0, 1, 2, 5, 300, top} {
		s := made(t, key(0), limit)
		for n := range min(limit, 300) {
			x := read(t, s.Bytes())
			want := plain{api.Root{Count: n + 1, Key: key(n), Sum: key(n + 1)}, limit}
			sets(t, x, key(n), key(n+1))
			as(t, "of bytes, set", x, want)
			sets(t, s, key(n), key(n+1))
			as(t, "set", s, want)
			if n%2 == 1 {
				s = read(t, x.Bytes())
			}
		}
		if limit <= 300 {
			noSet(t, read(t, s.Bytes()))
		}
	}
}

// P16.2: a slot that no call made answers ErrNil, zero, nothing; and stays none.
func TestNone(t *testing.T) {
	for i, s := range nones() {
		for range 2 {
			for _, k := range keys() {
				for _, sum := range keys() {
					if e := s.Set(k, sum); e != api.ErrNil {
						t.Errorf("slot %d: Set: %d", i, e)
					}
				}
			}
			if got := s.Get(); got != (api.Root{}) {
				t.Errorf("slot %d: Get: %v", i, got)
			}
			if s.Can() {
				t.Errorf("slot %d can", i)
			}
			if got := s.Limit(); got != 0 {
				t.Errorf("slot %d: Limit: %d", i, got)
			}
			if got := s.Bytes(); len(got) != 0 {
				t.Errorf("slot %d: Bytes: %x", i, got)
			}
			noOf(t, s.Bytes(), api.ErrEnd)
		}
	}
}

// P16.1, P16.2: a slot that a call made is one, be its key and sum noughts, and its count and limit 0: its Set tells ErrCount, not ErrNil.
func TestNoughtsAreASlot(t *testing.T) {
	s := made(t, [32]byte{}, 0)
	for range 2 {
		if e := s.Set([32]byte{}, [32]byte{}); e != api.ErrCount {
			t.Errorf("Set: %d", e)
		}
		if got := s.Bytes(); !bytes.Equal(got, make([]byte, 80)) {
			t.Errorf("Bytes: %x", got)
		}
		s = read(t, make([]byte, 80))
	}
}

// P16.1 to P16.3: rows of calls are answered as the words say, whatever came before.
func TestAsTheWordsSay(t *testing.T) {
	r := rand.New(rand.NewSource(16))
	for range 3000 {
		s, model := drawn(t, r)
		for range 30 {
			k, sum := anyKey(r), anyKey(r)
			want := model.set(k, sum)
			if got := s.Set(k, sum); got != want {
				t.Fatalf("Set of %d of %d: %d, not %d", model.root.Count, model.limit, got, want)
			}
			as(t, "as the words say", s, model)
			if r.Intn(4) == 0 {
				s = read(t, s.Bytes())
				as(t, "of its bytes", s, model)
			}
		}
	}
}

// drawn is a slot, new or of bytes, and the plain one beside it.
func drawn(t *testing.T, r *rand.Rand) (*Slot, plain) {
	k, sum := anyKey(r), anyKey(r)
	limit := rights()[r.Intn(len(rights()))]
	if r.Intn(2) == 0 {
		limit = r.Intn(40)
	}
	if r.Intn(3) == 0 {
		return made(t, k, limit), plain{api.Root{Key: k}, limit}
	}
	count := max(0, limit-r.Intn(40))
	return read(t, raw(uint64(count), uint64(limit), k, sum)), plain{api.Root{Count: count, Key: k, Sum: sum}, limit}
}

// anyKey is 32 bytes: one of those with edges, or any.
func anyKey(r *rand.Rand) (b [32]byte) {
	if r.Intn(4) == 0 {
		return keys()[r.Intn(len(keys()))]
	}
	r.Read(b[:])
	return b
}

// P16.2: bytes of any length, with any count and limit, are told as the words say.
func TestDrawnBytes(t *testing.T) {
	r := rand.New(rand.NewSource(2))
	for range 30000 {
		b := raw(r.Uint64()>>r.Intn(64), r.Uint64()>>r.Intn(64), anyKey(r), anyKey(r))
		switch r.Intn(4) {
		case 0:
			b = b[:r.Intn(81)]
		case 1:
			b = append(b, make([]byte, r.Intn(3))...)
		}
		told(t, b)
	}
}

// P16.1: New is told its limit of any size as the words say.
func TestDrawnLimits(t *testing.T) {
	r := rand.New(rand.NewSource(3))
	for range 30000 {
		limit := int(r.Uint64()) >> r.Intn(64)
		k := anyKey(r)
		if limit >= 0 && limit <= top {
			as(t, "a new slot", made(t, k, limit), plain{api.Root{Key: k}, limit})
		} else if s, e := New(k, limit); e != api.ErrArg || s != nil {
			t.Fatalf("New(.., %d) is %v, %d", limit, s, e)
		}
	}
}

// What is handed in is not changed, be it within room for more or not.
func TestNothingIsChanged(t *testing.T) {
	for _, want := range [][]byte{raw(2, 3, key(1), key(2)), raw(3, 2, key(1), key(2)), raw(0, top+1, key(1), key(2)), raw(2, 3, key(1), key(2))[:79], make([]byte, 81), all255()} {
		b := append(slices.Clone(want), 5, 4, 3, 2, 1)
		whole := slices.Clone(b)
		s, e := Of(b[:len(want)])
		if e == api.OK {
			s.Set(key(6), key(7))
			s.Bytes()
		}
		if !bytes.Equal(b, whole) {
			t.Errorf("%x became %x", whole, b)
		}
	}
	k, sum := key(1), key(2)
	s := made(t, k, 3)
	sets(t, s, k, sum)
	s.Get()
	if k != key(1) || sum != key(2) {
		t.Errorf("key and sum became %v, %v", k, sum)
	}
}

// all255 is bytes of which all are 255.
func all255() []byte { return bytes.Repeat([]byte{255}, 80) }

// What the caller does with the bytes later isn't seen by the slot.
func TestNothingHandedInIsKept(t *testing.T) {
	b := raw(2, 3, key(1), key(2))
	s := read(t, b)
	clear(b)
	as(t, "behind Of", s, plain{api.Root{Count: 2, Key: key(1), Sum: key(2)}, 3})
	sets(t, s, key(3), key(4))
	for i := range b {
		b[i] = 255
	}
	as(t, "behind Set", s, plain{api.Root{Count: 3, Key: key(3), Sum: key(4)}, 3})
}

// What is done to an answer, behind its end, too, changes neither the slot nor another answer.
func TestAnswersAreNew(t *testing.T) {
	s := made(t, key(1), 4)
	for n := range 4 {
		want := plain{s.Get(), 4}
		first, second := s.Bytes(), s.Bytes()
		whole := first[:cap(first)]
		for _, one := range whole[len(first):] {
			if one != 0 {
				t.Errorf("behind the bytes stands %x", whole[len(first):])
			}
		}
		for i := range whole {
			whole[i] ^= 255
		}
		if !bytes.Equal(second, want.bytes()) {
			t.Fatalf("the other answer is %x", second)
		}
		root := s.Get()
		root.Count, root.Key, root.Sum = 77, key(77), key(78)
		as(t, "behind spoilt answers", s, want)
		sets(t, s, key(n), key(n+1))
	}
}

// What stands behind the bytes that are handed in isn't read.
func TestNothingBehind(t *testing.T) {
	b := raw(2, 3, key(1), key(2))
	for _, behind := range [][]byte{make([]byte, 40), all255(), b} {
		whole := slices.Concat(b, behind)
		as(t, "with more behind", read(t, whole[:80]), plain{api.Root{Count: 2, Key: key(1), Sum: key(2)}, 3})
		for n := range 80 {
			noOf(t, whole[:n], api.ErrEnd)
		}
	}
}

// Two slots of the same bytes know nothing of each other, nor does one that was copied as a value.
func TestTwoSlots(t *testing.T) {
	a, b := made(t, key(1), 4), made(t, key(1), 4)
	sets(t, a, key(2), key(3))
	c := *a
	x := read(t, a.Bytes())
	sets(t, a, key(4), key(5))
	sets(t, a, key(6), key(7))
	sets(t, &c, key(8), key(9))
	as(t, "one", a, plain{api.Root{Count: 3, Key: key(6), Sum: key(7)}, 4})
	as(t, "the other one", b, plain{api.Root{Key: key(1)}, 4})
	as(t, "the copy", &c, plain{api.Root{Count: 2, Key: key(8), Sum: key(9)}, 4})
	as(t, "of bytes", x, plain{api.Root{Count: 1, Key: key(2), Sum: key(3)}, 4})
}

// Many Sets go in a moment, and the count is as many.
func TestManySets(t *testing.T) {
	const n = 1 << 16
	s := made(t, key(1), n)
	for i := range n {
		if e := s.Set(key(i), key(i+1)); e != api.OK {
			t.Fatalf("Set %d: %d", i, e)
		}
	}
	as(t, "behind many", s, plain{api.Root{Count: n, Key: key(n - 1), Sum: key(n)}, n})
	noSet(t, s)
}

// A slot has the chapter's methods, and nothing else to be seen.
func TestFace(t *testing.T) {
	kind := reflect.TypeFor[*Slot]()
	want := []string{"Bytes", "Can", "Get", "Limit", "Set"}
	var got []string
	for i := range kind.NumMethod() {
		got = append(got, kind.Method(i).Name)
	}
	if !slices.Equal(got, want) {
		t.Errorf("methods: %v", got)
	}
	for _, f := range reflect.VisibleFields(kind.Elem()) {
		if f.IsExported() {
			t.Errorf("%s is to be seen", f.Name)
		}
	}
}

// The chapter's example: a new slot with the limit 1: Set, and then ErrCount.
func TestExample(t *testing.T) {
	s := made(t, key(1), 1)
	sets(t, s, key(2), key(3))
	noSet(t, s)
	as(t, "the example", s, plain{api.Root{Count: 1, Key: key(2), Sum: key(3)}, 1})
}

func BenchmarkSetAndBytes(b *testing.B) {
	s := made(b, key(1), top)
	for b.Loop() {
		s.Set(key(2), key(3))
		s, _ = Of(s.Bytes())
	}
}
