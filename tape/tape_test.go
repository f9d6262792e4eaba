package tape

import (
	"bytes"
	"crypto/sha256"
	"encoding/binary"
	"math"
	"math/rand"
	"slices"
	"testing"

	"chatelaine/api"
)

// drawn is n bytes that are the same in each run.
func drawn(n int) []byte {
	b := make([]byte, n)
	rand.New(rand.NewSource(int64(n))).Read(b)
	return b
}

// below is numbers below 0; of some the lowest bytes alone would be right.
func below() []int {
	return []int{-1, -2, -64, -255, -256, -1 << 31, -1<<31 + 1, -1 << 32, -1<<32 + 1, -1 << 62, math.MinInt + 1, math.MinInt + 5, math.MinInt}
}

// far is numbers that are more than any tape here has; of some the lowest bytes alone would not be.
func far() []int {
	return []int{1 << 31, 1<<31 + 1, 1 << 32, 1<<32 + 1, 1 << 62, 1<<62 + 1, math.MaxInt - 1, math.MaxInt}
}

// nones is tapes that no call made.
func nones() map[string]*Tape { return map[string]*Tape{"nil": nil, "plain": {}} }

// at is a tape of bytes, of which n were drawn already.
func at(t *testing.T, b []byte, n int) *Tape {
	t.Helper()
	x := New(b)
	if got, e := x.Draw(n); e != api.OK || !bytes.Equal(got, b[:n]) {
		t.Fatalf("the first %d of %d: %x, %d", n, len(b), got, e)
	}
	return x
}

// stands tells where a tape of so many bytes should be: by Place, Left, and Can at the edge.
func stands(t *testing.T, x *Tape, place, size int) {
	t.Helper()
	left := size - place
	if x.Place() != place || x.Left() != left || !x.Can(left) || x.Can(left+1) {
		t.Fatalf("%d of %d: Place %d, Left %d, Can %v, %v", place, size, x.Place(), x.Left(), x.Can(left), x.Can(left+1))
	}
}

// refusedDraw is whether Draw answers nothing but an error, and the place stays.
func refusedDraw(t *testing.T, x *Tape, n int, want api.Errno) {
	t.Helper()
	place, left := x.Place(), x.Left()
	if b, e := x.Draw(n); e != want || b != nil {
		t.Errorf("Draw(%d): %x, %d, not %d", n, b, e, want)
	}
	if x.Place() != place || x.Left() != left {
		t.Errorf("Draw(%d): from %d, %d to %d, %d", n, place, left, x.Place(), x.Left())
	}
}

// refusedKeys is whether Keys answers nothing but an error, and the place stays.
func refusedKeys(t *testing.T, x *Tape, n, size int, want api.Errno) {
	t.Helper()
	place, left := x.Place(), x.Left()
	if l, e := x.Keys(n, size); e != want || l != nil {
		t.Errorf("Keys(%d, %d): %d keys, %d, not %d", n, size, len(l), e, want)
	}
	if x.Place() != place || x.Left() != left {
		t.Errorf("Keys(%d, %d): from %d, %d to %d, %d", n, size, place, left, x.Place(), x.Left())
	}
}

// isKeys is whether keys are bytes, cut by their size.
func isKeys(l [][]byte, n, size int, b []byte) bool {
	if len(l) != n || !bytes.Equal(slices.Concat(l...), b) {
		return false
	}
	for _, k := range l {
		if len(k) != size {
			return false
		}
	}
	return true
}

// expected is a seed's first n bytes by the chapter's words, of sums made by another program.
func expected(seed []byte, n int) []byte {
	var b []byte
	for i := uint64(0); len(b) < n; i++ {
		sum := sha256.Sum256(binary.BigEndian.AppendUint64(bytes.Clone(seed), i))
		b = append(b, sum[:]...)
	}
	return b[:n]
}

// stretched is Stretch's answer, which must be none of an error.
func stretched(t *testing.T, seed []byte, n int) []byte {
	t.Helper()
	b, e := Stretch(seed, n)
	if e != api.OK || len(b) != n {
		t.Fatalf("%d bytes of a seed of %d: %d bytes, %d", n, len(seed), len(b), e)
	}
	return b
}

// P11.1: a new tape is at its begin, and has all its bytes, none and very many of them, too.
func TestNew(t *testing.T) {
	for _, n := range []int{0, 1, 2, 63, 64, 255, 256, 257, 1 << 16, 1 << 20, 1<<20 + 1, 1 << 24} {
		b := drawn(n)
		x := New(b)
		if x == nil {
			t.Fatalf("%d bytes: no tape", n)
		}
		stands(t, x, 0, n)
		if got, e := x.Draw(n); e != api.OK || !bytes.Equal(got, b) {
			t.Errorf("all %d bytes: %d bytes, %d", n, len(got), e)
		}
		stands(t, x, n, n)
	}
}

// P11.1: a tape of no bytes is a tape; of it no bytes can be drawn, and no more.
func TestNewOfNothing(t *testing.T) {
	for name, b := range map[string][]byte{"nil": nil, "empty": {}, "room": make([]byte, 0, 9)} {
		x := New(b)
		if x == nil {
			t.Fatalf("%s: no tape", name)
		}
		for range 2 {
			stands(t, x, 0, 0)
			if got, e := x.Draw(0); e != api.OK || len(got) != 0 {
				t.Errorf("%s: Draw(0): %x, %d", name, got, e)
			}
			if l, e := x.Keys(0, 1); e != api.OK || len(l) != 0 {
				t.Errorf("%s: Keys(0, 1): %x, %d", name, l, e)
			}
		}
		refusedDraw(t, x, 1, api.ErrDry)
		refusedDraw(t, x, -1, api.ErrArg)
		refusedKeys(t, x, 1, 1, api.ErrDry)
	}
}

// P11.1: each number of bytes that are left, drawn from each place; and one more, which leaves the place as it is.
func TestDraw(t *testing.T) {
	const size = 40
	b := drawn(size)
	for place := range size + 1 {
		for n := range size - place + 1 {
			x := at(t, b, place)
			stands(t, x, place, size)
			refusedDraw(t, x, size-place+1, api.ErrDry)
			if got, e := x.Draw(n); e != api.OK || !bytes.Equal(got, b[place:place+n]) {
				t.Fatalf("%d from %d on: %x, %d", n, place, got, e)
			}
			stands(t, x, place+n, size)
		}
	}
}

// P11.1: drawing no bytes leaves the place as it is, at the begin, between and at the end.
func TestDrawNothing(t *testing.T) {
	for _, place := range []int{0, 1, 4, 5} {
		x := at(t, drawn(5), place)
		for range 3 {
			if b, e := x.Draw(0); e != api.OK || len(b) != 0 {
				t.Errorf("at %d: %x, %d", place, b, e)
			}
			stands(t, x, place, 5)
		}
	}
}

// P11.1: Draw's ErrArg of each number below 0, though the tape be dry.
func TestDrawErrArg(t *testing.T) {
	for _, place := range []int{0, 3, 8} {
		x := at(t, drawn(8), place)
		for _, n := range below() {
			refusedDraw(t, x, n, api.ErrArg)
		}
		stands(t, x, place, 8)
	}
}

// P11.1: Draw's ErrDry, behind which all that was left still is.
func TestDrawErrDry(t *testing.T) {
	b := drawn(300)
	for _, place := range []int{0, 1, 44, 299, 300} {
		x := at(t, b, place)
		left := 300 - place
		for _, n := range append(far(), left+1, left+2, left+256, left+1<<16, left+1<<32, math.MaxInt-place, math.MaxInt-place+min(place, 1)) {
			refusedDraw(t, x, n, api.ErrDry)
		}
		stands(t, x, place, 300)
		if got, e := x.Draw(left); e != api.OK || !bytes.Equal(got, b[place:]) {
			t.Errorf("what was left from %d on: %x, %d", place, got, e)
		}
		refusedDraw(t, x, 1, api.ErrDry)
	}
}

// P11.1: Can says just what Draw does, and changes nothing.
func TestCan(t *testing.T) {
	b := drawn(50)
	for place := range 51 {
		x := at(t, b, place)
		for n := range 120 {
			can := x.Can(n)
			if can != (n <= 50-place) {
				t.Fatalf("%d at %d: %v", n, place, can)
			}
			if _, e := at(t, b, place).Draw(n); (e == api.OK) != can {
				t.Fatalf("%d at %d: %v, and Draw tells %d", n, place, can, e)
			}
		}
		for _, n := range append(below(), far()...) {
			if x.Can(n) {
				t.Errorf("%d at %d: yes", n, place)
			}
		}
		stands(t, x, place, 50)
	}
}

// P11.1: two tapes of the same bytes go on apart from each other.
func TestApart(t *testing.T) {
	b := drawn(30)
	x, y := New(b), New(b)
	x.Draw(10)
	stands(t, y, 0, 30)
	if got, e := y.Draw(4); e != api.OK || !bytes.Equal(got, b[:4]) {
		t.Errorf("the other's first: %x, %d", got, e)
	}
	stands(t, x, 10, 30)
	if l, e := x.Keys(2, 3); e != api.OK || !isKeys(l, 2, 3, b[10:16]) {
		t.Errorf("the one's next: %x, %d", l, e)
	}
	stands(t, y, 4, 30)
}

// P11.2: keys of each size, of few and of many, from a place that is not the begin, with bytes left behind.
func TestKeys(t *testing.T) {
	for size := 1; size <= 64; size++ {
		for _, n := range []int{0, 1, 2, 3, 10, 63, 64, 65, 255, 256, 257} {
			for _, behind := range []int{0, 1, 7} {
				all := 5 + n*size + behind
				b := drawn(all)
				x := at(t, b, 5)
				l, e := x.Keys(n, size)
				if e != api.OK || !isKeys(l, n, size, b[5:5+n*size]) {
					t.Fatalf("Keys(%d, %d): %d keys, %d", n, size, len(l), e)
				}
				stands(t, x, 5+n*size, all)
			}
		}
	}
}

// P11.2: keys are just so many draws of the size.
func TestKeysAreDraws(t *testing.T) {
	b := drawn(500)
	for _, size := range []int{1, 3, 16, 32, 64} {
		for n := range 7 {
			x, y := at(t, b, 9), at(t, b, 9)
			l, e := x.Keys(n, size)
			if e != api.OK || len(l) != n {
				t.Fatalf("Keys(%d, %d): %d keys, %d", n, size, len(l), e)
			}
			for i, k := range l {
				if one, e := y.Draw(size); e != api.OK || !bytes.Equal(k, one) {
					t.Errorf("Keys(%d, %d): key %d is %x, and the draw %x, %d", n, size, i, k, one, e)
				}
			}
			stands(t, x, y.Place(), 500)
		}
	}
}

// P11.2: as many keys as may be, of the smallest and the greatest size: of a tape that has just as many bytes, and of one that has one fewer.
func TestMostKeys(t *testing.T) {
	for _, n := range []int{1, 4095, 4096} {
		for _, size := range []int{1, 2, 63, 64} {
			b := drawn(n * size)
			x := New(b)
			if l, e := x.Keys(n, size); e != api.OK || !isKeys(l, n, size, b) {
				t.Errorf("Keys(%d, %d): %d keys, %d", n, size, len(l), e)
			}
			stands(t, x, n*size, n*size)
			less := New(b[1:])
			refusedKeys(t, less, n, size, api.ErrDry)
			stands(t, less, 0, n*size-1)
		}
	}
}

// P11.2: no keys are drawn of a tape that is dry, too.
func TestNoKeys(t *testing.T) {
	for _, place := range []int{0, 2, 5} {
		x := at(t, drawn(5), place)
		for _, size := range []int{1, 6, 63, 64} {
			if l, e := x.Keys(0, size); e != api.OK || len(l) != 0 {
				t.Errorf("Keys(0, %d) at %d: %x, %d", size, place, l, e)
			}
		}
		stands(t, x, place, 5)
	}
}

// P11.2: Keys' ErrArg beyond each edge of each number, whatever the other is, and whether or not the tape has so many bytes.
func TestKeysErrArg(t *testing.T) {
	rightNumbers, rightSizes := []int{0, 1, 2, 4095, 4096}, []int{1, 2, 63, 64}
	wrongNumbers := append(append(below(), far()...), 4097, 4098, 8192, 1<<16, 1<<16+1)
	wrongSizes := append(append(below(), far()...), 0, 65, 66, 128, 256, 257, 1<<16, 1<<16+1)
	for _, x := range []*Tape{New(nil), New(drawn(10)), New(drawn(1 << 20)), at(t, drawn(10), 10)} {
		for _, n := range wrongNumbers {
			for _, size := range append(rightSizes, wrongSizes...) {
				refusedKeys(t, x, n, size, api.ErrArg)
			}
		}
		for _, size := range wrongSizes {
			for _, n := range rightNumbers {
				refusedKeys(t, x, n, size, api.ErrArg)
			}
		}
	}
}

// P11.2: Keys' ErrDry at each number of bytes that are too few, some whole keys among them: none is drawn.
func TestKeysErrDry(t *testing.T) {
	for _, c := range []struct{ n, size int }{{1, 1}, {1, 32}, {2, 16}, {3, 5}, {10, 1}, {5, 64}} {
		for left := range c.n * c.size {
			b := drawn(4 + left)
			x := at(t, b, 4)
			refusedKeys(t, x, c.n, c.size, api.ErrDry)
			if got, e := x.Draw(left); e != api.OK || !bytes.Equal(got, b[4:]) {
				t.Fatalf("%d bytes behind Keys(%d, %d): %x, %d", left, c.n, c.size, got, e)
			}
		}
	}
}

// P11.2: a seed's bytes, each number of them up to a few hundred.
func TestStretch(t *testing.T) {
	for _, seed := range [][]byte{nil, {}, {0}, {0xff}, []byte("seed"), drawn(32)} {
		for n := range 300 {
			if got, want := stretched(t, seed, n), expected(seed, n); !bytes.Equal(got, want) {
				t.Fatalf("%d bytes of %x: %x, not %x", n, seed, got, want)
			}
		}
	}
}

// P11.2: seeds of every number of bytes around the pieces of a sum, of noughts and of all bits.
func TestStretchOfSeeds(t *testing.T) {
	var seeds [][]byte
	for n := range 200 {
		seeds = append(seeds, drawn(n), make([]byte, n), bytes.Repeat([]byte{0xff}, n))
	}
	for _, n := range []int{1000, 1 << 12, 1 << 16, 1 << 20} {
		seeds = append(seeds, drawn(n))
	}
	for _, seed := range seeds {
		if got, want := stretched(t, seed, 100), expected(seed, 100); !bytes.Equal(got, want) {
			t.Fatalf("a seed of %d bytes: %x, not %x", len(seed), got, want)
		}
	}
}

// P11.2: numbers of bytes around whole sums, around where a sum's number takes another byte, and up to the last that may be.
func TestStretchFar(t *testing.T) {
	for _, n := range []int{31, 32, 33, 1023, 1024, 8191, 8192, 8193, 8224, 1<<16 - 1, 1 << 16, 1<<16 + 1, 1<<20 - 33, 1<<20 - 32, 1<<20 - 1, 1 << 20} {
		if got, want := stretched(t, []byte("seed"), n), expected([]byte("seed"), n); !bytes.Equal(got, want) {
			t.Errorf("%d bytes: others", n)
		}
	}
}

// P11.2: written out: what is summed, byte by byte, for the first sums.
func TestStretchWrittenOut(t *testing.T) {
	got := stretched(t, []byte("seed"), 80)
	var want []byte
	for _, text := range []string{"seed\x00\x00\x00\x00\x00\x00\x00\x00", "seed\x00\x00\x00\x00\x00\x00\x00\x01", "seed\x00\x00\x00\x00\x00\x00\x00\x02"} {
		sum := sha256.Sum256([]byte(text))
		want = append(want, sum[:]...)
	}
	if !bytes.Equal(got, want[:80]) {
		t.Errorf("%x, not %x", got, want[:80])
	}
	far := stretched(t, []byte("seed"), 257*32)
	if sum := sha256.Sum256([]byte("seed\x00\x00\x00\x00\x00\x00\x01\x00")); !bytes.Equal(far[256*32:], sum[:]) {
		t.Errorf("the sum 256: %x, not %x", far[256*32:], sum)
	}
}

// P11.2: Stretch's ErrArg beyond both edges, whatever the seed is.
func TestStretchErrArg(t *testing.T) {
	for _, seed := range [][]byte{nil, {}, []byte("seed"), drawn(1000)} {
		for _, n := range append(append(below(), far()...), 1<<20+1, 1<<20+2, 1<<20+32, 1<<21, 1<<24) {
			if b, e := Stretch(seed, n); e != api.ErrArg || b != nil {
				t.Errorf("%d bytes: %d bytes, %d", n, len(b), e)
			}
		}
		for _, n := range []int{0, 1, 1<<20 - 1, 1 << 20} {
			stretched(t, seed, n)
		}
	}
}

// P11.2: of a tape that is none: ErrNil, 0, no, whatever is asked, what would be another error, too; and it stays none.
func TestNone(t *testing.T) {
	numbers := append(append(below(), far()...), 0, 1, 2, 64, 65, 4096, 4097)
	for name, x := range nones() {
		for range 2 {
			for _, n := range numbers {
				if b, e := x.Draw(n); e != api.ErrNil || b != nil {
					t.Errorf("%s: Draw(%d): %x, %d", name, n, b, e)
				}
				if x.Can(n) {
					t.Errorf("%s: Can(%d)", name, n)
				}
				for _, size := range numbers {
					if l, e := x.Keys(n, size); e != api.ErrNil || l != nil {
						t.Errorf("%s: Keys(%d, %d): %x, %d", name, n, size, l, e)
					}
				}
			}
			if x.Place() != 0 || x.Left() != 0 {
				t.Errorf("%s: Place %d, Left %d", name, x.Place(), x.Left())
			}
		}
	}
}

// P11.3: draws of drawn numbers, alone and as keys, one behind the other are the tape, whatever calls between tell an error, or only ask.
func TestDrawsAreTheTape(t *testing.T) {
	draw := rand.New(rand.NewSource(11))
	for try := range 300 {
		b := drawn(try * 7)
		x := New(b)
		var got []byte
		for x.Left() > 0 {
			stands(t, x, len(got), len(b))
			refusedDraw(t, x, x.Left()+1+draw.Intn(9), api.ErrDry)
			refusedDraw(t, x, -1-draw.Intn(9), api.ErrArg)
			refusedKeys(t, x, x.Left()+1, 1, dryOrArg(x.Left()+1))
			refusedKeys(t, x, 1, 65, api.ErrArg)
			if n, size := draw.Intn(4), 1+draw.Intn(64); try%2 == 0 && x.Can(n*size) {
				l, e := x.Keys(n, size)
				if e != api.OK || len(l) != n {
					t.Fatalf("Keys(%d, %d): %d keys, %d", n, size, len(l), e)
				}
				got = append(got, slices.Concat(l...)...)
			}
			n := min(draw.Intn(90), x.Left())
			one, e := x.Draw(n)
			if e != api.OK || len(one) != n {
				t.Fatalf("Draw(%d): %x, %d", n, one, e)
			}
			got = append(got, one...)
		}
		if !bytes.Equal(got, b) {
			t.Fatalf("a tape of %d bytes: %x, not %x", len(b), got, b)
		}
		stands(t, x, len(b), len(b))
	}
}

// dryOrArg is what Keys tells of so many keys of one byte each, which are more than are left.
func dryOrArg(n int) api.Errno {
	if n > 4096 {
		return api.ErrArg
	}
	return api.ErrDry
}

// P11.3: byte by byte, a tape is its bytes; each byte that there is among them.
func TestByteByByte(t *testing.T) {
	b := make([]byte, 256)
	for i := range b {
		b[i] = byte(i)
	}
	x := New(b)
	for i := range b {
		if got, e := x.Draw(1); e != api.OK || !bytes.Equal(got, []byte{byte(i)}) {
			t.Fatalf("the byte %d: %x, %d", i, got, e)
		}
	}
	refusedDraw(t, x, 1, api.ErrDry)
}

// What is handed in stays as it is: its bytes, and those beyond its end.
func TestNothingIsChanged(t *testing.T) {
	whole := drawn(300)
	before := bytes.Clone(whole)
	x := New(whole[10:100])
	x.Draw(20)
	x.Keys(3, 10)
	x.Draw(50)
	stretched(t, whole[100:150], 200)
	if !bytes.Equal(whole, before) {
		t.Error("what was handed in was changed")
	}
	stands(t, x, 50, 90)
}

// What is done to a tape's bytes once it is made is no draw of it.
func TestNewKeepsNothing(t *testing.T) {
	b := drawn(60)
	want := bytes.Clone(b)
	x := New(b)
	x.Draw(10)
	clear(b)
	if got, e := x.Draw(10); e != api.OK || !bytes.Equal(got, want[10:20]) {
		t.Errorf("Draw: %x, %d", got, e)
	}
	if l, e := x.Keys(2, 20); e != api.OK || !isKeys(l, 2, 20, want[20:]) {
		t.Errorf("Keys: %x, %d", l, e)
	}
}

// spoil turns all of an answer's bytes, those beyond its end, too.
func spoil(b []byte) {
	b = b[:cap(b)]
	for i := range b {
		b[i] ^= 0xff
	}
}

// What is done to an answer, beyond its end, too, is seen in no other answer; beyond an answer's end stands nothing that was not drawn yet.
func TestAnswersAreNew(t *testing.T) {
	b := drawn(100)
	x := New(b)
	first, _ := x.Draw(10)
	if beyond := first[10:cap(first)]; !bytes.Equal(beyond, make([]byte, len(beyond))) {
		t.Errorf("behind a draw's end stands more: %x", beyond)
	}
	spoil(first)
	l, e := x.Keys(4, 10)
	if e != api.OK || !isKeys(l, 4, 10, b[10:50]) {
		t.Fatalf("behind a spoilt draw: %x, %d", l, e)
	}
	for i, k := range l {
		if beyond := k[10:cap(k)]; !bytes.Equal(beyond, make([]byte, len(beyond))) {
			t.Errorf("behind the key %d stands more: %x", i, beyond)
		}
		spoil(k)
		if !bytes.Equal(slices.Concat(l[i+1:]...), b[20+10*i:50]) {
			t.Errorf("the key %d reaches those behind it", i)
		}
	}
	if rest, e := x.Draw(50); e != api.OK || !bytes.Equal(rest, b[50:]) {
		t.Errorf("behind spoilt keys: %x, %d", rest, e)
	}
	made := stretched(t, []byte("seed"), 40)
	if beyond := made[40:cap(made)]; !bytes.Equal(beyond, make([]byte, len(beyond))) {
		t.Errorf("behind a seed's bytes stands more: %x", beyond)
	}
	spoil(made)
	if !bytes.Equal(stretched(t, []byte("seed"), 40), expected([]byte("seed"), 40)) {
		t.Error("a seed's bytes were changed")
	}
}

// An answer has memory of its own: what is done to it isn't seen in a tape that was copied as a value, and stands at the place of then.
func TestCopiedTape(t *testing.T) {
	b := drawn(60)
	x := at(t, b, 5)
	y := *x
	one, _ := x.Draw(15)
	spoil(one)
	l, _ := x.Keys(2, 10)
	for _, k := range l {
		spoil(k)
	}
	stands(t, &y, 5, 60)
	if got, e := y.Draw(55); e != api.OK || !bytes.Equal(got, b[5:]) {
		t.Errorf("the copy: %x, %d", got, e)
	}
	stands(t, x, 40, 60)
}

// The same again is the same, whatever else was asked between.
func TestSameAgain(t *testing.T) {
	b := drawn(80)
	for range 3 {
		x := New(b)
		one, e1 := x.Draw(8)
		l, e2 := x.Keys(2, 32)
		if e1 != api.OK || e2 != api.OK || !bytes.Equal(one, b[:8]) || !isKeys(l, 2, 32, b[8:72]) {
			t.Errorf("%x, %d, %x, %d", one, e1, l, e2)
		}
		if got := stretched(t, b, 70); !bytes.Equal(got, expected(b, 70)) {
			t.Errorf("a seed's bytes: %x", got)
		}
	}
}

// The chapter's example.
func TestExample(t *testing.T) {
	x := New([]byte{1, 2, 3})
	if b, e := x.Draw(2); e != api.OK || !bytes.Equal(b, []byte{1, 2}) {
		t.Errorf("Draw(2): %x, %d", b, e)
	}
	if x.Left() != 1 {
		t.Errorf("%d are left", x.Left())
	}
}
