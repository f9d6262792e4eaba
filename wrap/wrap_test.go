package wrap

import (
	"bytes"
	"crypto/aes"
	"encoding/binary"
	"encoding/hex"
	"math"
	"math/rand"
	"strings"
	"testing"

	"chatelaine/api"
)

// drawn is n bytes that are the same in each run.
func drawn(n int) []byte {
	b := make([]byte, n)
	rand.New(rand.NewSource(int64(n))).Read(b)
	return b
}

// bytesOf is the bytes of digits, with spaces between.
func bytesOf(t *testing.T, digits string) []byte {
	t.Helper()
	b, err := hex.DecodeString(strings.ReplaceAll(digits, " ", ""))
	if err != nil {
		t.Fatal(err)
	}
	return b
}

// begin is A ahead of all steps.
var begin = []byte{0xa6, 0xa6, 0xa6, 0xa6, 0xa6, 0xa6, 0xa6, 0xa6}

// expected is a key of any pieces, wrapped by the chapter's words with any A, of blocks enciphered by another program.
func expected(t *testing.T, kek, key, a []byte) []byte {
	t.Helper()
	c, err := aes.NewCipher(kek)
	if err != nil {
		t.Fatal(err)
	}
	a = bytes.Clone(a)
	var r [][]byte
	for at := 0; at < len(key); at += 8 {
		r = append(r, bytes.Clone(key[at:at+8]))
	}
	count := uint64(0)
	for range 6 {
		for i := range r {
			b := bytes.Join([][]byte{a, r[i]}, nil)
			c.Encrypt(b, b)
			count++
			binary.BigEndian.PutUint64(a, binary.BigEndian.Uint64(b)^count)
			r[i] = b[8:]
		}
	}
	return bytes.Join(append([][]byte{a}, r...), nil)
}

// keks is keys to wrap in, of both sizes: drawn ones, noughts, and all bits.
func keks() [][]byte {
	var l [][]byte
	for _, n := range []int{16, 32} {
		l = append(l, drawn(n), drawn(100)[50:50+n], make([]byte, n), bytes.Repeat([]byte{0xff}, n))
	}
	return l
}

// keys is keys to be wrapped, of each number of pieces: drawn ones, noughts, all bits, and A's bytes.
func keys() [][]byte {
	var l [][]byte
	for n := 16; n <= 64; n += 8 {
		l = append(l, drawn(n), drawn(n + 1)[1:], make([]byte, n), bytes.Repeat([]byte{0xff}, n), bytes.Repeat([]byte{0xa6}, n))
	}
	return l
}

// wrapped is Wrap's answer, which must be none of an error.
func wrapped(t *testing.T, kek, key []byte) []byte {
	t.Helper()
	b, e := Wrap(kek, key)
	if e != api.OK || len(b) != len(key)+8 {
		t.Fatalf("%d bytes under %d: %x, %d", len(key), len(kek), b, e)
	}
	return b
}

// unwrapped is Unwrap's answer, which must be none of an error.
func unwrapped(t *testing.T, kek, b []byte) []byte {
	t.Helper()
	key, e := Unwrap(kek, b)
	if e != api.OK || len(key) != len(b)-8 {
		t.Fatalf("%d bytes under %d: %x, %d", len(b), len(kek), key, e)
	}
	return key
}

// P9.1: keys of 2 to 8 pieces, under keys of both sizes.
func TestWrap(t *testing.T) {
	for _, kek := range keks() {
		for _, key := range keys() {
			if got, want := wrapped(t, kek, key), expected(t, kek, key, begin); !bytes.Equal(got, want) {
				t.Errorf("%x under %x: %x, not %x", key, kek, got, want)
			}
		}
	}
}

// P9.1: the wrapped keys that RFC 3394 prints, for keys of 16 and of 32 bytes.
func TestPrinted(t *testing.T) {
	const (
		short = "000102030405060708090a0b0c0d0e0f"
		long  = short + "101112131415161718191a1b1c1d1e1f"
		data  = "00112233445566778899aabbccddeeff"
	)
	for _, c := range []struct{ kek, key, want string }{
		{short, data, "1fa68b0a8112b447 aef34bd8fb5a7b82 9d3e862371d2cfe5"},
		{long, data, "64e8c3f9ce0f5ba2 63e9777905818a2a 93c8191e7d6e8ae7"},
		{long, data + "0001020304050607", "a8f9bc1612c68b3f f6e6f4fbe30e71e4 769c8b80a32cb895 8cd5d17d6b254da1"},
		{long, data + short, "28c9f404c4b810f4 cbccb35cfb87f826 3f5786e2d80ed326 cbc7f0e71a99f43b fb988b9b7a02dd21"},
	} {
		kek, key, want := bytesOf(t, c.kek), bytesOf(t, c.key), bytesOf(t, c.want)
		if got := wrapped(t, kek, key); !bytes.Equal(got, want) {
			t.Errorf("%s under %s: %x", c.key, c.kek, got)
		}
		if got := unwrapped(t, kek, want); !bytes.Equal(got, key) {
			t.Errorf("%s under %s, unwrapped: %x", c.want, c.kek, got)
		}
	}
}

// P9.1: a key to wrap in that has neither 16 nor 32 bytes, 24 among them.
func TestErrKey(t *testing.T) {
	good := expected(t, drawn(16), drawn(32), begin)
	for _, n := range append(upTo(100), 128, 256, 1<<16, 1<<16+16, 1<<16+32) {
		if n == 16 || n == 32 {
			continue
		}
		if b, e := Wrap(drawn(n), drawn(32)); e != api.ErrKey || len(b) != 0 {
			t.Errorf("wrapped under %d bytes: %x, %d", n, b, e)
		}
		if b, e := Unwrap(drawn(n), good); e != api.ErrKey || len(b) != 0 {
			t.Errorf("unwrapped under %d bytes: %x, %d", n, b, e)
		}
	}
	if b, e := Wrap(nil, drawn(32)); e != api.ErrKey || len(b) != 0 {
		t.Errorf("wrapped under nil: %x, %d", b, e)
	}
	if b, e := Unwrap(nil, good); e != api.ErrKey || len(b) != 0 {
		t.Errorf("unwrapped under nil: %x, %d", b, e)
	}
}

// upTo is the numbers from 0 to n.
func upTo(n int) []int {
	l := make([]int, n+1)
	for i := range l {
		l[i] = i
	}
	return l
}

// P9.1: a key that isn't from 2 to 8 pieces; each number of bytes at and around the edges.
func TestWrapErrArg(t *testing.T) {
	for _, kek := range keks() {
		for _, n := range append(upTo(200), 256, 256+16, 1<<16, 1<<16+16, 1<<20) {
			b, e := Wrap(kek, drawn(n))
			if n >= 16 && n <= 64 && n%8 == 0 {
				if e != api.OK || len(b) != n+8 {
					t.Errorf("%d bytes under %d: %x, %d", n, len(kek), b, e)
				}
			} else if e != api.ErrArg || len(b) != 0 {
				t.Errorf("%d bytes under %d: %x, %d", n, len(kek), b, e)
			}
		}
		if b, e := Wrap(kek, nil); e != api.ErrArg || len(b) != 0 {
			t.Errorf("nil under %d: %x, %d", len(kek), b, e)
		}
	}
}

// P9.1: a wrapped key that isn't from 3 to 9 pieces. Those of other numbers of pieces are made in the chapter's way, so that it is their size alone that is wrong.
func TestUnwrapErrArg(t *testing.T) {
	for _, kek := range keks() {
		for _, n := range append(upTo(200), 256, 256+24, 1<<16, 1<<16+24, 1<<20) {
			b, e := Unwrap(kek, drawn(n))
			if n >= 24 && n <= 72 && n%8 == 0 {
				if e != api.ErrSum || len(b) != 0 {
					t.Errorf("%d bytes under %d: %x, %d", n, len(kek), b, e)
				}
			} else if e != api.ErrArg || len(b) != 0 {
				t.Errorf("%d bytes under %d: %x, %d", n, len(kek), b, e)
			}
		}
		for _, n := range []int{0, 8, 72, 80} {
			if b, e := Unwrap(kek, expected(t, kek, drawn(n), begin)); e != api.ErrArg || len(b) != 0 {
				t.Errorf("a key of %d bytes under %d: %x, %d", n, len(kek), b, e)
			}
		}
		if b, e := Unwrap(kek, nil); e != api.ErrArg || len(b) != 0 {
			t.Errorf("nil under %d: %x, %d", len(kek), b, e)
		}
	}
}

// P9.1: of several errors the first one that the chapter names.
func TestErrorsInOrder(t *testing.T) {
	for _, kek := range [][]byte{nil, {}, drawn(15), drawn(17), drawn(24), drawn(33)} {
		for _, n := range []int{0, 8, 15, 17, 23, 25, 72, 73, 80} {
			if b, e := Wrap(kek, drawn(n)); e != api.ErrKey || len(b) != 0 {
				t.Errorf("%d bytes wrapped under %d: %x, %d", n, len(kek), b, e)
			}
			if b, e := Unwrap(kek, drawn(n)); e != api.ErrKey || len(b) != 0 {
				t.Errorf("%d bytes unwrapped under %d: %x, %d", n, len(kek), b, e)
			}
		}
		if b, e := Unwrap(kek, drawn(32)); e != api.ErrKey || len(b) != 0 {
			t.Errorf("what was not wrapped, under %d: %x, %d", len(kek), b, e)
		}
	}
}

// P9.1: a wrapped key with a byte changed, at each place, in each bit and in all.
func TestErrSumOfChanged(t *testing.T) {
	for _, kek := range [][]byte{drawn(16), drawn(32)} {
		for n := 16; n <= 64; n += 8 {
			b := wrapped(t, kek, drawn(n))
			for i := range b {
				for _, bits := range []byte{1, 2, 4, 8, 16, 32, 64, 128, 255} {
					b[i] ^= bits
					if key, e := Unwrap(kek, b); e != api.ErrSum || len(key) != 0 {
						t.Fatalf("%d bytes, byte %d by %d: %x, %d", n, i, bits, key, e)
					}
					b[i] ^= bits
				}
			}
			unwrapped(t, kek, b)
		}
	}
}

// P9.1: another A than a6.., by one bit alone at each place, and those whose bytes are the same in part or in sum.
func TestErrSumOfOtherBegins(t *testing.T) {
	var others [][]byte
	for bit := range 64 {
		a := bytes.Clone(begin)
		a[bit/8] ^= 1 << (bit % 8)
		others = append(others, a)
	}
	for i := range 8 {
		a := bytes.Clone(begin)
		a[i], a[(i+1)%8] = 0xa5, 0xa7
		others = append(others, a)
	}
	others = append(others, make([]byte, 8), bytes.Repeat([]byte{0xff}, 8), bytes.Repeat([]byte{0x6a}, 8), bytes.Repeat([]byte{0x59}, 8),
		[]byte{0xa6, 0x59, 0x59, 0xa6, 0, 0, 0, 16})
	for _, kek := range [][]byte{drawn(16), drawn(32)} {
		for n := 16; n <= 64; n += 8 {
			for _, a := range others {
				if key, e := Unwrap(kek, expected(t, kek, drawn(n), a)); e != api.ErrSum || len(key) != 0 {
					t.Errorf("%d bytes with %x: %x, %d", n, a, key, e)
				}
			}
			if key, e := Unwrap(kek, expected(t, kek, drawn(n), begin)); e != api.OK || !bytes.Equal(key, drawn(n)) {
				t.Errorf("%d bytes: %x, %d", n, key, e)
			}
		}
	}
}

// P9.1: under another key, of the same size or the other; with pieces in another order, fewer or more; the key itself.
func TestErrSumOfOthers(t *testing.T) {
	kek := drawn(32)
	for n := 24; n <= 56; n += 8 {
		b := wrapped(t, kek, drawn(n))
		turned := append(bytes.Clone(b[8:]), b[:8]...)
		swapped := append(append(bytes.Clone(b[:8]), b[16:24]...), b[8:16]...)
		swapped = append(swapped, b[24:]...)
		for _, wrong := range [][]byte{turned, swapped, b[:n], append(bytes.Clone(b), b[n:]...), drawn(n), make([]byte, n+8), bytes.Repeat([]byte{0xa6}, n+8)} {
			if key, e := Unwrap(kek, wrong); e != api.ErrSum || len(key) != 0 {
				t.Errorf("%x: %x, %d", wrong, key, e)
			}
		}
		for bit := range 256 {
			other := bytes.Clone(kek)
			other[bit/8] ^= 1 << (bit % 8)
			if key, e := Unwrap(other, b); e != api.ErrSum || len(key) != 0 {
				t.Errorf("%d bytes, under a key with the bit %d turned: %x, %d", n, bit, key, e)
			}
		}
		if key, e := Unwrap(kek[:16], b); e != api.ErrSum || len(key) != 0 {
			t.Errorf("%d bytes, under half the key: %x, %d", n, key, e)
		}
	}
}

// P9.2: numbers that have a wrapped key, and all others.
func TestSize(t *testing.T) {
	has := map[int]int{16: 24, 24: 32, 32: 40, 40: 48, 48: 56, 56: 64, 64: 72}
	l := []int{math.MinInt, math.MinInt + 1, math.MinInt + 16, math.MaxInt, math.MaxInt - 7, math.MaxInt - 8, 1 << 62, 1 << 32, 1<<32 + 16, 1<<16 + 64, -1 << 32, 256 + 32}
	for n := -300; n <= 300; n++ {
		l = append(l, n)
	}
	for _, n := range l {
		want, there := has[n]
		if got, ok := Size(n); got != want || ok != there {
			t.Errorf("%d: %d, %v", n, got, ok)
		}
	}
}

// P9.2: Size is of just the keys that Wrap takes, and of what it answers.
func TestSizeIsWraps(t *testing.T) {
	for n := range 200 {
		size, ok := Size(n)
		if b, e := Wrap(drawn(16), drawn(n)); len(b) != size || ok != (e == api.OK) {
			t.Errorf("%d bytes: %d, %v; wrapped: %d, %d", n, size, ok, len(b), e)
		}
	}
}

// P9.2: the key, wrapped in another, of the same size or the other; in itself it stays.
func TestAgain(t *testing.T) {
	for _, from := range keks() {
		for _, to := range keks() {
			for _, key := range keys() {
				b := expected(t, from, key, begin)
				got, e := Again(from, to, b)
				if e != api.OK || !bytes.Equal(got, expected(t, to, key, begin)) {
					t.Fatalf("%x from %x to %x: %x, %d", key, from, to, got, e)
				}
				if bytes.Equal(from, to) != bytes.Equal(got, b) {
					t.Fatalf("%x from %x to %x: %x of %x", key, from, to, got, b)
				}
			}
		}
	}
}

// P9.2: Unwrap's errors under the first key, in their order and ahead of Wrap's under the second.
func TestAgainErrors(t *testing.T) {
	from, to := drawn(16), drawn(32)
	good := expected(t, from, drawn(40), begin)
	changed := bytes.Clone(good)
	changed[47] ^= 1
	for _, c := range []struct {
		what          string
		from, to, key []byte
		want          api.Errno
	}{
		{"from none", nil, to, good, api.ErrKey},
		{"from 24 bytes", drawn(24), to, good, api.ErrKey},
		{"from none, of none", nil, nil, nil, api.ErrKey},
		{"from none, changed", nil, to, changed, api.ErrKey},
		{"of none", from, to, nil, api.ErrArg},
		{"of two pieces", from, to, good[:16], api.ErrArg},
		{"of ten pieces", from, to, expected(t, from, drawn(72), begin), api.ErrArg},
		{"of a part of a piece", from, to, good[:47], api.ErrArg},
		{"of none, to none", from, nil, nil, api.ErrArg},
		{"of ten pieces, to 24 bytes", from, drawn(24), drawn(80), api.ErrArg},
		{"changed", from, to, changed, api.ErrSum},
		{"changed, to none", from, nil, changed, api.ErrSum},
		{"changed, to 24 bytes", from, drawn(24), changed, api.ErrSum},
		{"from the second", to, from, good, api.ErrSum},
		{"to none", from, nil, good, api.ErrKey},
		{"to 15 bytes", from, drawn(15), good, api.ErrKey},
		{"to 24 bytes", from, drawn(24), good, api.ErrKey},
		{"to 33 bytes", from, drawn(33), good, api.ErrKey},
	} {
		if b, e := Again(c.from, c.to, c.key); e != c.want || len(b) != 0 {
			t.Errorf("%s: %x, %d, not %d", c.what, b, e, c.want)
		}
	}
	if _, e := Again(from, to, good); e != api.OK {
		t.Errorf("what is right: %d", e)
	}
}

// P9.3: what is wrapped is unwrapped under the same key, and what is unwrapped is wrapped so again.
func TestThereAndBack(t *testing.T) {
	for _, kek := range keks() {
		for _, key := range keys() {
			b := wrapped(t, kek, key)
			if got := unwrapped(t, kek, b); !bytes.Equal(got, key) {
				t.Fatalf("%x under %x, there and back: %x", key, kek, got)
			}
			b = expected(t, kek, key, begin)
			if got := wrapped(t, kek, unwrapped(t, kek, b)); !bytes.Equal(got, b) {
				t.Fatalf("%x under %x, back and there: %x", b, kek, got)
			}
		}
	}
}

// P9.3: a wrapped key, wrapped itself as often as its size allows, comes back layer by layer.
func TestWrappedInLayers(t *testing.T) {
	layers := [][]byte{drawn(16)}
	for len(layers[0]) <= 64 {
		layers = append([][]byte{wrapped(t, drawn(32), layers[0])}, layers...)
	}
	if b, e := Wrap(drawn(32), layers[0]); e != api.ErrArg || len(b) != 0 {
		t.Errorf("%d bytes: %x, %d", len(layers[0]), b, e)
	}
	for i := range len(layers) - 1 {
		if got := unwrapped(t, drawn(32), layers[i]); !bytes.Equal(got, layers[i+1]) {
			t.Errorf("of %d bytes: %x", len(layers[i]), got)
		}
	}
}

// P9.3: the same again is the same, whatever was wrapped between.
func TestSameAgain(t *testing.T) {
	for _, kek := range keks() {
		for _, key := range keys() {
			b := wrapped(t, kek, key)
			Wrap(nil, key)
			Unwrap(kek, key)
			wrapped(t, drawn(32), drawn(64))
			if !bytes.Equal(b, wrapped(t, bytes.Clone(kek), bytes.Clone(key))) {
				t.Fatalf("%x under %x, again: another", key, kek)
			}
		}
	}
}

// What is handed in stays as it is: the bytes, and what lies beyond their ends.
func TestNothingIsChanged(t *testing.T) {
	for n := 16; n <= 64; n += 8 {
		whole := drawn(400)
		copy(whole[200:], expected(t, whole[:32], drawn(n), begin))
		before := bytes.Clone(whole)
		wrapped(t, whole[:32], whole[100:100+n])
		unwrapped(t, whole[:32], whole[200:200+n+8])
		Unwrap(whole[:16], whole[200:200+n+8])
		if _, e := Again(whole[:32], whole[32:48], whole[200:200+n+8]); e != api.OK {
			t.Errorf("%d bytes, again: %d", n, e)
		}
		if !bytes.Equal(whole, before) {
			t.Errorf("%d bytes: what was handed in was changed", n)
		}
	}
}

// spoil writes over bytes, beyond their end too.
func spoil(b []byte) {
	for i := range b[:cap(b)] {
		b[:cap(b)][i] ^= 0xff
	}
}

// What is done to an answer, beyond its end too, is seen neither in what was handed in nor in another answer; what is done to what was handed in is seen in no answer.
func TestAnswersAreNew(t *testing.T) {
	for n := 16; n <= 64; n += 8 {
		kek, other, key := drawn(32), drawn(16), drawn(n)
		b := wrapped(t, kek, key)
		back := unwrapped(t, kek, b)
		again, _ := Again(kek, other, b)
		spoil(wrapped(t, kek, key))
		spoil(unwrapped(t, kek, b))
		spoil(back)
		spoil(again)
		if !bytes.Equal(kek, drawn(32)) || !bytes.Equal(other, drawn(16)) || !bytes.Equal(key, drawn(n)) || !bytes.Equal(b, expected(t, kek, key, begin)) {
			t.Errorf("%d bytes: an answer reaches what was handed in, or another answer", n)
		}
		want := bytes.Clone(b)
		spoil(kek)
		spoil(key)
		if !bytes.Equal(b, want) {
			t.Errorf("%d bytes: what was handed in reaches an answer", n)
		}
	}
}

// Behind an answer's end stands nothing of the key.
func TestNothingBehind(t *testing.T) {
	for n := 16; n <= 64; n += 8 {
		b := wrapped(t, drawn(32), bytes.Repeat([]byte{0xff}, n))
		for _, answer := range [][]byte{b, unwrapped(t, drawn(32), b)} {
			if beyond := answer[len(answer):cap(answer)]; !bytes.Equal(beyond, make([]byte, len(beyond))) {
				t.Errorf("%d bytes: behind the end stands %x", n, beyond)
			}
		}
	}
}

// The chapter's example.
func TestExample(t *testing.T) {
	for _, kek := range keks() {
		if b, e := Wrap(kek, drawn(16)); e != api.OK || len(b) != 24 {
			t.Errorf("under %d bytes: %x, %d", len(kek), b, e)
		}
	}
	if n, ok := Size(16); n != 24 || !ok {
		t.Errorf("%d, %v", n, ok)
	}
}

func BenchmarkWrap(b *testing.B) {
	kek, key := drawn(32), drawn(32)
	for b.Loop() {
		Wrap(kek, key)
	}
}

func BenchmarkUnwrap(b *testing.B) {
	kek := drawn(32)
	wrapped, _ := Wrap(kek, drawn(32))
	for b.Loop() {
		Unwrap(kek, wrapped)
	}
}
