package xts

import (
	"bytes"
	reference "crypto/aes"
	"encoding/hex"
	"math"
	"math/big"
	"math/rand"
	"slices"
	"strings"
	"testing"

	"chatelaine/api"
)

// drawn is n bytes that are the same in each run.
func drawn(n int) []byte {
	b := make([]byte, n)
	rand.New(rand.NewSource(int64(n))).Read(b)
	return b
}

// bytesOf is the bytes of digits.
func bytesOf(t *testing.T, digits string) []byte {
	t.Helper()
	b, err := hex.DecodeString(digits)
	if err != nil {
		t.Fatal(err)
	}
	return b
}

// made is a Sector that must be there.
func made(t *testing.T, key []byte) *Sector {
	t.Helper()
	s, e := New(key)
	if e != api.OK || s == nil {
		t.Fatalf("New of %d bytes: %v, %d", len(key), s, e)
	}
	return s
}

// keys is keys of both sizes: drawn ones, noughts, all bits, and one whose halves are the same.
func keys() [][]byte {
	var l [][]byte
	for _, n := range []int{32, 64} {
		l = append(l, drawn(n), drawn(100)[3:3+n], make([]byte, n), bytes.Repeat([]byte{0xff}, n), bytes.Repeat(drawn(n/2), 2))
	}
	return l
}

// numbers is numbers from 0 to 2^62: both edges, each bit alone and what is one below, and drawn ones.
func numbers() []int {
	l := []int{0}
	for bit := range 63 {
		l = append(l, 1<<bit, 1<<bit-1)
	}
	draw := rand.New(rand.NewSource(10))
	for range 20 {
		l = append(l, int(draw.Int63n(1<<62+1)))
	}
	return append(l, 0x0102030405060708, 0x3807060504030201, 0x3333333333)
}

// wrongNumbers is numbers that are not from 0 to 2^62; of some the lowest bytes alone would be right.
func wrongNumbers() []int {
	return []int{-1, -2, -255, -256, -1 << 31, -1 << 32, -1 << 61, -1 << 62, -1<<62 - 1, math.MinInt, math.MinInt + 1, 1<<62 + 1, 1<<62 + 2, 1<<62 + 1<<61, math.MaxInt - 1, math.MaxInt}
}

// number is a block as the number whose first byte is the lowest.
func number(b []byte) *big.Int {
	b = bytes.Clone(b)
	slices.Reverse(b)
	return new(big.Int).SetBytes(b)
}

// block is the block of a number.
func block(n *big.Int) []byte {
	b := n.FillBytes(make([]byte, 16))
	slices.Reverse(b)
	return b
}

// expectedTweaks is a sector's tweaks by the chapter's words: another program's cipher, and blocks doubled as great numbers.
func expectedTweaks(t *testing.T, key []byte, n, blocks int) [][]byte {
	t.Helper()
	c, err := reference.NewCipher(key[len(key)/2:])
	if err != nil {
		t.Fatal(err)
	}
	b := block(big.NewInt(int64(n)))
	c.Encrypt(b, b)
	l := [][]byte{b}
	for len(l) < blocks {
		twice := new(big.Int).Lsh(number(l[len(l)-1]), 1)
		if twice.Bit(128) == 1 {
			twice.SetBit(twice, 128, 0)
			twice.Xor(twice, big.NewInt(0x87))
		}
		l = append(l, block(twice))
	}
	return l
}

// expected is a sector, enciphered by the chapter's words; or deciphered, if back.
func expected(t *testing.T, key []byte, n int, sector []byte, back bool) []byte {
	t.Helper()
	c, err := reference.NewCipher(key[:len(key)/2])
	if err != nil {
		t.Fatal(err)
	}
	var out []byte
	for i, tweak := range expectedTweaks(t, key, n, len(sector)/16) {
		b := xor(sector[16*i:16*i+16], tweak)
		if back {
			c.Decrypt(b, b)
		} else {
			c.Encrypt(b, b)
		}
		out = append(out, xor(b, tweak)...)
	}
	return out
}

// xor is bytes, put together by exclusive or with as many others.
func xor(a, b []byte) []byte {
	out := bytes.Clone(a)
	for i, c := range b {
		out[i] ^= c
	}
	return out
}

// enciphered is Encrypt's answer, which must be none of an error.
func enciphered(t *testing.T, s *Sector, n int, b []byte) []byte {
	t.Helper()
	out, e := s.Encrypt(n, b)
	if e != api.OK || len(out) != len(b) {
		t.Fatalf("%d bytes with %d: %d bytes, %d", len(b), n, len(out), e)
	}
	return out
}

// deciphered is Decrypt's answer, which must be none of an error.
func deciphered(t *testing.T, s *Sector, n int, b []byte) []byte {
	t.Helper()
	out, e := s.Decrypt(n, b)
	if e != api.OK || len(out) != len(b) {
		t.Fatalf("%d bytes with %d, back: %d bytes, %d", len(b), n, len(out), e)
	}
	return out
}

// tweakOf is Tweak's answer, which must be none of an error.
func tweakOf(t *testing.T, s *Sector, n, place int) [16]byte {
	t.Helper()
	b, e := s.Tweak(n, place)
	if e != api.OK {
		t.Fatalf("%d, %d: %d", n, place, e)
	}
	return b
}

// refused is whether Encrypt and Decrypt both answer nothing but an error.
func refused(t *testing.T, s *Sector, n int, b []byte, want api.Errno) {
	t.Helper()
	if out, e := s.Encrypt(n, b); e != want || len(out) != 0 {
		t.Errorf("%d bytes with %d: %d bytes, %d, not %d", len(b), n, len(out), e, want)
	}
	if out, e := s.Decrypt(n, b); e != want || len(out) != 0 {
		t.Errorf("%d bytes with %d, back: %d bytes, %d, not %d", len(b), n, len(out), e, want)
	}
}

// P10.1: a key that has neither 32 nor 64 bytes; the sizes of one half, and of halves of 24, among them.
func TestErrKey(t *testing.T) {
	sizes := []int{256, 272, 288, 320, 1 << 16, 1<<16 + 32, 1<<16 + 64}
	for n := range 200 {
		sizes = append(sizes, n)
	}
	for _, n := range sizes {
		s, e := New(drawn(n))
		if n == 32 || n == 64 {
			if s == nil || e != api.OK {
				t.Errorf("%d bytes: %v, %d", n, s, e)
			}
		} else if s != nil || e != api.ErrKey {
			t.Errorf("%d bytes: %v, %d", n, s, e)
		}
	}
	if s, e := New(nil); s != nil || e != api.ErrKey {
		t.Errorf("nil: %v, %d", s, e)
	}
}

// P10.1: what lies behind a key's bytes is none of it.
func TestKeyWithRoomBehind(t *testing.T) {
	room := drawn(64)
	for _, n := range []int{0, 16, 31, 33, 48, 63} {
		if s, e := New(room[:n]); s != nil || e != api.ErrKey {
			t.Errorf("%d of 64 bytes: %v, %d", n, s, e)
		}
	}
	if got, want := enciphered(t, made(t, room[:32]), 7, drawn(48)), expected(t, bytes.Clone(room[:32]), 7, drawn(48), false); !bytes.Equal(got, want) {
		t.Errorf("%x, not %x", got, want)
	}
}

// P10.1: the first half is the blocks' key, the second one the tweaks'.
func TestHalves(t *testing.T) {
	for _, n := range []int{32, 64} {
		key, other := drawn(n), drawn(n+1)
		s := made(t, key)
		want := tweakOf(t, s, 5, 3)
		if got := tweakOf(t, made(t, slices.Concat(other[:n/2], key[n/2:])), 5, 3); got != want {
			t.Errorf("%d bytes: another first half made another tweak", n)
		}
		if got := tweakOf(t, made(t, slices.Concat(key[:n/2], other[:n/2])), 5, 3); got == want {
			t.Errorf("%d bytes: another second half made the same tweak", n)
		}
		b := enciphered(t, s, 5, drawn(64))
		for bit := range 8 * n {
			turned := bytes.Clone(key)
			turned[bit/8] ^= 1 << (bit % 8)
			if bytes.Equal(enciphered(t, made(t, turned), 5, drawn(64)), b) {
				t.Errorf("%d bytes: the bit %d is none of the key", n, bit)
			}
		}
	}
}

// P10.1: each block's tweak, at both edges of the number and of the place, too.
func TestTweak(t *testing.T) {
	for _, key := range keys() {
		s := made(t, key)
		for _, n := range numbers() {
			want := expectedTweaks(t, key, n, 256)
			for _, place := range []int{0, 1, 2, 127, 128, 254, 255} {
				if got := tweakOf(t, s, n, place); got != [16]byte(want[place]) {
					t.Fatalf("%x: %d, %d: %x, not %x", key, n, place, got, want[place])
				}
			}
		}
		want := expectedTweaks(t, key, 1<<62, 256)
		for place := range 256 {
			if got := tweakOf(t, s, 1<<62, place); got != [16]byte(want[place]) {
				t.Fatalf("%x: place %d: %x, not %x", key, place, got, want[place])
			}
		}
	}
}

// P10.1: a tweak's number or block beyond its edges, each alone, and both.
func TestTweakErrArg(t *testing.T) {
	wrongBlocks := []int{-1, -255, -256, -1 << 16, -1 << 32, math.MinInt, 256, 257, 511, 512, 1 << 16, 1<<16 + 1, 1 << 32, 1<<32 + 1, 1 << 62, math.MaxInt}
	for _, n := range []int{32, 64} {
		s := made(t, drawn(n))
		ask := func(number, block int) {
			if b, e := s.Tweak(number, block); e != api.ErrArg || b != [16]byte{} {
				t.Errorf("%d, %d: %x, %d", number, block, b, e)
			}
		}
		for _, number := range wrongNumbers() {
			for _, block := range []int{0, 1, 255} {
				ask(number, block)
			}
			for _, block := range wrongBlocks {
				ask(number, block)
			}
		}
		for _, number := range []int{0, 1, 255, 256, 1 << 62} {
			for _, block := range wrongBlocks {
				ask(number, block)
			}
		}
	}
}

// P10.1: sectors of 1 to 256 blocks, under keys of both sizes.
func TestSectors(t *testing.T) {
	for _, key := range [][]byte{drawn(32), drawn(64)} {
		s := made(t, key)
		for blocks := 1; blocks <= 256; blocks++ {
			sector := drawn(16 * blocks)
			n := blocks * blocks * 999
			if got, want := enciphered(t, s, n, sector), expected(t, key, n, sector, false); !bytes.Equal(got, want) {
				t.Fatalf("%d bytes of key, %d blocks: %x, not %x", len(key), blocks, got, want)
			}
			if got, want := deciphered(t, s, n, sector), expected(t, key, n, sector, true); !bytes.Equal(got, want) {
				t.Fatalf("%d bytes of key, %d blocks, back: %x, not %x", len(key), blocks, got, want)
			}
		}
	}
}

// P10.1: all numbers, under all keys, of noughts, all bits, and drawn bytes.
func TestNumbers(t *testing.T) {
	for _, key := range keys() {
		s := made(t, key)
		for _, n := range numbers() {
			for _, sector := range [][]byte{drawn(80), make([]byte, 32), bytes.Repeat([]byte{0xff}, 48)} {
				if got, want := enciphered(t, s, n, sector), expected(t, key, n, sector, false); !bytes.Equal(got, want) {
					t.Fatalf("%x: %x with %d: %x, not %x", key, sector, n, got, want)
				}
				if got, want := deciphered(t, s, n, sector), expected(t, key, n, sector, true); !bytes.Equal(got, want) {
					t.Fatalf("%x: %x with %d, back: %x, not %x", key, sector, n, got, want)
				}
			}
		}
	}
}

// P10.1: sectors as they are printed in IEEE 1619, of keys of both sizes.
func TestPrinted(t *testing.T) {
	rising := make([]byte, 512)
	for i := range rising {
		rising[i] = byte(i)
	}
	for _, c := range []struct {
		key    string
		number int
		plain  []byte
		begin  string
		end    string
	}{
		{strings.Repeat("00", 32), 0, make([]byte, 32), "917cf69ebd68b2ec9b9fe9a3eadda692", "cd43d2f59598ed858c02c2652fbf922e"},
		{strings.Repeat("11", 16) + strings.Repeat("22", 16), 0x3333333333, bytes.Repeat([]byte{0x44}, 32), "c454185e6a16936e39334038acef838b", "fb186fff7480adc4289382ecd6d394f0"},
		{"fffefdfcfbfaf9f8f7f6f5f4f3f2f1f0" + strings.Repeat("22", 16), 0x3333333333, bytes.Repeat([]byte{0x44}, 32), "af85336b597afc1a900b2eb21ec949d2", "92df4c047e0b21532186a5971a227a89"},
		{"2718281828459045235360287471352631415926535897932384626433832795", 0, rising, "27a7479befa1d476489f308cd4cfa6e2", "0a282df920147beabe421ee5319d0568"},
		{"2718281828459045235360287471352662497757247093699959574966967627" + "3141592653589793238462643383279502884197169399375105820974944592", 0xff, rising, "1c3b3a102f770386e4836c99e370cf9b", "c4f36ffda9fcea70b9c6e693e148c151"},
	} {
		s := made(t, bytesOf(t, c.key))
		got := enciphered(t, s, c.number, c.plain)
		if digits := hex.EncodeToString(got); !strings.HasPrefix(digits, c.begin) || !strings.HasSuffix(digits, c.end) {
			t.Errorf("%s: %x", c.key, got)
		}
		if back := deciphered(t, s, c.number, got); !bytes.Equal(back, c.plain) {
			t.Errorf("%s: back: %x", c.key, back)
		}
	}
}

// P10.1: bytes that are no sector: no whole blocks, none, or more than 256.
func TestErrArgOfBytes(t *testing.T) {
	for _, size := range []int{32, 64} {
		s := made(t, drawn(size))
		room := drawn(5000)
		for n := range room {
			if n%16 == 0 && n >= 16 && n <= 4096 {
				continue
			}
			refused(t, s, 1, room[:n], api.ErrArg)
		}
		for _, n := range []int{1 << 13, 1 << 16, 1<<16 + 16, 1 << 20, 1<<20 + 16} {
			refused(t, s, 1, make([]byte, n), api.ErrArg)
		}
		refused(t, s, 1, nil, api.ErrArg)
		enciphered(t, s, 1, room[:16])
		enciphered(t, s, 1, room[:4096])
		deciphered(t, s, 1, room[:16])
		deciphered(t, s, 1, room[:4096])
	}
}

// P10.1: a number beyond its edges, with a sector and with what is none.
func TestErrArgOfNumbers(t *testing.T) {
	for _, size := range []int{32, 64} {
		s := made(t, drawn(size))
		for _, n := range wrongNumbers() {
			for _, bytes := range []int{16, 32, 4096, 0, 17, 4112} {
				refused(t, s, n, drawn(bytes), api.ErrArg)
			}
		}
	}
}

// P10.1: one that is none, nil or plain, with arguments that are right and with wrong ones.
func TestErrNil(t *testing.T) {
	plain := Sector{}
	for _, s := range []*Sector{nil, {}, &plain, new(Sector)} {
		for _, n := range append(wrongNumbers(), 0, 1, 1<<62) {
			for _, size := range []int{16, 4096, 0, 17, 4112} {
				refused(t, s, n, drawn(size), api.ErrNil)
			}
			for _, place := range []int{0, 255, -1, 256} {
				if b, e := s.Tweak(n, place); e != api.ErrNil || b != [16]byte{} {
					t.Errorf("%v: %d, %d: %x, %d", s, n, place, b, e)
				}
			}
		}
		refused(t, s, 0, nil, api.ErrNil)
	}
}

// P10.1, rule 4: nothing that is handed in is changed, not behind its end either; a key or an answer that is overwritten changes no later answer.
func TestStays(t *testing.T) {
	for _, size := range []int{32, 64} {
		key, sector := drawn(size), drawn(200)
		s := made(t, key)
		first := enciphered(t, s, 9, sector[:160])
		back := deciphered(t, s, 9, sector[:160])
		if !bytes.Equal(key, drawn(size)) || !bytes.Equal(sector, drawn(200)) {
			t.Fatal("what was handed in was changed")
		}
		kept, keptBack := bytes.Clone(first), bytes.Clone(back)
		clear(key)
		clear(first)
		clear(back)
		made(t, key).Encrypt(9, sector[:160])
		if got := enciphered(t, s, 9, sector[:160]); !bytes.Equal(got, kept) {
			t.Errorf("%d bytes: %x, then %x", size, kept, got)
		}
		if got := deciphered(t, s, 9, sector[:160]); !bytes.Equal(got, keptBack) {
			t.Errorf("%d bytes, back: %x, then %x", size, keptBack, got)
		}
		if !bytes.Equal(sector, drawn(200)) {
			t.Error("an answer that was overwritten reached what was handed in")
		}
	}
}

// P10.2: what is enciphered is deciphered, and the other way round.
func TestThereAndBack(t *testing.T) {
	for _, key := range keys() {
		s := made(t, key)
		for _, n := range numbers() {
			sector := drawn(16 * (n%7 + 1))
			if got := deciphered(t, s, n, enciphered(t, s, n, sector)); !bytes.Equal(got, sector) {
				t.Fatalf("%x: %x with %d: %x", key, sector, n, got)
			}
			if got := enciphered(t, s, n, deciphered(t, s, n, sector)); !bytes.Equal(got, sector) {
				t.Fatalf("%x: %x with %d, back first: %x", key, sector, n, got)
			}
		}
		for blocks := 1; blocks <= 256; blocks++ {
			sector := drawn(16 * blocks)
			if got := deciphered(t, s, blocks, enciphered(t, s, blocks, sector)); !bytes.Equal(got, sector) {
				t.Fatalf("%x: %d blocks: %x", key, blocks, got)
			}
		}
	}
}

// P10.2: the same block is another one at each place, and with each number; so is its tweak.
func TestPlaceAndNumber(t *testing.T) {
	for _, key := range keys() {
		s := made(t, key)
		for _, b := range [][]byte{make([]byte, 16), drawn(16)} {
			met, back, tweaks := map[[16]byte]bool{}, map[[16]byte]bool{}, map[[16]byte]bool{}
			count := 0
			for n := range 4 {
				there, here := enciphered(t, s, n, bytes.Repeat(b, 256)), deciphered(t, s, n, bytes.Repeat(b, 256))
				for place := range 256 {
					met[[16]byte(there[16*place:])] = true
					back[[16]byte(here[16*place:])] = true
					tweaks[tweakOf(t, s, n, place)] = true
					count++
				}
			}
			if len(met) != count || len(back) != count || len(tweaks) != count {
				t.Errorf("%x: of %d: %d, %d back, %d tweaks", key, count, len(met), len(back), len(tweaks))
			}
		}
	}
}

// P10.2: with another number, one whose bit at any place is turned, a sector is not deciphered.
func TestOtherNumber(t *testing.T) {
	for _, key := range keys() {
		s := made(t, key)
		sector := drawn(32)
		b := enciphered(t, s, 0, sector)
		for bit := range 63 {
			got := deciphered(t, s, 1<<bit, b)
			if bytes.Equal(got[:16], sector[:16]) || bytes.Equal(got[16:], sector[16:]) {
				t.Errorf("%x: deciphered with 2^%d", key, bit)
			}
		}
	}
}

// P10.2: a block that is changed changes itself alone; those ahead of it and behind stay.
func TestAlone(t *testing.T) {
	for _, key := range [][]byte{drawn(32), drawn(64)} {
		s := made(t, key)
		sector := drawn(4096)
		there, here := enciphered(t, s, 3, sector), deciphered(t, s, 3, sector)
		for _, at := range []int{0, 1, 15, 16, 17, 31, 32, 2047, 2048, 4079, 4080, 4095} {
			changed := bytes.Clone(sector)
			changed[at] ^= 1
			begin, end := at/16*16, at/16*16+16
			for name, pair := range map[string][2][]byte{"there": {there, enciphered(t, s, 3, changed)}, "back": {here, deciphered(t, s, 3, changed)}} {
				want, got := pair[0], pair[1]
				if !bytes.Equal(got[:begin], want[:begin]) || !bytes.Equal(got[end:], want[end:]) {
					t.Errorf("%s: the byte %d reached other blocks", name, at)
				}
				if bytes.Equal(got[begin:end], want[begin:end]) {
					t.Errorf("%s: the byte %d reached nothing", name, at)
				}
			}
		}
	}
}

// P10.2: a sector's first blocks are the same, however many stand behind; each is the cipher's, put together with its tweak.
func TestFirstBlocks(t *testing.T) {
	for _, key := range [][]byte{drawn(32), drawn(64)} {
		s := made(t, key)
		c, err := reference.NewCipher(key[:len(key)/2])
		if err != nil {
			t.Fatal(err)
		}
		sector := drawn(4096)
		there, here := enciphered(t, s, 1<<40, sector), deciphered(t, s, 1<<40, sector)
		for blocks := 1; blocks <= 256; blocks++ {
			n := 16 * blocks
			if !bytes.Equal(enciphered(t, s, 1<<40, sector[:n]), there[:n]) || !bytes.Equal(deciphered(t, s, 1<<40, sector[:n]), here[:n]) {
				t.Errorf("%d blocks are others than the first of more", blocks)
			}
			tweak := tweakOf(t, s, 1<<40, blocks-1)
			b := xor(sector[n-16:n], tweak[:])
			c.Encrypt(b, b)
			if got := xor(b, tweak[:]); !bytes.Equal(got, there[n-16:n]) {
				t.Errorf("block %d: %x, not %x", blocks-1, there[n-16:n], got)
			}
		}
	}
}

func BenchmarkNew(b *testing.B) {
	key := drawn(64)
	for b.Loop() {
		New(key)
	}
}

func BenchmarkEncrypt(b *testing.B) {
	s, _ := New(drawn(64))
	sector := drawn(4096)
	for b.Loop() {
		s.Encrypt(1, sector)
	}
}
