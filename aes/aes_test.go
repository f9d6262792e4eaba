package aes

import (
	"bytes"
	reference "crypto/aes"
	"encoding/hex"
	"math/rand"
	"testing"

	"chatelaine/api"
	"chatelaine/gf"
	"chatelaine/sbox"
)

// unhex is the bytes of hexadecimal digits.
func unhex(t *testing.T, digits string) []byte {
	t.Helper()
	b, err := hex.DecodeString(digits)
	if err != nil {
		t.Fatal(err)
	}
	return b
}

// made is a cipher that must be there.
func made(t *testing.T, key []byte) *Cipher {
	t.Helper()
	c, e := New(key)
	if e != api.OK || c == nil {
		t.Fatalf("New of %d bytes: %v, %v", len(key), c, e)
	}
	return c
}

// keys is keys of both sorts: noughts, all bits, rising bytes, and drawn ones.
func keys() [][]byte {
	draw := rand.New(rand.NewSource(4))
	var l [][]byte
	for _, size := range []int{16, 32} {
		rising := make([]byte, size)
		for i := range rising {
			rising[i] = byte(i)
		}
		l = append(l, make([]byte, size), bytes.Repeat([]byte{0xff}, size), rising)
		for range 60 {
			key := make([]byte, size)
			draw.Read(key)
			l = append(l, key)
		}
	}
	return l
}

// blocks is blocks: noughts, all bits, each bit alone, and drawn ones.
func blocks() [][16]byte {
	draw := rand.New(rand.NewSource(16))
	l := make([][16]byte, 2)
	for i := range l[1] {
		l[1][i] = 0xff
	}
	for bit := range 128 {
		var b [16]byte
		b[bit/8] = 1 << (bit % 8)
		l = append(l, b)
	}
	for range 30 {
		var b [16]byte
		draw.Read(b[:])
		l = append(l, b)
	}
	return l
}

// byWords is the key words, byte by byte, as the chapter's words say it.
func byWords(key []byte) [][4]byte {
	k := len(key) / 4
	var l [][4]byte
	for i := range k {
		l = append(l, [4]byte(key[4*i:4*i+4]))
	}
	for i := k; i < 4*(k+7); i++ {
		w := l[i-1]
		if i%k == 0 {
			w = [4]byte{sbox.Of(w[1]), sbox.Of(w[2]), sbox.Of(w[3]), sbox.Of(w[0])}
			w[0] ^= gf.Power(2, i/k-1)
		} else if k == 8 && i%8 == 4 {
			w = [4]byte{sbox.Of(w[0]), sbox.Of(w[1]), sbox.Of(w[2]), sbox.Of(w[3])}
		}
		for n := range w {
			w[n] ^= l[i-k][n]
		}
		l = append(l, w)
	}
	return l
}

// P4.1: a key of any other number of bytes is none.
func TestWrongKeys(t *testing.T) {
	sizes := []int{100, 128, 256, 1 << 16}
	for size := range 66 {
		if size != 16 && size != 32 {
			sizes = append(sizes, size)
		}
	}
	for _, size := range sizes {
		key := make([]byte, size)
		if c, e := New(key); c != nil || e != api.ErrKey {
			t.Errorf("New of %d bytes: %v, %v", size, c, e)
		}
		if l, e := Words(key); len(l) != 0 || e != api.ErrKey {
			t.Errorf("Words of %d bytes: %v, %v", size, l, e)
		}
	}
	if c, e := New(nil); c != nil || e != api.ErrKey {
		t.Errorf("New of nil: %v, %v", c, e)
	}
	if l, e := Words(nil); len(l) != 0 || e != api.ErrKey {
		t.Errorf("Words of nil: %v, %v", l, e)
	}
}

// P4.1: what lies behind a key's bytes is none of it.
func TestKeyWithRoomBehind(t *testing.T) {
	room := make([]byte, 64)
	for i := range room {
		room[i] = byte(i)
	}
	if _, e := New(room[:17]); e != api.ErrKey {
		t.Errorf("17 of 64 bytes: %v", e)
	}
	if got := made(t, room[:16]).Rounds(); got != 10 {
		t.Errorf("16 of 64 bytes: %d rounds", got)
	}
	if got := made(t, room[:32]).Rounds(); got != 14 {
		t.Errorf("32 of 64 bytes: %d rounds", got)
	}
}

// P4.1
func TestRounds(t *testing.T) {
	for _, key := range keys() {
		want := 10
		if len(key) == 32 {
			want = 14
		}
		if got := made(t, key).Rounds(); got != want {
			t.Errorf("%d bytes: %d rounds, want %d", len(key), got, want)
		}
	}
}

// P4.1: the words as they are printed in the standard of the cipher.
func TestWordsPrinted(t *testing.T) {
	for _, one := range []struct {
		key  string
		want map[int]uint32
	}{
		{"2b7e151628aed2a6abf7158809cf4f3c", map[int]uint32{
			0: 0x2b7e1516, 1: 0x28aed2a6, 2: 0xabf71588, 3: 0x09cf4f3c,
			4: 0xa0fafe17, 5: 0x88542cb1, 6: 0x23a33939, 7: 0x2a6c7605,
			8: 0xf2c295f2, 36: 0xac7766f3, 40: 0xd014f9a8, 43: 0xb6630ca6,
		}},
		{"603deb1015ca71be2b73aef0857d77811f352c073b6108d72d9810a30914dff4", map[int]uint32{
			0: 0x603deb10, 7: 0x0914dff4, 8: 0x9ba35411, 9: 0x8e6925af, 11: 0x2067fcde,
			12: 0xa8b09c1a, 13: 0x93d194cd, 16: 0xd59aecb8, 20: 0xb5a9328a,
			56: 0xfe4890d1, 57: 0xe6188d0b, 58: 0x046df344, 59: 0x706c631e,
		}},
	} {
		l, e := Words(unhex(t, one.key))
		if e != api.OK {
			t.Fatal(e)
		}
		for i, want := range one.want {
			if l[i] != want {
				t.Errorf("%s: word %d is %x, want %x", one.key, i, l[i], want)
			}
		}
	}
}

// P4.1: how many words there are, and what they are by the chapter's words.
func TestWords(t *testing.T) {
	for _, key := range keys() {
		l, e := Words(key)
		want := 44
		if len(key) == 32 {
			want = 60
		}
		if e != api.OK || len(l) != want {
			t.Fatalf("%d bytes: %d words, %v", len(key), len(l), e)
		}
		for i, w := range byWords(key) {
			if got := [4]byte{byte(l[i] >> 24), byte(l[i] >> 16), byte(l[i] >> 8), byte(l[i])}; got != w {
				t.Fatalf("%x: word %d is %x, want %x", key, i, got, w)
			}
		}
	}
}

// P4.1: blocks as they are printed in the standard of the cipher.
func TestBlocksPrinted(t *testing.T) {
	for _, one := range [][3]string{
		{"000102030405060708090a0b0c0d0e0f", "00112233445566778899aabbccddeeff", "69c4e0d86a7b0430d8cdb78070b4c55a"},
		{"2b7e151628aed2a6abf7158809cf4f3c", "3243f6a8885a308d313198a2e0370734", "3925841d02dc09fbdc118597196a0b32"},
		{"00000000000000000000000000000000", "00000000000000000000000000000000", "66e94bd4ef8a2c3b884cfa59ca342b2e"},
		{"000102030405060708090a0b0c0d0e0f101112131415161718191a1b1c1d1e1f", "00112233445566778899aabbccddeeff", "8ea2b7ca516745bfeafc49904b496089"},
		{"603deb1015ca71be2b73aef0857d77811f352c073b6108d72d9810a30914dff4", "6bc1bee22e409f96e93d7e117393172a", "f3eed1bdb5d2a03c064b5a7e3db181f8"},
	} {
		c := made(t, unhex(t, one[0]))
		plain, enciphered := [16]byte(unhex(t, one[1])), [16]byte(unhex(t, one[2]))
		if got := c.Encrypt(plain); got != enciphered {
			t.Errorf("%s: %s became %x, want %s", one[0], one[1], got, one[2])
		}
		if got := c.Decrypt(enciphered); got != plain {
			t.Errorf("%s: %s was %x, want %s", one[0], one[2], got, one[1])
		}
	}
}

// P4.1: both ways, under both sorts of key, as another program of the same cipher does it.
func TestBlocks(t *testing.T) {
	for _, key := range keys() {
		c := made(t, key)
		other, err := reference.NewCipher(key)
		if err != nil {
			t.Fatal(err)
		}
		for _, b := range blocks() {
			var want [16]byte
			other.Encrypt(want[:], b[:])
			if got := c.Encrypt(b); got != want {
				t.Fatalf("%x: %x became %x, want %x", key, b, got, want)
			}
			other.Decrypt(want[:], b[:])
			if got := c.Decrypt(b); got != want {
				t.Fatalf("%x: %x was %x, want %x", key, b, got, want)
			}
		}
	}
}

// P4.1: a cipher that is none, nil or plain, has no rounds, and noughts for every block.
func TestNoCipher(t *testing.T) {
	plain := Cipher{}
	for _, c := range []*Cipher{nil, {}, &plain, new(Cipher)} {
		if got := c.Rounds(); got != 0 {
			t.Errorf("%v has %d rounds", c, got)
		}
		for _, b := range blocks() {
			if got := c.Encrypt(b); got != [16]byte{} {
				t.Errorf("%x became %x", b, got)
			}
			if got := c.Decrypt(b); got != [16]byte{} {
				t.Errorf("%x was %x", b, got)
			}
		}
	}
}

// P4.1: neither a key that is overwritten, nor words that are, nor other calls change what a cipher does.
func TestCipherStays(t *testing.T) {
	for _, key := range keys() {
		kept := bytes.Clone(key)
		c := made(t, key)
		l, _ := Words(key)
		if !bytes.Equal(key, kept) {
			t.Fatal("the key was changed")
		}
		b := [16]byte{1, 2, 3}
		want := c.Encrypt(b)
		for i := range key {
			key[i] ^= 0x5a
		}
		for i := range l {
			l[i] = 0
		}
		made(t, key).Decrypt(b)
		c.Decrypt(want)
		if got := c.Encrypt(b); got != want {
			t.Fatalf("%x: %x, then %x", kept, want, got)
		}
		if again, _ := Words(kept); again[0] != uint32(kept[0])<<24|uint32(kept[1])<<16|uint32(kept[2])<<8|uint32(kept[3]) {
			t.Fatalf("%x: the first word is %x", kept, again[0])
		}
	}
}

// P4.2
func TestThereAndBack(t *testing.T) {
	for _, key := range keys() {
		c := made(t, key)
		for _, b := range blocks() {
			if got := c.Decrypt(c.Encrypt(b)); got != b {
				t.Fatalf("%x: %x, enciphered and deciphered, is %x", key, b, got)
			}
			if got := c.Encrypt(c.Decrypt(b)); got != b {
				t.Fatalf("%x: %x, deciphered and enciphered, is %x", key, b, got)
			}
		}
	}
}

func BenchmarkNew(b *testing.B) {
	key := make([]byte, 32)
	for b.Loop() {
		New(key)
	}
}

func BenchmarkEncrypt(b *testing.B) {
	c, _ := New(make([]byte, 32))
	var block [16]byte
	for b.Loop() {
		block = c.Encrypt(block)
	}
}

func BenchmarkDecrypt(b *testing.B) {
	c, _ := New(make([]byte, 32))
	var block [16]byte
	for b.Loop() {
		block = c.Decrypt(block)
	}
}
