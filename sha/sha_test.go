package sha

import (
	"bytes"
	reference "crypto/sha256"
	"encoding/binary"
	"encoding/hex"
	"math"
	"math/big"
	"math/rand"
	"strings"
	"testing"
)

// drawn is n bytes that are the same in each run.
func drawn(n int) []byte {
	b := make([]byte, n)
	rand.New(rand.NewSource(int64(n))).Read(b)
	return b
}

// primes is the first n primes.
func primes(n int) []int64 {
	var l []int64
	for c := int64(2); len(l) < n; c++ {
		if big.NewInt(c).ProbablyPrime(20) {
			l = append(l, c)
		}
	}
	return l
}

// behindPoint is the first 32 bits behind the point of a root of p: the greatest number whose power is at most p shifted by 32 bits so many times.
func behindPoint(p int64, power int64) uint32 {
	goal := new(big.Int).Lsh(big.NewInt(p), uint(32*power))
	low, high := new(big.Int), new(big.Int).Lsh(big.NewInt(p), 32)
	for low.Cmp(high) < 0 {
		middle := new(big.Int).Add(low, high)
		middle.Add(middle, big.NewInt(1)).Rsh(middle, 1)
		if new(big.Int).Exp(middle, big.NewInt(power), nil).Cmp(goal) <= 0 {
			low = middle
		} else {
			high = middle.Sub(middle, big.NewInt(1))
		}
	}
	return uint32(low.Uint64())
}

// P5.1: the 64 numbers, each out of its prime, and as they are printed at both ends.
func TestKinds(t *testing.T) {
	got := Kinds()
	for i, p := range primes(64) {
		if want := behindPoint(p, 3); got[i] != want {
			t.Errorf("Kinds()[%d] = %08x, not %08x", i, got[i], want)
		}
	}
	if got[0] != 0x428a2f98 || got[63] != 0xc67178f2 {
		t.Errorf("Kinds() from %08x to %08x", got[0], got[63])
	}
}

// P5.1: what is done to an answer of Kinds is seen in no later one, nor in a sum.
func TestKindsAreCopies(t *testing.T) {
	k := Kinds()
	before := k
	k[0], k[63] = 1, 2
	if Kinds() != before || Sum([]byte("abc")) != reference.Sum256([]byte("abc")) {
		t.Error("a written answer of Kinds is seen later")
	}
}

// P5.1: the eight numbers that a sum begins with are the square roots' bits.
func TestFirst(t *testing.T) {
	for i, p := range primes(8) {
		if want := behindPoint(p, 2); first[i] != want {
			t.Errorf("first[%d] = %08x, not %08x", i, first[i], want)
		}
	}
}

// P5.1: printed sums.
func TestSumPrinted(t *testing.T) {
	million := bytes.Repeat([]byte("a"), 1000000)
	for text, want := range map[string]string{
		"":    "e3b0c44298fc1c149afbf4c8996fb92427ae41e4649b934ca495991b7852b855",
		"abc": "ba7816bf8f01cfea414140de5dae2223b00361a396177a9cb410ff61f20015ad",
		"abcdbcdecdefdefgefghfghighijhijkijkljklmklmnlmnomnopnopq":                                                         "248d6a61d20638b8e5c026930c3e6039a33ce45964ff2167f6ecedd419db06c1",
		"abcdefghbcdefghicdefghijdefghijkefghijklfghijklmghijklmnhijklmnoijklmnopjklmnopqklmnopqrlmnopqrsmnopqrstnopqrstu": "cf5b16a778af8380036ce59e7b0492370b249b11e8f07a51afac45037afee9d1",
		string(million): "cdc76e5c9914fb9281a1c7e284d73e67f1809a48a497200e046d39ccc7112cd0",
	} {
		if got := Hex(Sum([]byte(text))); got != want {
			t.Errorf("of %d bytes: %s, not %s", len(text), got, want)
		}
	}
}

// P5.1: no parts, parts without bytes, and nil ones have the sum of no bytes.
func TestSumOfNothing(t *testing.T) {
	want := reference.Sum256(nil)
	for _, parts := range [][][]byte{nil, {}, {nil}, {{}}, {nil, {}, nil}} {
		if got := Sum(parts...); got != want {
			t.Errorf("Sum of %d parts without bytes: %x", len(parts), got)
		}
	}
	if Sum() != want {
		t.Error("Sum() is not the sum of no bytes")
	}
}

// P5.1: texts of every length over several pieces, of noughts, of all bits, and drawn.
func TestSumOfEveryLength(t *testing.T) {
	for n := range 400 {
		for _, text := range [][]byte{make([]byte, n), bytes.Repeat([]byte{0xff}, n), drawn(n)} {
			if got, want := Sum(text), reference.Sum256(text); got != want {
				t.Fatalf("of %d bytes: %x, not %x", n, got, want)
			}
		}
	}
	for _, n := range []int{1<<16 - 1, 1 << 16, 1<<20 + 9} {
		if text := drawn(n); Sum(text) != reference.Sum256(text) {
			t.Errorf("of %d bytes: wrong", n)
		}
	}
}

// P5.1: a text of more than 2^29 bytes, whose number of bits is beyond 32 bits.
func TestSumOfManyBits(t *testing.T) {
	if testing.Short() {
		t.Skip("takes seconds")
	}
	block := drawn(1 << 20)
	parts := make([][]byte, 1<<9+1)
	want := reference.New()
	for i := range parts {
		parts[i] = block
		want.Write(block)
	}
	if got := Sum(parts...); !bytes.Equal(got[:], want.Sum(nil)) {
		t.Errorf("of %d bytes: %x", len(parts)<<20, got)
	}
}

// P5.1: parts are left as they are, what lies beyond their ends included.
func TestSumChangesNothing(t *testing.T) {
	whole := drawn(300)
	before := bytes.Clone(whole)
	Sum(whole[:10], whole[10:100], whole[100:130])
	if !bytes.Equal(whole, before) {
		t.Error("Sum wrote into its parts")
	}
}

// P5.2: cut in two at every place, and in three at many.
func TestSumOfCutText(t *testing.T) {
	for _, n := range []int{1, 55, 56, 63, 64, 65, 119, 120, 127, 128, 129, 200} {
		text := drawn(n)
		want := reference.Sum256(text)
		for i := range n + 1 {
			if Sum(text[:i], text[i:]) != want {
				t.Fatalf("%d bytes, cut at %d: another sum", n, i)
			}
			for j := i; j <= n; j += 7 {
				if Sum(text[:i], text[i:j], nil, text[j:]) != want {
					t.Fatalf("%d bytes, cut at %d and %d: another sum", n, i, j)
				}
			}
		}
	}
}

// P5.2: cut into single bytes, and into drawn parts.
func TestSumOfManyParts(t *testing.T) {
	text := drawn(1000)
	want := reference.Sum256(text)
	var single [][]byte
	for i := range text {
		single = append(single, text[i:i+1])
	}
	if Sum(single...) != want {
		t.Error("cut into bytes: another sum")
	}
	draw := rand.New(rand.NewSource(5))
	for range 300 {
		var parts [][]byte
		for rest := text; len(rest) > 0; {
			n := min(draw.Intn(150), len(rest))
			parts = append(parts, rest[:n])
			rest = rest[n:]
		}
		if Sum(parts...) != want {
			t.Fatalf("cut into %d parts: another sum", len(parts))
		}
	}
}

// P5.2: the order of parts does make a difference, and so does each byte.
func TestSumTellsTextsApart(t *testing.T) {
	seen := map[[32]byte]int{}
	text := make([]byte, 130)
	for i := range text {
		text[i] = 1
		seen[Sum(text)]++
		seen[Sum(text[:i])]++
		text[i] = 0
	}
	if len(seen) != 260 {
		t.Errorf("260 unlike texts have %d sums", len(seen))
	}
	if Sum([]byte("a"), []byte("b")) == Sum([]byte("b"), []byte("a")) {
		t.Error("ab and ba have one sum")
	}
}

// padded is what must stand behind n bytes, by the chapter's words.
func padded(n int) []byte {
	b := []byte{0x80}
	for (n%64+len(b)+8)%64 != 0 {
		b = append(b, 0)
	}
	return binary.BigEndian.AppendUint64(b, uint64(n)*8)
}

// P5.1, P5.2: what stands behind numbers of bytes from 0 on, and around powers of two up to 2^40.
func TestPad(t *testing.T) {
	var numbers []int
	for n := range 1000 {
		numbers = append(numbers, n)
	}
	for shift := 10; shift <= 40; shift++ {
		for d := -70; d <= 70; d++ {
			if n := 1<<shift + d; n <= 1<<40 {
				numbers = append(numbers, n)
			}
		}
	}
	for _, n := range numbers {
		got := Pad(n)
		if !bytes.Equal(got, padded(n)) {
			t.Fatalf("Pad(%d) = %x, not %x", n, got, padded(n))
		}
		if (n+len(got))%64 != 0 || len(got) < 9 || len(got) > 72 {
			t.Fatalf("Pad(%d) has %d bytes", n, len(got))
		}
	}
}

// P5.1: the edges by hand.
func TestPadEdges(t *testing.T) {
	for n, size := range map[int]int{0: 64, 1: 63, 54: 10, 55: 9, 56: 72, 63: 65, 64: 64, 119: 9, 120: 72, 1 << 40: 64, 1<<40 - 1: 65, 1<<40 - 8: 72, 1<<40 - 9: 9} {
		if got := Pad(n); len(got) != size {
			t.Errorf("Pad(%d) has %d bytes, not %d", n, len(got), size)
		}
	}
	if got := hex.EncodeToString(Pad(1 << 40)); got != "80"+strings.Repeat("00", 55)+"0000080000000000" {
		t.Errorf("Pad(2^40) = %s", got)
	}
	if got := hex.EncodeToString(Pad(55)); got != "8000000000000001b8" {
		t.Errorf("Pad(55) = %s", got)
	}
}

// P5.1: nothing, of numbers outside.
func TestPadOutside(t *testing.T) {
	for _, n := range []int{-1, -2, -55, -64, 1<<40 + 1, 1<<40 + 64, 1 << 41, 1 << 61, math.MaxInt, math.MaxInt - 1, math.MinInt, math.MinInt + 1} {
		if got := Pad(n); len(got) != 0 {
			t.Errorf("Pad(%d) = %x", n, got)
		}
	}
}

// P5.1: two answers share no memory.
func TestPadIsNew(t *testing.T) {
	a, b := Pad(3), Pad(3)
	a[0] = 7
	if b[0] != 0x80 || Pad(3)[0] != 0x80 {
		t.Error("answers of Pad share memory")
	}
}

// P5.2: the sum is that of the pieces: a text with what stands behind it written out is worked through as it is.
func TestSumHasPad(t *testing.T) {
	for n := range 200 {
		text := drawn(n)
		r := running{now: first}
		r.add(append(bytes.Clone(text), Pad(n)...))
		if r.held != 0 || r.sum() != Sum(text) {
			t.Fatalf("of %d bytes: Sum does not end with Pad", n)
		}
	}
}

// P5.1: every byte's digits, at every place.
func TestHex(t *testing.T) {
	for place := range 32 {
		for b := range 256 {
			var s [32]byte
			s[place] = byte(b)
			s[31-place] ^= byte(b >> 1)
			if got := Hex(s); got != hex.EncodeToString(s[:]) {
				t.Fatalf("Hex(%x) = %s", s, got)
			}
		}
	}
	if Hex([32]byte{}) != strings.Repeat("0", 64) {
		t.Error("Hex of noughts")
	}
}

// The chapter's example.
func TestExample(t *testing.T) {
	if got := Hex(Sum([]byte("abc"))); !strings.HasPrefix(got, "ba7816bf") {
		t.Errorf("of abc: %s", got)
	}
}

func BenchmarkSum(b *testing.B) {
	text := drawn(1 << 16)
	b.SetBytes(1 << 16)
	for b.Loop() {
		Sum(text)
	}
}

func BenchmarkSumOfLittle(b *testing.B) {
	text := drawn(40)
	for b.Loop() {
		Sum(text)
	}
}
