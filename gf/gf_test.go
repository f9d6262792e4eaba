package gf

import (
	"math"
	"math/big"
	"testing"
)

// slowTimes is the product as the chapter's words have it: the whole product of the polynomials, then what x^8 + x^4 + x^3 + x + 1 leaves of it.
func slowTimes(a, b byte) byte {
	whole := 0
	for i := range 8 {
		for j := range 8 {
			if a>>i&1 == 1 && b>>j&1 == 1 {
				whole ^= 1 << (i + j)
			}
		}
	}
	for bit := 14; bit >= 8; bit-- {
		if whole>>bit&1 == 1 {
			whole ^= 0x11b << (bit - 8)
		}
	}
	return byte(whole)
}

// slowDouble is the doubled block by great numbers.
func slowDouble(b [16]byte) [16]byte {
	n := new(big.Int)
	for i := 15; i >= 0; i-- {
		n.Lsh(n, 8).Or(n, big.NewInt(int64(b[i])))
	}
	high := n.Bit(127)
	n.Lsh(n, 1).Mod(n, new(big.Int).Lsh(big.NewInt(1), 128))
	var out [16]byte
	for i := range out {
		out[i] = byte(new(big.Int).Rsh(n, uint(8*i)).Uint64())
	}
	if high == 1 {
		out[0] ^= 0x87
	}
	return out
}

// halved undoes a doubling: the first byte's lowest bit tells whether the highest one was lost, as 87 has that bit and a double else does not.
func halved(b [16]byte) [16]byte {
	lost := b[0] & 1
	if lost == 1 {
		b[0] ^= 0x87
	}
	var out [16]byte
	for i := range out {
		above := lost
		if i < 15 {
			above = b[i+1] & 1
		}
		out[i] = b[i]>>1 | above<<7
	}
	return out
}

func sum(a, b [16]byte) [16]byte {
	for i, c := range b {
		a[i] ^= c
	}
	return a
}

// bit is the block whose only bit is the n-th, the lowest one of the first byte being the 0-th.
func bit(n int) [16]byte {
	var b [16]byte
	b[n/8] = 1 << (n % 8)
	return b
}

// blocks is many blocks: noughts, ones, each bit alone, all bits but one, and mixed ones.
func blocks() [][16]byte {
	var ones [16]byte
	for i := range ones {
		ones[i] = 0xff
	}
	out := [][16]byte{{}, ones, {0x87}, {1, 2, 3, 4, 5, 6, 7, 8, 9, 10, 11, 12, 13, 14, 15, 16}}
	for n := range 128 {
		out = append(out, bit(n), sum(ones, bit(n)))
	}
	seed := uint64(1)
	for range 200 {
		var b [16]byte
		for i := range b {
			seed = seed*6364136223846793005 + 1442695040888963407
			b[i] = byte(seed >> 56)
		}
		out = append(out, b)
	}
	return out
}

func TestTimesNumbers(t *testing.T) { // P2.1
	for _, c := range []struct{ a, b, want byte }{
		{2, 128, 0x1b},
		{128, 2, 0x1b},
		{0x57, 0x83, 0xc1},
		{0x57, 0x13, 0xfe},
		{0x53, 0xca, 1},
		{0, 0, 0},
		{0, 255, 0},
		{255, 0, 0},
		{1, 255, 255},
		{255, 1, 255},
		{255, 255, 0x13},
		{3, 7, 9},
	} {
		if got := Times(c.a, c.b); got != c.want {
			t.Errorf("Times(%x, %x) = %x; want %x", c.a, c.b, got, c.want)
		}
	}
}

func TestTimesOfAll(t *testing.T) { // P2.1
	for a := range 256 {
		for b := range 256 {
			want := slowTimes(byte(a), byte(b))
			if got := Times(byte(a), byte(b)); got != want {
				t.Fatalf("Times(%x, %x) = %x; want %x", a, b, got, want)
			}
		}
	}
}

func TestInverseOfAll(t *testing.T) { // P2.1
	if got := Inverse(0); got != 0 {
		t.Errorf("Inverse(0) = %x; want 0", got)
	}
	for a := 1; a < 256; a++ {
		if got := Inverse(byte(a)); slowTimes(byte(a), got) != 1 {
			t.Errorf("Inverse(%x) = %x, whose product with it is %x", a, got, slowTimes(byte(a), got))
		}
	}
	if Inverse(1) != 1 || Inverse(0x53) != 0xca || Inverse(0xca) != 0x53 || Inverse(2) != 0x8d {
		t.Error("Inverse of 1, 53, ca or 2")
	}
}

func TestPowerStepByStep(t *testing.T) { // P2.1
	for a := range 256 {
		a := byte(a)
		up, down := byte(1), byte(1)
		for n := 0; n <= 600; n++ {
			if got := Power(a, n); got != up {
				t.Fatalf("Power(%x, %d) = %x; want %x", a, n, got, up)
			}
			if got := Power(a, -n); got != down {
				t.Fatalf("Power(%x, %d) = %x; want %x", a, -n, got, down)
			}
			up, down = slowTimes(up, a), slowTimes(down, Inverse(a))
		}
	}
}

func TestPowerOfNought(t *testing.T) { // P2.1
	if got := Power(0, 0); got != 1 {
		t.Errorf("Power(0, 0) = %x; want 1", got)
	}
	for _, n := range []int{1, 2, 254, 255, 256, 510, 1 << 40, math.MaxInt, -1, -254, -255, -256, -510, math.MinInt, math.MinInt + 1} {
		if got := Power(0, n); got != 0 {
			t.Errorf("Power(0, %d) = %x; want 0", n, got)
		}
	}
}

// bigPower squares its way through a great number's bits, so that no exponent is too great for it, nor taken modulo anything.
func bigPower(a byte, n *big.Int) byte {
	power := byte(1)
	for i := n.BitLen() - 1; i >= 0; i-- {
		power = slowTimes(power, power)
		if n.Bit(i) == 1 {
			power = slowTimes(power, a)
		}
	}
	return power
}

func TestPowerAtTheEndsOfInt(t *testing.T) { // P2.1
	for _, n := range []int{math.MaxInt, math.MaxInt - 1, math.MaxInt - 254, math.MaxInt / 2, 1 << 62, 1 << 32, 1 << 31, 1<<31 - 1,
		math.MinInt, math.MinInt + 1, math.MinInt + 127, math.MinInt + 255, math.MinInt / 2, -1 << 32, -1 << 31} {
		for a := range 256 {
			base, exponent := byte(a), big.NewInt(int64(n))
			if n < 0 {
				base, exponent = Inverse(base), exponent.Neg(exponent)
			}
			want := bigPower(base, exponent)
			if got := Power(byte(a), n); got != want {
				t.Fatalf("Power(%x, %d) = %x; want %x", a, n, got, want)
			}
		}
	}
}

func TestDoubleNumbers(t *testing.T) { // P2.2
	for _, c := range []struct{ b, want [16]byte }{
		{[16]byte{}, [16]byte{}},
		{[16]byte{1}, [16]byte{2}},
		{[16]byte{0x80}, [16]byte{0, 1}},
		{[16]byte{0xff}, [16]byte{0xfe, 1}},
		{[16]byte{14: 0x80}, [16]byte{15: 1}},
		{[16]byte{15: 0x40}, [16]byte{15: 0x80}},
		{[16]byte{15: 0x80}, [16]byte{0x87}},
		{[16]byte{1, 15: 0x80}, [16]byte{0x85}},
		{[16]byte{0x80, 15: 0xc0}, [16]byte{0x87, 1, 15: 0x80}},
	} {
		if got := Double(c.b); got != c.want {
			t.Errorf("Double(%x) = %x; want %x", c.b, got, c.want)
		}
	}
}

func TestDoubleOfMany(t *testing.T) { // P2.2
	for _, b := range blocks() {
		if got, want := Double(b), slowDouble(b); got != want {
			t.Fatalf("Double(%x) = %x; want %x", b, got, want)
		}
	}
}

func TestDoubledTimeByTime(t *testing.T) { // P2.2
	for _, b := range blocks()[:8] {
		want := b
		for n := 0; n <= 300; n++ {
			if got := Doubled(b, n); got != want {
				t.Fatalf("Doubled(%x, %d) = %x; want %x", b, n, got, want)
			}
			want = slowDouble(want)
		}
	}
}

func TestDoubledAtItsEnds(t *testing.T) { // P2.2
	for _, b := range [][16]byte{{1}, {15: 0x80}, {1, 2, 3, 4, 5, 6, 7, 8, 9, 10, 11, 12, 13, 14, 15, 0xff}} {
		last := b
		for range 1<<16 - 1 {
			last = slowDouble(last)
		}
		most := slowDouble(last)
		if got := Doubled(b, 0); got != b {
			t.Errorf("Doubled(%x, 0) = %x", b, got)
		}
		if got := Doubled(b, 1<<16-1); got != last {
			t.Errorf("Doubled(%x, 2^16 - 1) = %x; want %x", b, got, last)
		}
		if got := Doubled(b, 1<<16); got != most || got == b {
			t.Errorf("Doubled(%x, 2^16) = %x; want %x", b, got, most)
		}
		for _, n := range []int{1<<16 + 1, 1<<16 + 2, 1 << 17, 1<<32 + 1, math.MaxInt, -1, -2, -1 << 16, -1<<32 + 1, math.MinInt, math.MinInt + 1} {
			if got := Doubled(b, n); got != b {
				t.Errorf("Doubled(%x, %d) = %x; want it as it was", b, n, got)
			}
		}
	}
}

func TestBlocksHandedInStay(t *testing.T) {
	b := [16]byte{1, 15: 0x80}
	Double(b)
	Doubled(b, 5)
	if b != [16]byte{1, 15: 0x80} {
		t.Errorf("the block is now %x", b)
	}
}

func TestProductsDoNotHangOnTheirOrder(t *testing.T) { // P2.3
	for a := range 256 {
		for b := range a {
			if Times(byte(a), byte(b)) != Times(byte(b), byte(a)) {
				t.Fatalf("%x and %x", a, b)
			}
		}
	}
}

func TestProductsGoWithSums(t *testing.T) { // P2.3
	for a := range 256 {
		a := byte(a)
		var products [256]byte
		for b := range 256 {
			products[b] = Times(a, byte(b))
		}
		for b := range 256 {
			for c := range b {
				if Times(a, byte(b^c)) != products[b]^products[c] {
					t.Fatalf("%x times the sum of %x and %x", a, b, c)
				}
			}
		}
	}
}

func TestDoublingGoesWithSums(t *testing.T) { // P2.3
	all := blocks()
	for _, a := range all {
		for _, b := range all {
			if Double(sum(a, b)) != sum(Double(a), Double(b)) {
				t.Fatalf("the sum of %x and %x", a, b)
			}
		}
	}
	for _, n := range []int{2, 7, 128, 129, 1 << 10} {
		for _, a := range all[:20] {
			for _, b := range all[240:260] {
				if Doubled(sum(a, b), n) != sum(Doubled(a, n), Doubled(b, n)) {
					t.Fatalf("the sum of %x and %x, doubled %d times", a, b, n)
				}
			}
		}
	}
}

func TestNoTwoBlocksHaveOneDouble(t *testing.T) { // P2.3
	from := map[[16]byte][16]byte{}
	for _, b := range blocks() {
		d := Double(b)
		if a, met := from[d]; met && a != b {
			t.Fatalf("%x and %x have the double %x", a, b, d)
		}
		from[d] = b
		if halved(d) != b {
			t.Fatalf("%x doubled and halved is %x", b, halved(d))
		}
	}
}

// As doubling goes with sums, two blocks with one double would have a sum whose double is noughts: there is none if the doubles of the 128 bits are independent.
func TestDoublesOfBitsAreIndependent(t *testing.T) { // P2.3
	var leads [128][16]byte
	for n := range 128 {
		d := Double(bit(n))
		for lead := 127; lead >= 0 && d != ([16]byte{}); lead-- {
			if d[lead/8]>>(lead%8)&1 == 0 {
				continue
			}
			if leads[lead] == ([16]byte{}) {
				leads[lead] = d
				break
			}
			d = sum(d, leads[lead])
		}
		if d == ([16]byte{}) {
			t.Fatalf("the double of the bit %d is a sum of those ahead of it", n)
		}
	}
}
