package word

import (
	"bytes"
	"math"
	"testing"

	"chatelaine/api"
)

// most is the greatest number of so many bytes, from the chapter's words, not from the code.
var most = map[int]int{1: 0xff, 2: 0xffff, 3: 0xffffff, 4: 0xffffffff, 5: 0xffffffffff, 6: 0xffffffffffff, 7: 0xffffffffffffff, 8: 1 << 62}

func TestPutNumbers(t *testing.T) { // P1.1
	for _, c := range []struct {
		n, size int
		want    []byte
	}{
		{258, 3, []byte{0, 1, 2}},
		{0, 1, []byte{0}},
		{0, 8, []byte{0, 0, 0, 0, 0, 0, 0, 0}},
		{255, 1, []byte{255}},
		{256, 2, []byte{1, 0}},
		{0x123456, 3, []byte{0x12, 0x34, 0x56}},
		{0x12345678, 4, []byte{0x12, 0x34, 0x56, 0x78}},
		{0x123456789a, 5, []byte{0x12, 0x34, 0x56, 0x78, 0x9a}},
		{0x123456789abc, 6, []byte{0x12, 0x34, 0x56, 0x78, 0x9a, 0xbc}},
		{0x123456789abcde, 7, []byte{0x12, 0x34, 0x56, 0x78, 0x9a, 0xbc, 0xde}},
		{0x123456789abcdef0, 8, []byte{0x12, 0x34, 0x56, 0x78, 0x9a, 0xbc, 0xde, 0xf0}},
		{1<<62 - 1, 8, []byte{63, 255, 255, 255, 255, 255, 255, 255}},
		{1 << 62, 8, []byte{64, 0, 0, 0, 0, 0, 0, 0}},
	} {
		if b, e := Put(c.n, c.size); e != api.OK || !bytes.Equal(b, c.want) {
			t.Errorf("Put(%d, %d) = %x, %d; want %x", c.n, c.size, b, e, c.want)
		}
	}
}

func TestPutJustFits(t *testing.T) { // P1.1
	for size := 1; size <= 8; size++ {
		n := most[size]
		if b, e := Put(n, size); e != api.OK || len(b) != size {
			t.Errorf("Put(%d, %d) = %x, %d; it fits", n, size, b, e)
		}
		wantPutErrArg(t, n+1, size)
		wantPutErrArg(t, -1, size)
		wantPutErrArg(t, math.MinInt, size)
		if size < 8 {
			wantPutErrArg(t, 1<<62, size)
		}
		wantPutErrArg(t, math.MaxInt, size)
	}
}

func TestPutWrongSizes(t *testing.T) { // P1.1
	for _, size := range []int{0, 9, 10, 64, -1, -8, math.MinInt, math.MaxInt} {
		for _, n := range []int{0, 1, -1, 255, 1 << 62, math.MaxInt, math.MinInt} {
			wantPutErrArg(t, n, size)
		}
	}
}

func wantPutErrArg(t *testing.T, n, size int) {
	t.Helper()
	if b, e := Put(n, size); e != api.ErrArg || len(b) != 0 {
		t.Errorf("Put(%d, %d) = %x, %d; want nothing, ErrArg", n, size, b, e)
	}
}

func TestGetNumbers(t *testing.T) { // P1.1
	for _, c := range []struct {
		b    []byte
		want int
	}{
		{[]byte{0}, 0},
		{[]byte{255}, 255},
		{[]byte{1, 0}, 256},
		{[]byte{0, 1, 2}, 258},
		{[]byte{0x12, 0x34, 0x56, 0x78, 0x9a}, 0x123456789a},
		{[]byte{255, 255, 255, 255, 255, 255, 255}, 1<<56 - 1},
		{[]byte{0, 0, 0, 0, 0, 0, 0, 0}, 0},
		{[]byte{0x12, 0x34, 0x56, 0x78, 0x9a, 0xbc, 0xde, 0xf0}, 0x123456789abcdef0},
		{[]byte{63, 255, 255, 255, 255, 255, 255, 255}, 1<<62 - 1},
		{[]byte{64, 0, 0, 0, 0, 0, 0, 0}, 1 << 62},
	} {
		if n, e := Get(c.b); e != api.OK || n != c.want {
			t.Errorf("Get(%x) = %d, %d; want %d", c.b, n, e, c.want)
		}
	}
}

func TestGetErrors(t *testing.T) { // P1.1
	for _, c := range []struct {
		b    []byte
		want api.Errno
	}{
		{nil, api.ErrEnd},
		{[]byte{}, api.ErrEnd},
		{make([]byte, 9), api.ErrExtra},
		{[]byte{255, 255, 255, 255, 255, 255, 255, 255, 255}, api.ErrExtra},
		{make([]byte, 1000), api.ErrExtra},
		{[]byte{64, 0, 0, 0, 0, 0, 0, 1}, api.ErrForm},
		{[]byte{65, 0, 0, 0, 0, 0, 0, 0}, api.ErrForm},
		{[]byte{127, 255, 255, 255, 255, 255, 255, 255}, api.ErrForm},
		{[]byte{128, 0, 0, 0, 0, 0, 0, 0}, api.ErrForm},
		{[]byte{255, 255, 255, 255, 255, 255, 255, 255}, api.ErrForm},
	} {
		if n, e := Get(c.b); e != c.want || n != 0 {
			t.Errorf("Get(%x) = %d, %d; want 0, %d", c.b, n, e, c.want)
		}
	}
}

func TestPut32AndPut64(t *testing.T) { // P1.2
	for x, want := range map[uint32][]byte{
		0:          {0, 0, 0, 0},
		1:          {0, 0, 0, 1},
		0x12345678: {0x12, 0x34, 0x56, 0x78},
		1 << 31:    {128, 0, 0, 0},
		1<<32 - 1:  {255, 255, 255, 255},
	} {
		if b := Put32(x); !bytes.Equal(b, want) {
			t.Errorf("Put32(%x) = %x; want %x", x, b, want)
		}
		if y, ok := Get32(want); !ok || y != x {
			t.Errorf("Get32(%x) = %x, %t; want %x", want, y, ok, x)
		}
	}
	for x, want := range map[uint64][]byte{
		0:                  {0, 0, 0, 0, 0, 0, 0, 0},
		1:                  {0, 0, 0, 0, 0, 0, 0, 1},
		0x0102030405060708: {1, 2, 3, 4, 5, 6, 7, 8},
		1<<62 + 1:          {64, 0, 0, 0, 0, 0, 0, 1},
		1 << 63:            {128, 0, 0, 0, 0, 0, 0, 0},
		1<<64 - 1:          {255, 255, 255, 255, 255, 255, 255, 255},
	} {
		if b := Put64(x); !bytes.Equal(b, want) {
			t.Errorf("Put64(%x) = %x; want %x", x, b, want)
		}
		if y, ok := Get64(want); !ok || y != x {
			t.Errorf("Get64(%x) = %x, %t; want %x", want, y, ok, x)
		}
	}
}

func TestGet32AndGet64OfOtherSizes(t *testing.T) { // P1.2
	for _, size := range []int{0, 1, 2, 3, 4, 5, 6, 7, 8, 9, 10, 16, 100} {
		b := bytes.Repeat([]byte{1}, size)
		if x, ok := Get32(b); size != 4 && (ok || x != 0) {
			t.Errorf("Get32 of %d bytes = %x, %t; want 0, false", size, x, ok)
		}
		if x, ok := Get64(b); size != 8 && (ok || x != 0) {
			t.Errorf("Get64 of %d bytes = %x, %t; want 0, false", size, x, ok)
		}
	}
	if x, ok := Get32(nil); ok || x != 0 {
		t.Errorf("Get32(nil) = %x, %t", x, ok)
	}
	if x, ok := Get64(nil); ok || x != 0 {
		t.Errorf("Get64(nil) = %x, %t", x, ok)
	}
}

func TestCut(t *testing.T) { // P1.2
	b := []byte{1, 2, 3}
	for n := 0; n <= len(b); n++ {
		head, rest, ok := Cut(b, n)
		if !ok || !bytes.Equal(head, b[:n]) || !bytes.Equal(rest, b[n:]) {
			t.Errorf("Cut(%x, %d) = %x, %x, %t", b, n, head, rest, ok)
		}
	}
	for _, n := range []int{4, 5, 1000, -1, -3, math.MaxInt, math.MinInt} {
		if head, rest, ok := Cut(b, n); ok || len(head) != 0 || len(rest) != 0 {
			t.Errorf("Cut(%x, %d) = %x, %x, %t; want nothing, false", b, n, head, rest, ok)
		}
	}
	for _, none := range [][]byte{nil, {}} {
		if head, rest, ok := Cut(none, 0); !ok || len(head) != 0 || len(rest) != 0 {
			t.Errorf("Cut of nothing at 0 = %x, %x, %t; want nothing, true", head, rest, ok)
		}
		if _, _, ok := Cut(none, 1); ok {
			t.Error("Cut of nothing at 1 is true")
		}
		if _, _, ok := Cut(none, -1); ok {
			t.Error("Cut of nothing at -1 is true")
		}
	}
}

// What is behind a slice's end, up to its capacity, is not among its bytes.
func TestCutPastTheEndWithCapacity(t *testing.T) { // P1.2
	b := []byte{1, 2, 3, 4}[:2]
	if head, rest, ok := Cut(b, 3); ok || len(head) != 0 || len(rest) != 0 {
		t.Errorf("Cut = %x, %x, %t; want nothing, false", head, rest, ok)
	}
}

func TestCutGivesNewMemory(t *testing.T) {
	b := []byte{1, 2, 3, 4}
	head, rest, _ := Cut(b, 2)
	head[0], rest[0] = 9, 9
	head = append(head, 8, 8)
	if !bytes.Equal(b, []byte{1, 2, 3, 4}) || !bytes.Equal(rest, []byte{9, 4}) || len(head) != 4 {
		t.Errorf("writes into head and rest reached b (%x) or rest (%x)", b, rest)
	}
}

func TestNothingHandedInIsChanged(t *testing.T) {
	b := []byte{1, 2, 3, 4, 5, 6, 7, 8}
	_, _ = Get(b)
	_, _ = Get32(b[:4])
	_, _ = Get64(b)
	_, _, _ = Cut(b, 3)
	if !bytes.Equal(b, []byte{1, 2, 3, 4, 5, 6, 7, 8}) {
		t.Errorf("the bytes are now %x", b)
	}
}

func TestRotate(t *testing.T) { // P1.2
	for _, c := range []struct {
		x    uint32
		n    int
		want uint32
	}{
		{0x12345678, 8, 0x78123456},
		{0x12345678, -8, 0x34567812},
		{0x12345678, 4, 0x81234567},
		{0x12345678, 16, 0x56781234},
		{1, 1, 0x80000000},
		{1, -1, 2},
		{0x80000000, -1, 1},
		{5, 0, 5},
		{5, 32, 5},
		{5, -32, 5},
		{5, 64, 5},
		{1, 31, 2},
		{1, -31, 0x80000000},
		{1, 33, 0x80000000},
		{1, -33, 2},
		{0, 7, 0},
		{0xffffffff, 13, 0xffffffff},
		{3, math.MinInt, 3},           // a multiple of 32
		{1, math.MaxInt, 2},           // 31 modulo 32
		{1, math.MinInt + 1, 1 << 31}, // 1 modulo 32
	} {
		if got := Rotate(c.x, c.n); got != c.want {
			t.Errorf("Rotate(%#x, %d) = %#x; want %#x", c.x, c.n, got, c.want)
		}
	}
}

// Every bit is followed to its place by itself, for all turns around 0.
func TestRotateBitByBit(t *testing.T) { // P1.2
	for n := -100; n <= 100; n++ {
		for bit := range 32 {
			place := ((bit-n)%32 + 32) % 32
			if got := Rotate(1<<bit, n); got != 1<<place {
				t.Fatalf("Rotate(1<<%d, %d) = %#x; want the bit %d", bit, n, got, place)
			}
		}
	}
}

func TestWhatIsPutIsGot(t *testing.T) { // P1.3
	for size := 1; size <= 8; size++ {
		for _, n := range samples(most[size]) {
			b, e := Put(n, size)
			if e != api.OK || len(b) != size {
				t.Fatalf("Put(%d, %d) = %x, %d", n, size, b, e)
			}
			if got, e := Get(b); e != api.OK || got != n {
				t.Fatalf("Get(Put(%d, %d)) = %d, %d", n, size, got, e)
			}
		}
	}
	for x := uint64(1); x != 0; x <<= 1 {
		for _, y := range []uint64{x, x - 1, x | 1, ^x, x * 0x9e3779b97f4a7c15} {
			if got, ok := Get64(Put64(y)); !ok || got != y {
				t.Fatalf("Get64(Put64(%x)) = %x, %t", y, got, ok)
			}
			if got, ok := Get32(Put32(uint32(y))); !ok || got != uint32(y) {
				t.Fatalf("Get32(Put32(%x)) = %x, %t", uint32(y), got, ok)
			}
		}
	}
}

// samples is numbers from 0 to top: its own neighbours, those of each power of two, and some between.
func samples(top int) []int {
	out := []int{0, top, top - 1}
	for bit := range 62 {
		for _, n := range []int{1<<bit - 1, 1 << bit, 1<<bit + 1, 1<<bit | 0x1234567>>3} {
			if n <= top {
				out = append(out, n)
			}
		}
	}
	return out
}

func TestATurnAndTheTurnBackAreNone(t *testing.T) { // P1.3
	turns := []int{math.MaxInt, math.MinInt + 1, 1 << 40, 1<<40 + 7}
	for n := -70; n <= 70; n++ {
		turns = append(turns, n)
	}
	for _, n := range turns {
		for _, x := range []uint32{0, 1, 5, 0x12345678, 1 << 31, 0xdeadbeef, 0xffffffff} {
			if got := Rotate(Rotate(x, n), -n); got != x {
				t.Fatalf("%#x turned by %d and back is %#x", x, n, got)
			}
		}
	}
}
