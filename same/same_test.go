package same

import (
	"bytes"
	"go/ast"
	"go/parser"
	"go/token"
	"math/big"
	"math/rand"
	"testing"

	"chatelaine/api"
)

// drawn is n bytes that are the same in each run.
func drawn(n int) []byte {
	b := make([]byte, n)
	rand.New(rand.NewSource(int64(n))).Read(b)
	return b
}

// lengths is numbers of bytes: none, one, few, many, and those around 256.
func lengths() []int { return []int{0, 1, 2, 3, 7, 8, 9, 31, 32, 33, 64, 255, 256, 257, 1000} }

// texts is texts of n bytes: noughts, all bits, and drawn ones.
func texts(n int) [][]byte {
	return [][]byte{make([]byte, n), bytes.Repeat([]byte{0xff}, n), drawn(n)}
}

// with is a copy of b whose byte at i is c.
func with(b []byte, i int, c byte) []byte {
	b = bytes.Clone(b)
	b[i] = c
	return b
}

// edges is bytes where signs and bits turn.
func edges() []byte { return []byte{0, 1, 2, 0x7e, 0x7f, 0x80, 0x81, 0xfe, 0xff} }

// pairs is pairs of one length: all of one byte; all of three bytes at the edges; drawn ones.
func pairs() [][2][]byte {
	var l [][2][]byte
	for a := range 256 {
		for b := range 256 {
			l = append(l, [2][]byte{{byte(a)}, {byte(b)}})
		}
	}
	var numbers [][]byte
	for _, x := range edges() {
		for _, y := range edges() {
			for _, z := range edges() {
				numbers = append(numbers, []byte{x, y, z})
			}
		}
	}
	for _, a := range numbers {
		for _, b := range numbers {
			l = append(l, [2][]byte{a, b})
		}
	}
	draw := rand.New(rand.NewSource(7))
	for range 2000 {
		a, b := make([]byte, draw.Intn(40)), []byte(nil)
		draw.Read(a)
		b = bytes.Clone(a)
		draw.Read(b[draw.Intn(len(b)+1):])
		l = append(l, [2][]byte{a, b})
	}
	return append(l, [2][]byte{nil, nil}, [2][]byte{nil, {}}, [2][]byte{{}, nil}, [2][]byte{{}, {}})
}

// P7.1: bytes that are the same, in one memory and in two.
func TestBytesAlike(t *testing.T) {
	for _, n := range lengths() {
		for _, b := range texts(n) {
			if !Bytes(b, b) || !Bytes(b, bytes.Clone(b)) {
				t.Errorf("%d bytes are not the same as themselves", n)
			}
		}
	}
	if !Bytes(nil, nil) || !Bytes(nil, []byte{}) || !Bytes([]byte{}, nil) || !Bytes([]byte{}, []byte{}) {
		t.Error("no bytes are not the same as no bytes")
	}
}

// P7.1: one byte that differs, at each place, by each bit.
func TestBytesOneDiffers(t *testing.T) {
	for _, n := range lengths() {
		for _, b := range texts(n) {
			for i, c := range b {
				for bit := range 8 {
					other := with(b, i, c^1<<bit)
					if Bytes(b, other) || Bytes(other, b) {
						t.Fatalf("%d bytes with bit %d another at %d: the same", n, bit, i)
					}
				}
			}
		}
	}
}

// P7.1: each byte against each.
func TestBytesOfEachByte(t *testing.T) {
	for a := range 256 {
		for b := range 256 {
			if Bytes([]byte{byte(a)}, []byte{byte(b)}) != (a == b) {
				t.Errorf("%02x and %02x", a, b)
			}
			if Bytes([]byte{9, byte(a), 9}, []byte{9, byte(b), 9}) != (a == b) {
				t.Errorf("%02x and %02x in the midst", a, b)
			}
		}
	}
}

// P7.1: what differs at several places is not made up for by any other place, however many there are.
func TestBytesManyDiffer(t *testing.T) {
	for n := 2; n <= 600; n++ {
		noughts := make([]byte, n)
		for _, c := range []byte{1, 0x80, 0xff} {
			if other := bytes.Repeat([]byte{c}, n); Bytes(noughts, other) || Bytes(other, noughts) {
				t.Fatalf("%d times %02x, and noughts: the same", n, c)
			}
		}
		turned := with(with(noughts, 0, 1), n-1, 0xff)
		back := with(with(noughts, 0, 0xff), n-1, 1)
		if Bytes(turned, back) {
			t.Fatalf("%d bytes in another order: the same", n)
		}
	}
}

// P7.1: unlike numbers of bytes are never the same, where one is the other's begin, too.
func TestBytesOfUnlikeNumbers(t *testing.T) {
	for n := range 70 {
		for m := range 70 {
			for i, a := range texts(n) {
				b := texts(m)[i]
				if Bytes(a, b) != (n == m) {
					t.Fatalf("%d bytes and %d", n, m)
				}
			}
			if whole := drawn(70); Bytes(whole[:n], whole[:m]) != (n == m) || Bytes(whole[70-n:], whole[70-m:]) != (n == m) {
				t.Fatalf("the first %d bytes and the first %d, or the last ones", n, m)
			}
		}
	}
	for _, n := range []int{256, 512, 1 << 16} {
		if Bytes(make([]byte, n), nil) || Bytes(nil, make([]byte, n)) || Bytes(make([]byte, n+5), make([]byte, 5)) {
			t.Errorf("%d noughts too many: the same", n)
		}
	}
}

// P7.1: noughts alone, and one other byte at each place.
func TestZero(t *testing.T) {
	if !Zero(nil) || !Zero([]byte{}) {
		t.Error("no bytes are not all noughts")
	}
	for _, n := range lengths() {
		b := make([]byte, n)
		if !Zero(b) {
			t.Errorf("%d noughts are not all noughts", n)
		}
		for i := range b {
			for bit := range 8 {
				b[i] = 1 << bit
				if Zero(b) {
					t.Fatalf("%d bytes with %02x at %d: all noughts", n, b[i], i)
				}
			}
			b[i] = 0
		}
	}
	for c := range 256 {
		if Zero([]byte{byte(c)}) != (c == 0) || Zero([]byte{0, byte(c), 0}) != (c == 0) {
			t.Errorf("%02x alone, or between noughts", c)
		}
	}
}

// P7.1: many bytes that are not noughts don't make up for each other.
func TestZeroOfMany(t *testing.T) {
	for n := 1; n <= 600; n++ {
		for _, c := range edges() {
			if Zero(bytes.Repeat([]byte{c}, n)) != (c == 0) {
				t.Fatalf("%d times %02x", n, c)
			}
		}
	}
}

// P7.1: pairs are looked at, all or none, whatever they are.
func TestSteps(t *testing.T) {
	for n := range 70 {
		for m := range 70 {
			want := 0
			if n == m {
				want = n
			}
			for _, a := range texts(n) {
				for _, b := range texts(m) {
					if got := Steps(a, b); got != want {
						t.Fatalf("of %d bytes and %d: %d steps", n, m, got)
					}
				}
			}
		}
	}
	if Steps(nil, []byte{}) != 0 || Steps(nil, []byte{1}) != 0 || Steps([]byte{1}, nil) != 0 {
		t.Error("steps of no bytes")
	}
}

// P7.1: where the first byte that differs stands makes no difference.
func TestStepsWhereverItDiffers(t *testing.T) {
	for _, n := range lengths() {
		for _, b := range texts(n) {
			for i, c := range b {
				if got := Steps(b, with(b, i, ^c)); got != n {
					t.Fatalf("of %d bytes that differ at %d: %d steps", n, i, got)
				}
			}
			if got := Steps(b, b); got != n {
				t.Fatalf("of %d bytes and themselves: %d steps", n, got)
			}
		}
	}
}

// P7.2: both ways, of no bytes, of one and of many.
func TestChoose(t *testing.T) {
	for _, n := range lengths() {
		for _, a := range texts(n) {
			for _, b := range texts(n) {
				if got, e := Choose(true, a, b); e != api.OK || !bytes.Equal(got, a) {
					t.Errorf("the first of two of %d bytes: %x, %d", n, got, e)
				}
				if got, e := Choose(false, a, b); e != api.OK || !bytes.Equal(got, b) {
					t.Errorf("the second of two of %d bytes: %x, %d", n, got, e)
				}
			}
		}
	}
}

// P7.2: each byte with each, both ways; nil and empty.
func TestChooseOfEachPair(t *testing.T) {
	for _, p := range pairs() {
		for _, first := range []bool{true, false} {
			want := p[1]
			if first {
				want = p[0]
			}
			if got, e := Choose(first, p[0], p[1]); e != api.OK || !bytes.Equal(got, want) {
				t.Fatalf("Choose(%v, %x, %x): %x, %d", first, p[0], p[1], got, e)
			}
		}
	}
}

// P7.2: the answer is a copy: neither of those handed in is seen in it later, nor it in them.
func TestChooseIsCopy(t *testing.T) {
	for _, first := range []bool{true, false} {
		a, b := []byte("first text"), []byte("other text")
		got, _ := Choose(first, a, b)
		want := bytes.Clone(got)
		for i := range a {
			a[i], b[i] = 0, 0
		}
		if !bytes.Equal(got, want) {
			t.Errorf("Choose(%v, ..) shares what was handed in", first)
		}
		for i := range got {
			got[i] = 1
		}
		_ = append(got, 1, 2, 3)
		if !Zero(a) || !Zero(b) {
			t.Errorf("Choose(%v, ..): its answer reaches what was handed in", first)
		}
	}
	both := []byte("one text")
	got, e := Choose(true, both, both)
	if got[0]++; e != api.OK || both[0] != 'o' {
		t.Error("of one text, twice: the answer is not a copy")
	}
}

// P7.2: unlike numbers of bytes.
func TestUnlikeNumbers(t *testing.T) {
	for n := range 40 {
		for m := range 40 {
			if n == m {
				continue
			}
			for _, a := range texts(n) {
				for _, b := range texts(m) {
					for _, first := range []bool{true, false} {
						if got, e := Choose(first, a, b); e != api.ErrArg || len(got) != 0 {
							t.Fatalf("Choose(%v) of %d bytes and %d: %x, %d", first, n, m, got, e)
						}
					}
					if got, e := Less(a, b); e != api.ErrArg || got {
						t.Fatalf("Less of %d bytes and %d: %v, %d", n, m, got, e)
					}
				}
			}
		}
	}
	if _, e := Less(nil, make([]byte, 256)); e != api.ErrArg {
		t.Error("Less of no bytes and 256")
	}
	if _, e := Choose(true, make([]byte, 256), nil); e != api.ErrArg {
		t.Error("Choose of 256 bytes and none")
	}
}

// P7.2: as numbers whose first byte is the highest, made by another program.
func TestLess(t *testing.T) {
	for _, p := range pairs() {
		a, b := p[0], p[1]
		want := new(big.Int).SetBytes(a).Cmp(new(big.Int).SetBytes(b)) < 0
		if got, e := Less(a, b); e != api.OK || got != want {
			t.Fatalf("Less(%x, %x): %v, %d", a, b, got, e)
		}
	}
}

// P7.2: the first byte that differs tells, at each place, whatever stands behind it.
func TestLessByFirstThatDiffers(t *testing.T) {
	for _, n := range lengths() {
		for i := range n {
			for _, c := range [][2]byte{{0, 1}, {0, 0xff}, {0x7f, 0x80}, {1, 0x80}, {0xfe, 0xff}} {
				for _, behind := range [][2]byte{{0, 0}, {0xff, 0}, {0, 0xff}, {0xff, 0xff}, {0x80, 0x7f}} {
					a, b := drawn(n), drawn(n)
					a[i], b[i] = c[0], c[1]
					copy(a[i+1:], bytes.Repeat(behind[:1], n))
					copy(b[i+1:], bytes.Repeat(behind[1:], n))
					l, e := Less(a, b)
					m, f := Less(b, a)
					if !l || m || e != api.OK || f != api.OK {
						t.Fatalf("%d bytes that differ at %d, %02x and %02x, behind them %02x and %02x: %v and %v", n, i, c[0], c[1], behind[0], behind[1], l, m)
					}
				}
			}
		}
	}
}

// P7.2: none is less than itself; no bytes are not less than none.
func TestLessOfAlike(t *testing.T) {
	for _, n := range lengths() {
		for _, b := range texts(n) {
			if got, e := Less(b, bytes.Clone(b)); got || e != api.OK {
				t.Errorf("%d bytes and themselves: %v, %d", n, got, e)
			}
		}
	}
	if got, e := Less(nil, []byte{}); got || e != api.OK {
		t.Errorf("no bytes and none: %v, %d", got, e)
	}
}

// P7.3: each is the same as itself; of two of one length one is less, or the other, or they are the same: just one of these.
func TestJustOne(t *testing.T) {
	for _, p := range pairs() {
		a, b := p[0], p[1]
		if !Bytes(a, a) || !Bytes(b, b) {
			t.Fatalf("%x or %x is not the same as itself", a, b)
		}
		l, _ := Less(a, b)
		m, _ := Less(b, a)
		if s := Bytes(a, b); count(l, m, s) != 1 || s != Bytes(b, a) {
			t.Fatalf("%x and %x: less %v, more %v, the same %v", a, b, l, m, s)
		}
	}
}

// count is how many hold.
func count(l ...bool) int {
	n := 0
	for _, b := range l {
		if b {
			n++
		}
	}
	return n
}

// What is handed in stays as it is, and what lies beyond its end.
func TestNothingIsChanged(t *testing.T) {
	whole := drawn(100)
	before := bytes.Clone(whole)
	a, b := whole[10:40], whole[40:70]
	Bytes(a, b)
	Zero(a)
	Choose(true, a, b)
	Choose(false, a, b)
	Less(a, b)
	Steps(a, b)
	if !bytes.Equal(whole, before) {
		t.Error("what was handed in was changed")
	}
}

// P7.1, P7.2: no look breaks off. No answer tells how many bytes Zero, Choose and Less look at, so the code is asked: nothing in a loop hangs on what was met, and no other package holds bytes against each other.
func TestNoLookBreaksOff(t *testing.T) {
	file, err := parser.ParseFile(token.NewFileSet(), "same.go", nil, 0)
	if err != nil {
		t.Fatal(err)
	}
	if len(file.Imports) != 1 || file.Imports[0].Path.Value != `"chatelaine/api"` {
		t.Error("packages beside api are called")
	}
	loops := 0
	ast.Inspect(file, func(n ast.Node) bool {
		switch x := n.(type) {
		case *ast.ForStmt:
			loops++
			straight(t, x)
		case *ast.RangeStmt:
			loops++
			straight(t, x)
		}
		return true
	})
	if loops == 0 {
		t.Error("no loop was found")
	}
}

// straight tells of each part of a loop by which one turn could be another than the next.
func straight(t *testing.T, loop ast.Node) {
	ast.Inspect(loop, func(n ast.Node) bool {
		switch x := n.(type) {
		case *ast.IfStmt, *ast.SwitchStmt, *ast.BranchStmt, *ast.ReturnStmt:
			t.Errorf("a loop has a %T", x)
		case *ast.CallExpr:
			if name, ok := x.Fun.(*ast.Ident); !ok || name.Name != "int" && name.Name != "len" {
				t.Error("a loop calls a function")
			}
		case *ast.BinaryExpr:
			if x.Op == token.LAND || x.Op == token.LOR {
				t.Errorf("a loop has a %s", x.Op)
			}
		}
		return true
	})
}

// The chapter's example.
func TestExample(t *testing.T) {
	a, b := []byte{1, 2}, []byte{1, 3}
	if l, e := Less(a, b); Bytes(a, b) || !l || e != api.OK {
		t.Error("01 02 and 01 03")
	}
}
