package field

import (
	"bytes"
	"encoding/binary"
	"math"
	"math/rand"
	"reflect"
	"slices"
	"testing"

	"chatelaine/api"
)

// drawn is n bytes that are the same in each run.
func drawn(n int) []byte {
	b := make([]byte, n)
	rand.New(rand.NewSource(int64(n))).Read(b)
	return b
}

// most is the greatest number of so many bytes, from chapter 1's words, not from the code.
var most = [9]int{1: 0xff, 2: 0xffff, 3: 0xffffff, 4: 0xffffffff, 5: 0xffffffffff, 6: 0xffffffffffff, 7: 0xffffffffffffff, 8: 1 << 62}

// below is numbers below 0; of some the lowest bytes alone would be right.
func below() []int {
	return []int{-1, -2, -8, -255, -256, -1<<16 + 1, -1 << 31, -1<<32 + 1, -1 << 62, math.MinInt + 1, math.MinInt + 2, math.MinInt}
}

// far is numbers that are more than any bytes here; of some the lowest bytes alone would not be.
func far() []int {
	return []int{1 << 31, 1<<32 + 1, 1<<32 + 2, 1<<62 - 1, 1 << 62, 1<<62 + 1, math.MaxInt - 1, math.MaxInt}
}

// wrongSizes is sizes that no number has.
func wrongSizes() []int {
	return append(append(below(), far()...), 0, 9, 10, 16, 255, 256, 257, 1<<16+1)
}

// numbers is some numbers of a size, at its edges and between.
func numbers(size int) []int {
	top := most[size]
	return []int{0, 1, 2, top / 3, top / 2, top/2 + 1, top - 1, top}
}

// laid is a number's bytes, the highest first, by another program.
func laid(n, size int) []byte {
	return binary.BigEndian.AppendUint64(nil, uint64(n))[8-size:]
}

// counting is bytes behind how many there are.
func counting(b []byte) []byte {
	return append(binary.BigEndian.AppendUint16(nil, uint16(len(b))), b...)
}

// step is a field: a number, if it has a size; else bytes, counted or as they are.
type step struct {
	n, size int
	b       []byte
	counted bool
}

// write writes a field.
func (s step) write(w *Writer) {
	switch {
	case s.size > 0:
		w.Number(s.n, s.size)
	case s.counted:
		w.Bytes(s.b)
	default:
		w.Fixed(s.b)
	}
}

// bytes is what a field should be written as.
func (s step) bytes() []byte {
	switch {
	case s.size > 0:
		return laid(s.n, s.size)
	case s.counted:
		return counting(s.b)
	}
	return s.b
}

// writes asks that a writer tells just these bytes, as often as it is asked.
func writes(t *testing.T, what string, w *Writer, want []byte) {
	t.Helper()
	for range 2 {
		if b, e := w.Out(); e != api.OK || !bytes.Equal(b, want) {
			t.Fatalf("%s: %d bytes %.40x, %d, not %d bytes %.40x", what, len(b), b, e, len(want), want)
		}
	}
}

// refuses asks that a writer tells nothing, and ErrArg, whatever more is written.
func refuses(t *testing.T, what string, w *Writer) {
	t.Helper()
	for _, more := range []func(){func() {}, func() { w.Number(1, 1) }, func() { w.Bytes([]byte{2}) }, func() { w.Fixed([]byte{3}) }, func() { w.Fixed(nil) }, func() { w.Number(-1, 1) }, func() {}} {
		more()
		if b, e := w.Out(); e != api.ErrArg || b != nil {
			t.Fatalf("%s: %d bytes %.40x, %d, not ErrArg", what, len(b), b, e)
		}
	}
}

// ends asks what a reader tells at its end, as often as it is asked.
func ends(t *testing.T, what string, r *Reader, want api.Errno) {
	t.Helper()
	for range 2 {
		if e := r.Done(); e != want {
			t.Fatalf("%s: %d, not %d", what, e, want)
		}
	}
}

// stops asks that a reader reads nothing any more, whatever is asked, and goes on telling what went wrong first.
func stops(t *testing.T, what string, r *Reader, want api.Errno) {
	t.Helper()
	ends(t, what, r, want)
	for _, n := range append(append(below(), far()...), 0, 1, 2, 3, 8, 9, 1<<16-1) {
		for _, top := range []int{-1, 0, 1, math.MaxInt} {
			if got := r.Number(n, top); got != 0 {
				t.Fatalf("%s: behind it Number(%d, %d) is %d", what, n, top, got)
			}
		}
		if got := r.Bytes(n); got != nil {
			t.Fatalf("%s: behind it Bytes(%d) is %x", what, n, got)
		}
		if got := r.Fixed(n); got != nil {
			t.Fatalf("%s: behind it Fixed(%d) is %x", what, n, got)
		}
		ends(t, what, r, want)
	}
}

// noNumber asks that no number is read of bytes, and why.
func noNumber(t *testing.T, b []byte, size, top int, want api.Errno) {
	t.Helper()
	r := Read(b)
	if n := r.Number(size, top); n != 0 {
		t.Fatalf("Number(%d, %d) of %.40x: %d", size, top, b, n)
	}
	stops(t, "a number", r, want)
}

// noBytes asks that no counted bytes are read of bytes, and why.
func noBytes(t *testing.T, b []byte, top int, want api.Errno) {
	t.Helper()
	r := Read(b)
	if got := r.Bytes(top); got != nil {
		t.Fatalf("Bytes(%d) of %d bytes %.40x: %x", top, len(b), b, got)
	}
	stops(t, "bytes", r, want)
}

// noFixed asks that no bytes are read as they are of bytes, and why.
func noFixed(t *testing.T, b []byte, n int, want api.Errno) {
	t.Helper()
	r := Read(b)
	if got := r.Fixed(n); got != nil {
		t.Fatalf("Fixed(%d) of %d bytes: %x", n, len(b), got)
	}
	stops(t, "bytes as they are", r, want)
}

// P12.1: numbers of each size, at the edges and between, the highest byte first.
func TestWriteNumbers(t *testing.T) {
	for size := 1; size <= 8; size++ {
		for _, n := range numbers(size) {
			var w Writer
			w.Number(n, size)
			writes(t, "a number", &w, laid(n, size))
		}
	}
}

// P12.1: numbers written out, byte by byte.
func TestWriteNumbersWrittenOut(t *testing.T) {
	for _, c := range []struct {
		n, size int
		want    []byte
	}{
		{5, 2, []byte{0, 5}},
		{255, 1, []byte{255}},
		{0x123456, 3, []byte{0x12, 0x34, 0x56}},
		{0x123456, 5, []byte{0, 0, 0x12, 0x34, 0x56}},
		{1 << 62, 8, []byte{0x40, 0, 0, 0, 0, 0, 0, 0}},
	} {
		var w Writer
		w.Number(c.n, c.size)
		writes(t, "a number", &w, c.want)
	}
}

// P12.1: numbers that can't be written: below 0 and above what fits, of each size.
func TestWriteNumbersThatDoNotFit(t *testing.T) {
	for size := 1; size <= 8; size++ {
		wrong := append(below(), most[size]+1, most[size]+2, 1<<62+1, 1<<62+255, math.MaxInt)
		if size < 8 {
			wrong = append(wrong, 1<<(8*size), 1<<(8*size)+1, 1<<(8*size+1), 1<<62)
		}
		for _, n := range wrong {
			var w Writer
			w.Number(n, size)
			refuses(t, "a number", &w)
		}
	}
}

// P12.1: sizes that no number has, whatever the number is.
func TestWriteNumbersOfWrongSizes(t *testing.T) {
	for _, size := range wrongSizes() {
		for _, n := range []int{0, 1, 255, 1 << 62, math.MaxInt, -1, math.MinInt} {
			var w Writer
			w.Number(n, size)
			refuses(t, "a number", &w)
		}
	}
}

// P12.1: bytes behind how many there are: none, and up to as many as may be.
func TestWriteBytes(t *testing.T) {
	for _, n := range []int{0, 1, 2, 7, 254, 255, 256, 257, 511, 512, 32767, 32768, 65280, 65534, 65535} {
		b := drawn(n)
		var w Writer
		w.Bytes(b)
		writes(t, "bytes", &w, append([]byte{byte(n >> 8), byte(n)}, b...))
	}
	for n := range 300 {
		var w Writer
		w.Bytes(drawn(n))
		writes(t, "bytes", &w, counting(drawn(n)))
	}
	var w Writer
	w.Bytes(nil)
	writes(t, "nil", &w, []byte{0, 0})
}

// P12.1: more bytes than may be, by one and by many; those whose count would fit into two bytes among them.
func TestWriteTooManyBytes(t *testing.T) {
	for _, n := range []int{1 << 16, 1<<16 + 1, 1<<16 + 2, 1 << 17, 1<<17 - 1, 1 << 20, 1<<20 + 5, 1 << 24} {
		var w Writer
		w.Bytes(make([]byte, n))
		refuses(t, "bytes", &w)
	}
}

// P12.1: bytes as they are: none, few, and more than Bytes takes.
func TestWriteFixed(t *testing.T) {
	for _, n := range []int{0, 1, 2, 3, 31, 32, 33, 255, 256, 65535, 65536, 65537, 1 << 20, 1<<24 + 1} {
		var w Writer
		w.Fixed(drawn(n))
		writes(t, "bytes as they are", &w, drawn(n))
	}
	var w Writer
	w.Fixed(nil)
	writes(t, "nil", &w, nil)
}

// P12.1: each kind behind each other, and what Out tells in between.
func TestWriteBehind(t *testing.T) {
	kinds := []step{
		{size: 3, n: 258},
		{counted: true, b: []byte("ab")},
		{b: []byte("cde")},
		{size: 1, n: 0},
		{counted: true},
		{},
	}
	for _, a := range kinds {
		for _, b := range kinds {
			for _, c := range kinds {
				var asked, once Writer
				var want []byte
				for _, s := range []step{a, b, c} {
					s.write(&asked)
					s.write(&once)
					want = append(want, s.bytes()...)
					writes(t, "in between", &asked, want)
				}
				writes(t, "at the end", &once, want)
			}
		}
	}
}

// P12.1, P12.2: what stands behind the end of bytes that are handed in is neither counted, nor written, nor read.
func TestRoomBehind(t *testing.T) {
	whole := bytes.Repeat([]byte{0xff}, 1<<17)
	for _, n := range []int{0, 1, 2, 255, 65535} {
		copy(whole, drawn(n))
		var w Writer
		w.Bytes(whole[:n])
		w.Fixed(whole[:n])
		writes(t, "bytes with room behind", &w, append(counting(drawn(n)), drawn(n)...))
		noFixed(t, whole[:n], n+1, api.ErrEnd)
		r := Read(whole[:n])
		if got := r.Fixed(n); !bytes.Equal(got, drawn(n)) {
			t.Fatalf("Fixed(%d): %d bytes", n, len(got))
		}
		ends(t, "bytes with room behind", r, api.OK)
	}
}

// P12.1: once something can't be written Out tells nothing and ErrArg, wherever that was: of nothing right behind or ahead is anything told.
func TestWriteWrongAmongRight(t *testing.T) {
	wrong := map[string]func(*Writer){
		"a number below 0":    func(w *Writer) { w.Number(-1, 2) },
		"a number too great":  func(w *Writer) { w.Number(1<<16, 2) },
		"a size too small":    func(w *Writer) { w.Number(0, 0) },
		"a size too great":    func(w *Writer) { w.Number(0, 9) },
		"bytes too many":      func(w *Writer) { w.Bytes(make([]byte, 1<<16)) },
		"bytes far too many":  func(w *Writer) { w.Bytes(make([]byte, 1<<18)) },
		"several, in a row":   func(w *Writer) { w.Bytes(make([]byte, 1<<16)); w.Number(-1, 9); w.Number(256, 1) },
		"the greatest of all": func(w *Writer) { w.Number(math.MaxInt, 8) },
	}
	for what, spoil := range wrong {
		for place := range 4 {
			var w Writer
			for i := range 4 {
				if i == place {
					spoil(&w)
				}
				w.Number(i, 1)
				w.Bytes([]byte{9})
				w.Fixed([]byte{8})
			}
			refuses(t, what, &w)
		}
	}
	for what, spoil := range wrong {
		var w Writer
		w.Fixed([]byte("right"))
		writes(t, what, &w, []byte("right"))
		spoil(&w)
		refuses(t, what, &w)
	}
}

// P12.1: a Writer's zero value is one, however it is made; nothing was written to it.
func TestZeroWriter(t *testing.T) {
	var plain Writer
	for what, w := range map[string]*Writer{"declared": &plain, "new": new(Writer), "literal": {}} {
		writes(t, what, w, nil)
		w.Number(1, 1)
		writes(t, what, w, []byte{1})
	}
}

// P12.1: of a writer that is none nothing is written, and Out tells ErrNil, behind what can't be written, too.
func TestNoWriter(t *testing.T) {
	var w *Writer
	for range 2 {
		if b, e := w.Out(); e != api.ErrNil || b != nil {
			t.Errorf("Out: %x, %d", b, e)
		}
		w.Number(1, 1)
		w.Number(-1, 0)
		w.Bytes([]byte{1})
		w.Bytes(make([]byte, 1<<16))
		w.Fixed([]byte{1})
		w.Fixed(nil)
	}
}

// P12.1: two writers go on apart.
func TestWritersApart(t *testing.T) {
	var x, y Writer
	x.Number(1, 1)
	y.Number(-1, 1)
	x.Fixed([]byte{2})
	writes(t, "the one", &x, []byte{1, 2})
	refuses(t, "the other", &y)
}

// P12.2: numbers of each size, at the edges and between; just as much as may be is read, and one more is ErrForm.
func TestReadNumbers(t *testing.T) {
	for size := 1; size <= 8; size++ {
		for _, n := range numbers(size) {
			b := laid(n, size)
			for _, top := range []int{n, n + 1, most[size], 1 << 62, math.MaxInt} {
				if top < n {
					continue
				}
				r := Read(b)
				if got := r.Number(size, top); got != n {
					t.Fatalf("Number(%d, %d) of %x: %d, %d", size, top, b, got, r.Done())
				}
				ends(t, "a number", r, api.OK)
			}
			for _, top := range append(below(), n-1, n/2-1) {
				noNumber(t, b, size, top, api.ErrForm)
			}
		}
	}
}

// P12.2: a number above 2^62, though it be at most most, or its highest bit make it below 0.
func TestReadNumbersAboveAll(t *testing.T) {
	for _, x := range []uint64{1<<62 + 1, 1<<62 + 255, 1<<62 + 1<<32, 1<<63 - 1, 1 << 63, 1<<63 + 1, 1<<64 - 1, 1<<64 - 255} {
		b := binary.BigEndian.AppendUint64(nil, x)
		for _, top := range []int{math.MaxInt, math.MaxInt - 1, 1<<62 + 1, 1 << 62, 255, 0, -1, math.MinInt} {
			noNumber(t, b, 8, top, api.ErrForm)
			noNumber(t, append(bytes.Clone(b), 7), 8, top, api.ErrForm)
		}
	}
	for size := 1; size <= 7; size++ {
		r := Read(bytes.Repeat([]byte{0xff}, size))
		if got := r.Number(size, math.MaxInt); got != most[size] || r.Done() != api.OK {
			t.Errorf("all bits of %d bytes: %d, %d", size, got, r.Done())
		}
	}
}

// P12.2: each number of bytes that are too few for a number, whatever may be at most.
func TestReadNumbersErrEnd(t *testing.T) {
	for size := 1; size <= 8; size++ {
		for left := range size {
			for _, b := range [][]byte{make([]byte, left), bytes.Repeat([]byte{0xff}, left)} {
				for _, top := range []int{0, 1, 255, 1 << 62, math.MaxInt, -1, math.MinInt} {
					noNumber(t, b, size, top, api.ErrEnd)
				}
			}
		}
	}
}

// P12.2: sizes that no number has: ErrArg where as many bytes are left, ErrEnd, which is named first, where they are not.
func TestReadNumbersOfWrongSizes(t *testing.T) {
	for _, left := range []int{0, 1, 8, 9, 10, 15, 16, 17, 255, 256, 257, 1 << 17} {
		for _, size := range wrongSizes() {
			want := api.ErrArg
			if size > left {
				want = api.ErrEnd
			}
			for _, top := range []int{0, 255, math.MaxInt} {
				noNumber(t, make([]byte, left), size, top, want)
			}
		}
	}
}

// P12.2: a size that no number has is ErrArg whatever the bytes are, as there is no number that could be above most.
func TestReadNoNumber(t *testing.T) {
	for _, size := range []int{0, -1, -8, math.MinInt, 9, 10, 16} {
		for _, top := range []int{0, 1, -1, math.MinInt, math.MaxInt} {
			noNumber(t, bytes.Repeat([]byte{0xff}, 20), size, top, api.ErrArg)
		}
	}
}

// P12.2: bytes behind how many there are: none, and up to as many as may be; just as many as may be, and more room.
func TestReadBytes(t *testing.T) {
	for _, n := range []int{0, 1, 2, 7, 254, 255, 256, 257, 32767, 32768, 65534, 65535} {
		for _, top := range []int{n, n + 1, 65535, 65536, 1 << 62, math.MaxInt} {
			r := Read(counting(drawn(n)))
			if got := r.Bytes(top); !bytes.Equal(got, drawn(n)) {
				t.Fatalf("Bytes(%d) of %d: %d bytes, %d", top, n, len(got), r.Done())
			}
			ends(t, "bytes", r, api.OK)
		}
		for _, top := range append(below(), n-1, n/2-1) {
			noBytes(t, counting(drawn(n)), top, api.ErrForm)
			noBytes(t, append(counting(drawn(n)), 1, 2), top, api.ErrForm)
		}
	}
}

// P12.2: bytes of which some are missing: of how many there are, and of themselves; ErrEnd is named ahead of ErrForm.
func TestReadBytesErrEnd(t *testing.T) {
	for _, n := range []int{0, 1, 2, 7, 255, 256, 300} {
		b := counting(drawn(n))
		for left := range len(b) {
			for _, top := range []int{n, math.MaxInt, n - 1, 0, -1, math.MinInt} {
				noBytes(t, b[:left], top, api.ErrEnd)
			}
		}
	}
	for _, left := range []int{0, 1, 65534} {
		noBytes(t, append([]byte{255, 255}, make([]byte, left)...), math.MaxInt, api.ErrEnd)
	}
}

// P12.2: bytes as they are: none, few, all.
func TestReadFixed(t *testing.T) {
	for _, all := range []int{0, 1, 2, 40, 255, 256, 65535, 65536, 1 << 20} {
		b := drawn(all)
		for _, n := range []int{0, 1, 2, all / 2, all - 1, all} {
			if n < 0 || n > all {
				continue
			}
			r := Read(b)
			if got := r.Fixed(n); !bytes.Equal(got, b[:n]) {
				t.Fatalf("Fixed(%d) of %d: %d bytes", n, all, len(got))
			}
			want := api.ErrExtra
			if n == all {
				want = api.OK
			}
			ends(t, "bytes as they are", r, want)
		}
	}
}

// P12.2: bytes as they are: more than are left, and fewer than none.
func TestReadFixedErrors(t *testing.T) {
	for _, all := range []int{0, 1, 2, 255, 256, 65536} {
		for _, n := range append(far(), all+1, all+2, all+255, all+256, all+1<<16) {
			noFixed(t, drawn(all), n, api.ErrEnd)
		}
		for _, n := range append(below(), -all-1) {
			noFixed(t, drawn(all), n, api.ErrArg)
		}
	}
}

// P12.2: what is wrong behind what is right: the place has gone on by just what was read.
func TestReadWrongBehindRight(t *testing.T) {
	b := slices.Concat(laid(7, 4), counting([]byte("abc")), []byte("de"))
	ahead := func() *Reader {
		r := Read(b)
		if r.Number(4, 7) != 7 || string(r.Bytes(3)) != "abc" {
			t.Fatal(r.Done())
		}
		return r
	}
	for _, c := range []struct {
		read func(*Reader)
		want api.Errno
	}{
		{func(r *Reader) { r.Number(3, math.MaxInt) }, api.ErrEnd},
		{func(r *Reader) { r.Number(2, 'd'<<8) }, api.ErrForm},
		{func(r *Reader) { r.Number(0, 1) }, api.ErrArg},
		{func(r *Reader) { r.Bytes(1 << 16) }, api.ErrEnd},
		{func(r *Reader) { r.Fixed(3) }, api.ErrEnd},
		{func(r *Reader) { r.Fixed(-1) }, api.ErrArg},
		{func(r *Reader) { r.Fixed(2); r.Fixed(1) }, api.ErrEnd},
		{func(r *Reader) { r.Fixed(2); r.Number(1, 0) }, api.ErrEnd},
		{func(r *Reader) { r.Fixed(1); r.Bytes(0) }, api.ErrEnd},
	} {
		r := ahead()
		c.read(r)
		stops(t, "behind right ones", r, c.want)
	}
	r := ahead()
	if r.Number(2, 'd'<<8+'e') != 'd'<<8+'e' {
		t.Error("the last number")
	}
	ends(t, "all", r, api.OK)
}

// P12.2: of all pairs of wrong things the first one is told, whichever the second.
func TestReadFirstWrong(t *testing.T) {
	wrong := map[string]struct {
		read func(*Reader)
		want api.Errno
	}{
		"number, end":  {func(r *Reader) { r.Number(8, 0) }, api.ErrEnd},
		"number, form": {func(r *Reader) { r.Number(1, 0) }, api.ErrForm},
		"number, arg":  {func(r *Reader) { r.Number(0, 0) }, api.ErrArg},
		"bytes, end":   {func(r *Reader) { r.Bytes(300) }, api.ErrEnd},
		"bytes, form":  {func(r *Reader) { r.Fixed(1); r.Bytes(0) }, api.ErrForm},
		"fixed, end":   {func(r *Reader) { r.Fixed(8) }, api.ErrEnd},
		"fixed, arg":   {func(r *Reader) { r.Fixed(-1) }, api.ErrArg},
	}
	for what, first := range wrong {
		for _, second := range wrong {
			r := Read([]byte{1, 0, 1, 3})
			first.read(r)
			second.read(r)
			ends(t, what, r, first.want)
		}
	}
}

// P12.2: bytes that are left: ErrExtra, which is nothing wrong: what is left is still read.
func TestReadErrExtra(t *testing.T) {
	b := append(drawn(20), counting([]byte("xy"))...)
	r := Read(b)
	for i := range 20 {
		ends(t, "ahead of the end", r, api.ErrExtra)
		if got := r.Number(1, 255); got != int(b[i]) {
			t.Fatalf("the byte %d behind an ErrExtra: %d, not %d", i, got, b[i])
		}
	}
	ends(t, "ahead of the last", r, api.ErrExtra)
	if got := r.Bytes(2); string(got) != "xy" {
		t.Fatalf("bytes behind an ErrExtra: %x", got)
	}
	ends(t, "all", r, api.OK)
	if got := r.Fixed(1); got != nil {
		t.Fatalf("behind all: %x", got)
	}
	stops(t, "behind all", r, api.ErrEnd)
}

// P12.2: of no bytes none are left; nothing is missing of none.
func TestReadNothing(t *testing.T) {
	for what, b := range map[string][]byte{"nil": nil, "empty": {}, "room": make([]byte, 0, 9)} {
		r := Read(b)
		if r == nil {
			t.Fatalf("%s: no reader", what)
		}
		ends(t, what, r, api.OK)
		if got := r.Fixed(0); len(got) != 0 {
			t.Errorf("%s: %x", what, got)
		}
		ends(t, what, r, api.OK)
		noNumber(t, b, 1, 0, api.ErrEnd)
		noBytes(t, b, 0, api.ErrEnd)
		noFixed(t, b, 1, api.ErrEnd)
	}
}

// P12.2: of a reader that is none: ErrNil, 0, nothing, whatever is asked, what would be another error, too; and it stays none.
func TestNoReader(t *testing.T) {
	for what, r := range map[string]*Reader{"nil": nil, "plain": {}, "new": new(Reader)} {
		stops(t, what, r, api.ErrNil)
	}
}

// P12.2: two readers of the same bytes go on apart.
func TestReadersApart(t *testing.T) {
	b := drawn(9)
	x, y := Read(b), Read(b)
	x.Fixed(5)
	y.Number(0, 0)
	if got := x.Fixed(4); !bytes.Equal(got, b[5:]) {
		t.Errorf("the one: %x", got)
	}
	ends(t, "the one", x, api.OK)
	stops(t, "the other", y, api.ErrArg)
}

// read asks that a field is read as it was written, though no more may be.
func (s step) read(t *testing.T, r *Reader) {
	t.Helper()
	switch {
	case s.size > 0:
		if got := r.Number(s.size, s.n); got != s.n {
			t.Fatalf("%d of %d bytes was read as %d: %d", s.n, s.size, got, r.Done())
		}
	case s.counted:
		if got := r.Bytes(len(s.b)); !bytes.Equal(got, s.b) {
			t.Fatalf("%x was read as %x: %d", s.b, got, r.Done())
		}
	default:
		if got := r.Fixed(len(s.b)); !bytes.Equal(got, s.b) {
			t.Fatalf("%x, as they are, was read as %x: %d", s.b, got, r.Done())
		}
	}
}

// steps is drawn fields.
func steps(draw *rand.Rand, n int) []step {
	l := make([]step, n)
	for i := range l {
		switch draw.Intn(3) {
		case 0:
			size := 1 + draw.Intn(8)
			l[i] = step{size: size, n: draw.Intn(most[size] + 1)}
		case 1:
			l[i] = step{counted: true, b: drawn(draw.Intn(300))}
		default:
			l[i] = step{b: drawn(draw.Intn(300))}
		}
	}
	return l
}

// P12.1, P12.3: drawn fields, one behind the other: what is written is their bytes, and is read; cut anywhere it is ErrEnd, and with more behind ErrExtra.
func TestWrittenIsRead(t *testing.T) {
	draw := rand.New(rand.NewSource(12))
	for try := range 400 {
		l := steps(draw, try%12)
		var w Writer
		var want []byte
		for _, s := range l {
			s.write(&w)
			want = append(want, s.bytes()...)
		}
		writes(t, "drawn fields", &w, want)
		b, _ := w.Out()
		whole, more := Read(b), Read(append(bytes.Clone(b), 0))
		for _, s := range l {
			s.read(t, whole)
			s.read(t, more)
		}
		ends(t, "all", whole, api.OK)
		ends(t, "and one more", more, api.ErrExtra)
		if len(b) > 0 {
			cutShort(t, l, b[:draw.Intn(len(b))])
		}
	}
}

// cutShort asks that fields of which bytes are missing are read up to there, and no further.
func cutShort(t *testing.T, l []step, b []byte) {
	t.Helper()
	r := Read(b)
	begin := 0
	for _, s := range l {
		end := begin + len(s.bytes())
		if end > len(b) {
			switch {
			case s.size > 0:
				r.Number(s.size, math.MaxInt)
			case s.counted:
				r.Bytes(math.MaxInt)
			default:
				r.Fixed(len(s.b))
			}
			stops(t, "cut", r, api.ErrEnd)
			return
		}
		s.read(t, r)
		begin = end
	}
	t.Fatal("nothing was missing")
}

// P12.3: each number of one and two bytes, and each edge of a size, there and back.
func TestNumbersThereAndBack(t *testing.T) {
	var w Writer
	for n := range 1 << 16 {
		w.Number(n, 2)
		w.Number(n&0xff, 1)
	}
	for size := 1; size <= 8; size++ {
		for _, n := range numbers(size) {
			w.Number(n, size)
		}
	}
	b, e := w.Out()
	if e != api.OK {
		t.Fatal(e)
	}
	r := Read(b)
	for n := range 1 << 16 {
		if got, low := r.Number(2, n), r.Number(1, n&0xff); got != n || low != n&0xff {
			t.Fatalf("%d: %d, %d", n, got, low)
		}
	}
	for size := 1; size <= 8; size++ {
		for _, n := range numbers(size) {
			if got := r.Number(size, n); got != n {
				t.Fatalf("%d of %d bytes: %d", n, size, got)
			}
		}
	}
	ends(t, "all", r, api.OK)
}

// reading is a reader as the chapter's words have it: what is left, and what went wrong first.
type reading struct {
	left  []byte
	wrong api.Errno
}

// number is what Number should answer.
func (m *reading) number(size, top int) int {
	var x uint64
	if m.wrong != api.OK {
		return 0
	}
	if size > len(m.left) {
		m.wrong = api.ErrEnd
		return 0
	}
	if size < 1 || size > 8 {
		m.wrong = api.ErrArg
		return 0
	}
	for _, c := range m.left[:size] {
		x = x*256 + uint64(c)
	}
	if x > 1<<62 || int(x) > top {
		m.wrong = api.ErrForm
		return 0
	}
	m.left = m.left[size:]
	return int(x)
}

// bytes is what Bytes should answer.
func (m *reading) bytes(top int) []byte {
	if m.wrong != api.OK {
		return nil
	}
	if len(m.left) < 2 || len(m.left)-2 < int(m.left[0])*256+int(m.left[1]) {
		m.wrong = api.ErrEnd
		return nil
	}
	n := int(m.left[0])*256 + int(m.left[1])
	if n > top {
		m.wrong = api.ErrForm
		return nil
	}
	b := m.left[2 : 2+n]
	m.left = m.left[2+n:]
	return b
}

// fixed is what Fixed should answer.
func (m *reading) fixed(n int) []byte {
	if m.wrong != api.OK {
		return nil
	}
	if n > len(m.left) {
		m.wrong = api.ErrEnd
		return nil
	}
	if n < 0 {
		m.wrong = api.ErrArg
		return nil
	}
	b := m.left[:n]
	m.left = m.left[n:]
	return b
}

// done is what Done should answer.
func (m *reading) done() api.Errno {
	if m.wrong == api.OK && len(m.left) > 0 {
		return api.ErrExtra
	}
	return m.wrong
}

// P12.2: drawn calls on drawn bytes are answered as the chapter's words have it.
func TestReadAsTheWordsSay(t *testing.T) {
	draw := rand.New(rand.NewSource(1212))
	tops := []int{0, 1, 2, 3, 100, 255, 256, 1<<16 - 1, 1 << 16, 1 << 32, 1 << 62, math.MaxInt, -1, math.MinInt}
	for range 60000 {
		b := make([]byte, draw.Intn(30))
		for i := range b {
			b[i] = []byte{0, 0, 0, 1, 2, 3, 0x40, 0x7f, 0x80, 0xff}[draw.Intn(10)]
		}
		r, m := Read(b), &reading{left: b}
		for range 6 {
			n, top := draw.Intn(14)-2, tops[draw.Intn(len(tops))]
			switch draw.Intn(4) {
			case 0:
				if got, want := r.Number(n, top), m.number(n, top); got != want {
					t.Fatalf("%x: Number(%d, %d) is %d, not %d", b, n, top, got, want)
				}
			case 1:
				if got, want := r.Bytes(top), m.bytes(top); !bytes.Equal(got, want) {
					t.Fatalf("%x: Bytes(%d) is %x, not %x", b, top, got, want)
				}
			case 2:
				if got, want := r.Fixed(n), m.fixed(n); !bytes.Equal(got, want) {
					t.Fatalf("%x: Fixed(%d) is %x, not %x", b, n, got, want)
				}
			}
			if got, want := r.Done(), m.done(); got != want {
				t.Fatalf("%x: Done is %d, not %d", b, got, want)
			}
		}
	}
}

// What is handed in stays as it is: its bytes, and those beyond its end.
func TestNothingIsChanged(t *testing.T) {
	whole := drawn(400)
	copy(whole[200:], counting(whole[:50]))
	before := bytes.Clone(whole)
	var w Writer
	w.Fixed(whole[10:20])
	w.Bytes(whole[30:60])
	w.Number(5, 8)
	w.Out()
	r := Read(whole[198:300])
	r.Number(2, math.MaxInt)
	r.Bytes(50)
	r.Fixed(10)
	r.Fixed(1000)
	if !bytes.Equal(whole, before) {
		t.Error("what was handed in was changed")
	}
}

// What is done to bytes once they were handed in is neither written nor read.
func TestNothingHandedInIsKept(t *testing.T) {
	a, b := drawn(40), drawn(50)
	var w Writer
	w.Fixed(a)
	w.Bytes(b)
	clear(a)
	clear(b)
	writes(t, "bytes that were cleared", &w, append(drawn(40), counting(drawn(50))...))
	c := append(drawn(40), counting(drawn(50))...)
	r := Read(c)
	clear(c)
	if got, more := r.Fixed(40), r.Bytes(50); !bytes.Equal(got, drawn(40)) || !bytes.Equal(more, drawn(50)) {
		t.Errorf("of bytes that were cleared: %x, %x", got, more)
	}
}

// spoil turns all of an answer's bytes, those beyond its end, too.
func spoil(b []byte) {
	b = b[:cap(b)]
	for i := range b {
		b[i] ^= 0xff
	}
}

// What is done to an answer, beyond its end, too, is seen in no other answer.
func TestAnswersAreNew(t *testing.T) {
	var w Writer
	var want []byte
	for n := range 70 {
		b, e := w.Out()
		if e != api.OK {
			t.Fatal(e)
		}
		spoil(b)
		writes(t, "behind a spoilt answer", &w, want)
		w.Bytes(drawn(n))
		want = append(want, counting(drawn(n))...)
	}
	r := Read(want)
	for n := range 70 {
		twin := *r
		b := r.Bytes(n)
		if !bytes.Equal(b, drawn(n)) {
			t.Fatalf("the bytes %d: %x", n, b)
		}
		spoil(b)
		b = twin.Fixed(n + 2)
		if !bytes.Equal(b, counting(drawn(n))) {
			t.Fatalf("the bytes %d, as they are: %x", n, b)
		}
		spoil(b)
	}
	ends(t, "all", r, api.OK)
}

// Behind an answer's end stands nothing of what was written or is still to be read.
func TestNothingBehind(t *testing.T) {
	for n := range 100 {
		var w Writer
		w.Fixed(bytes.Repeat([]byte{0xff}, n))
		kept := w
		w.Fixed(bytes.Repeat([]byte{0xff}, 200))
		out, _ := kept.Out()
		r := Read(append(counting(bytes.Repeat([]byte{0xff}, n)), bytes.Repeat([]byte{0xff}, 200)...))
		for _, b := range [][]byte{out, r.Bytes(n), r.Fixed(n)} {
			if beyond := b[n:cap(b)]; len(b) != n || !bytes.Equal(beyond, make([]byte, len(beyond))) {
				t.Fatalf("behind %d of %d bytes stands %x", len(b), n, beyond)
			}
		}
	}
}

// Writers that were copied as values go on apart: none writes over what another one has, whichever goes on first, and whatever room there is.
func TestCopiedWriters(t *testing.T) {
	for n := range 100 {
		var w Writer
		want := drawn(n)
		for _, c := range want {
			w.Number(int(c), 1)
		}
		first, second, third := w, w, w
		first.Fixed([]byte("first"))
		second.Bytes([]byte("second"))
		second.Number(9, 1)
		w.Fixed([]byte("itself"))
		third.Number(-1, 1)
		fourth := second
		fourth.Fixed([]byte("fourth"))
		second.Fixed([]byte("again"))
		writes(t, "the first copy", &first, append(bytes.Clone(want), "first"...))
		writes(t, "the second copy", &second, append(bytes.Clone(want), "\x00\x06second\x09again"...))
		writes(t, "itself", &w, append(bytes.Clone(want), "itself"...))
		writes(t, "a copy's copy", &fourth, append(bytes.Clone(want), "\x00\x06second\x09fourth"...))
		refuses(t, "the third copy", &third)
		w = first
		w.Fixed([]byte("!"))
		first.Fixed([]byte("?"))
		writes(t, "as its copy was", &w, append(bytes.Clone(want), "first!"...))
		writes(t, "the copy it is of", &first, append(bytes.Clone(want), "first?"...))
	}
}

// A reader that was copied as a value stands at the place of then.
func TestCopiedReader(t *testing.T) {
	b := drawn(60)
	x := Read(b)
	x.Fixed(5)
	y := *x
	x.Fixed(15)
	x.Number(0, 0)
	if got := y.Fixed(55); !bytes.Equal(got, b[5:]) {
		t.Errorf("the copy: %x", got)
	}
	ends(t, "the copy", &y, api.OK)
	stops(t, "itself", x, api.ErrArg)
}

// What is written and read in many small steps takes no more than a moment.
func TestManyFields(t *testing.T) {
	const n = 1 << 20
	var w Writer
	for i := range n {
		w.Number(i, 4)
	}
	b, e := w.Out()
	if e != api.OK || len(b) != 4*n {
		t.Fatalf("%d bytes, %d", len(b), e)
	}
	r := Read(b)
	for i := range n {
		if got := r.Number(4, n); got != i {
			t.Fatalf("the number %d: %d, %d", i, got, r.Done())
		}
	}
	ends(t, "all", r, api.OK)
}

// A writer and a reader have the chapter's methods alone, and no field to be seen, what they embed included.
func TestFaces(t *testing.T) {
	for what, c := range map[string]struct {
		kind    reflect.Type
		methods []string
	}{
		"writer": {reflect.TypeFor[*Writer](), []string{"Bytes", "Fixed", "Number", "Out"}},
		"reader": {reflect.TypeFor[*Reader](), []string{"Bytes", "Done", "Fixed", "Number"}},
	} {
		var got []string
		for i := range c.kind.NumMethod() {
			got = append(got, c.kind.Method(i).Name)
		}
		if !slices.Equal(got, c.methods) {
			t.Errorf("%s: %v", what, got)
		}
		for _, f := range reflect.VisibleFields(c.kind.Elem()) {
			if f.IsExported() {
				t.Errorf("%s: %s is to be seen", what, f.Name)
			}
		}
	}
}

// The chapter's example.
func TestExample(t *testing.T) {
	var w Writer
	w.Number(5, 2)
	w.Bytes([]byte{7})
	writes(t, "the example", &w, []byte{0, 5, 0, 1, 7})
}

func BenchmarkWrite(b *testing.B) {
	data := drawn(64)
	for b.Loop() {
		var w Writer
		for range 100 {
			w.Number(5, 4)
			w.Bytes(data)
		}
		w.Out()
	}
}
