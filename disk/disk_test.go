package disk

import (
	"bytes"
	"math"
	"math/rand"
	"reflect"
	"slices"
	"testing"

	"chatelaine/api"
)

// drawn is n bytes that are the same in each run.
func drawn(n int) []byte {
	b := make([]byte, n)
	rand.New(rand.NewSource(int64(n))).Read(b)
	return b
}

// below is numbers below 0; of some the lowest bytes alone would be right.
func below() []int {
	return []int{-1, -2, -32, -255, -256, -1 << 20, -1 << 31, -1<<32 + 1, -1<<32 + 32, -1 << 62, math.MinInt + 1, math.MinInt + 32, math.MinInt}
}

// far is numbers that are more than any disk has; of some the lowest bytes alone would not be.
func far() []int {
	return []int{1<<20 + 1, 1<<20 + 32, 1 << 21, 1 << 31, 1<<31 + 32, 1<<32 + 1, 1<<32 + 32, 1 << 58, 1<<59 + 1, 1 << 62, 1<<62 + 1, math.MaxInt - 31, math.MaxInt - 1, math.MaxInt}
}

// nones is disks that no call made.
func nones() map[string]*Disk { return map[string]*Disk{"nil": nil, "plain": {}, "new": new(Disk)} }

// made is a new disk.
func made(t *testing.T, sectors, size int) *Disk {
	t.Helper()
	d, e := New(sectors, size)
	if e != api.OK || d == nil {
		t.Fatalf("New(%d, %d): %d", sectors, size, e)
	}
	return d
}

// full is a sector's bytes that are all c.
func full(size int, c byte) []byte { return bytes.Repeat([]byte{c}, size) }

// writes writes a sector of c alone, which must go.
func writes(t *testing.T, d *Disk, sector int, c byte) {
	t.Helper()
	if e := d.Write(sector, full(d.Size(), c)); e != api.OK {
		t.Fatalf("Write(%d) of %d: %d", sector, c, e)
	}
}

// flushes flushes, which must go.
func flushes(t *testing.T, d *Disk) {
	t.Helper()
	if e := d.Flush(); e != api.OK {
		t.Fatalf("Flush: %d", e)
	}
}

// reads asks that the sectors are read as sectors of these bytes alone.
func reads(t *testing.T, what string, d *Disk, want ...byte) {
	t.Helper()
	for sector, c := range want {
		for range 2 {
			if b, e := d.Read(sector); e != api.OK || !bytes.Equal(b, full(d.Size(), c)) {
				t.Fatalf("%s: Read(%d) is %d bytes %.8x, %d, not of %02x", what, sector, len(b), b, e, c)
			}
		}
	}
}

// keeps asks that the sectors that are kept are, all of them, of these bytes alone.
func keeps(t *testing.T, what string, d *Disk, want ...byte) {
	t.Helper()
	var whole []byte
	for _, c := range want {
		whole = append(whole, full(d.Size(), c)...)
	}
	for range 2 {
		if b := d.Image(); !bytes.Equal(b, whole) {
			t.Fatalf("%s: %d bytes are kept, not sectors of %v: %x", what, len(b), want, b)
		}
	}
}

// counts asks how many steps were done.
func counts(t *testing.T, what string, d *Disk, want int) {
	t.Helper()
	if got := d.Steps(); got != want {
		t.Fatalf("%s: %d steps, not %d", what, got, want)
	}
}

// powered asks whether the power is on.
func powered(t *testing.T, what string, d *Disk, want bool) {
	t.Helper()
	if got := d.On(); got != want {
		t.Fatalf("%s: On is %v", what, got)
	}
}

// answers asks for a call's error.
func answers(t *testing.T, what string, got, want api.Errno) {
	t.Helper()
	if got != want {
		t.Fatalf("%s: %d, not %d", what, got, want)
	}
}

// noRead asks that a sector isn't read, and why.
func noRead(t *testing.T, what string, d *Disk, sector int, want api.Errno) {
	t.Helper()
	if b, e := d.Read(sector); e != want || b != nil {
		t.Fatalf("%s: Read(%d) is %x, %d, not %d", what, sector, b, e, want)
	}
}

// isNew asks that a disk is a new one.
func isNew(t *testing.T, d *Disk, sectors, size int) {
	t.Helper()
	if d.Sectors() != sectors || d.Size() != size {
		t.Fatalf("New(%d, %d): Sectors %d, Size %d", sectors, size, d.Sectors(), d.Size())
	}
	powered(t, "a new disk", d, true)
	counts(t, "a new disk", d, 0)
	for _, sector := range []int{0, sectors / 2, sectors - 1} {
		if b, e := d.Read(sector); e != api.OK || !bytes.Equal(b, make([]byte, size)) {
			t.Fatalf("New(%d, %d): Read(%d) is %x, %d", sectors, size, sector, b, e)
		}
	}
	noRead(t, "a new disk", d, sectors, api.ErrDisk)
}

// P13.1: a disk of each size that may be, and of no other one between and around; it is on, has no steps, and noughts.
func TestNewSizes(t *testing.T) {
	sizes := []int{32, 48, 64, 80, 96, 112, 128, 144, 160, 176, 192, 208, 224, 240, 256}
	for size := -40; size < 600; size++ {
		for _, sectors := range []int{1, 2, 3, 31, 32, 33, 1000} {
			d, e := New(sectors, size)
			if !slices.Contains(sizes, size) {
				if d != nil || e != api.ErrArg {
					t.Fatalf("New(%d, %d): %v, %d", sectors, size, d != nil, e)
				}
				continue
			}
			answers(t, "New", e, api.OK)
			isNew(t, d, sectors, size)
			if b := d.Image(); !bytes.Equal(b, make([]byte, sectors*size)) {
				t.Fatalf("New(%d, %d): %d bytes are kept", sectors, size, len(b))
			}
		}
	}
}

// P13.1: from one sector to the most that there may be.
func TestNewSectors(t *testing.T) {
	for _, sectors := range []int{1, 2, 1<<16 + 1, 1<<20 - 1, 1 << 20} {
		d := made(t, sectors, 32)
		isNew(t, d, sectors, 32)
		if b := d.Image(); len(b) != 32*sectors {
			t.Fatalf("%d sectors: %d bytes are kept", sectors, len(b))
		}
	}
}

// P13.1: ErrArg, and no disk, of numbers at each edge, of either or both.
func TestNewWrong(t *testing.T) {
	wrongSectors := append(append(below(), far()...), 0)
	wrongSizes := append(append(below(), far()...), 0, 1, 8, 15, 16, 31, 33, 40, 47, 49, 63, 65, 127, 129, 250, 255, 257, 264, 272, 288, 512, 1<<16+32, 1<<20)
	refused := func(sectors, size int) {
		t.Helper()
		if d, e := New(sectors, size); d != nil || e != api.ErrArg {
			t.Errorf("New(%d, %d): %v, %d", sectors, size, d != nil, e)
		}
	}
	for _, sectors := range wrongSectors {
		for _, size := range []int{32, 64, 256} {
			refused(sectors, size)
		}
		for _, size := range wrongSizes {
			refused(sectors, size)
		}
	}
	for _, size := range wrongSizes {
		for _, sectors := range []int{1, 2, 32, 1 << 20} {
			refused(sectors, size)
		}
	}
}

// P13.1: the greatest disk is written, flushed and read at its ends.
func TestGreatest(t *testing.T) {
	d := made(t, api.MaxSectors, api.MaxSize)
	isNew(t, d, 1<<20, 256)
	for i, sector := range []int{0, 1<<20 - 1} {
		b := drawn(256 + i)[:256]
		answers(t, "Write", d.Write(sector, b), api.OK)
		flushes(t, d)
		d.Crash(nil)
		d.Power()
		if got, e := d.Read(sector); e != api.OK || !bytes.Equal(got, b) {
			t.Fatalf("Read(%d): %x, %d", sector, got, e)
		}
	}
	answers(t, "behind the end", d.Write(1<<20, drawn(256)), api.ErrDisk)
}

// P13.1: a sector is read as it was written last, whether that waits or is kept; no other sector changes; nothing is kept that only waits.
func TestReadWhatWaitsAndWhatIsKept(t *testing.T) {
	for size := 32; size <= 256; size += 16 {
		d := made(t, 4, size)
		reads(t, "at first", d, 0, 0, 0, 0)
		writes(t, d, 1, 5)
		reads(t, "one waits", d, 0, 5, 0, 0)
		keeps(t, "one waits", d, 0, 0, 0, 0)
		writes(t, d, 3, 6)
		writes(t, d, 1, 7)
		writes(t, d, 0, 8)
		reads(t, "four wait", d, 8, 7, 0, 6)
		keeps(t, "four wait", d, 0, 0, 0, 0)
		flushes(t, d)
		reads(t, "all is kept", d, 8, 7, 0, 6)
		keeps(t, "all is kept", d, 8, 7, 0, 6)
		writes(t, d, 1, 9)
		writes(t, d, 1, 7)
		writes(t, d, 1, 10)
		writes(t, d, 2, 11)
		reads(t, "over what is kept", d, 8, 10, 11, 6)
		keeps(t, "over what is kept", d, 8, 7, 0, 6)
		writes(t, d, 1, 0)
		reads(t, "noughts wait", d, 8, 0, 11, 6)
		flushes(t, d)
		keeps(t, "noughts are kept", d, 8, 0, 11, 6)
		counts(t, "all", d, 11)
	}
}

// P13.1: each byte of a sector is kept in its place.
func TestBytesInTheirPlaces(t *testing.T) {
	for size := 32; size <= 256; size += 16 {
		d := made(t, 5, size)
		whole := drawn(5 * size)
		for _, sector := range []int{3, 0, 4, 1, 2} {
			b := whole[sector*size:][:size]
			answers(t, "Write", d.Write(sector, b), api.OK)
			if got, e := d.Read(sector); e != api.OK || !bytes.Equal(got, b) {
				t.Fatalf("what waits: %x, %d, not %x", got, e, b)
			}
		}
		flushes(t, d)
		if got := d.Image(); !bytes.Equal(got, whole) {
			t.Fatalf("size %d: %x, not %x", size, got, whole)
		}
		for sector := range 5 {
			if got, e := d.Read(sector); e != api.OK || !bytes.Equal(got, whole[sector*size:][:size]) {
				t.Fatalf("size %d: Read(%d) is %x, %d", size, sector, got, e)
			}
		}
	}
}

// P13.1: each sector there is, and none around, is read and written; with bytes of a wrong size it is still ErrDisk of no sector.
func TestNoSuchSector(t *testing.T) {
	for _, sectors := range []int{1, 2, 7, 300} {
		d := made(t, sectors, 32)
		for sector := range sectors {
			writes(t, d, sector, byte(sector+1))
		}
		wrong := append(append(below(), far()...), sectors, sectors+1, 2*sectors, 32*sectors, 32*sectors-1, -sectors)
		for _, sector := range wrong {
			noRead(t, "no such sector", d, sector, api.ErrDisk)
			for _, b := range [][]byte{full(32, 9), nil, {}, full(31, 9), full(33, 9)} {
				answers(t, "Write", d.Write(sector, b), api.ErrDisk)
				answers(t, "Overwrite", d.Overwrite(sector, b), api.ErrDisk)
			}
		}
		counts(t, "no such sector", d, sectors)
		flushes(t, d)
		for sector := range sectors {
			if b, e := d.Read(sector); e != api.OK || !bytes.Equal(b, full(32, byte(sector+1))) {
				t.Fatalf("Read(%d) of %d: %x, %d", sector, sectors, b, e)
			}
		}
	}
}

// P13.1, P13.2: bytes that aren't as many as a sector has are ErrArg, and are neither written nor kept.
func TestWrongBytes(t *testing.T) {
	for size := 32; size <= 256; size += 16 {
		d := made(t, 2, size)
		writes(t, d, 0, 1)
		for n := range 600 {
			if n == size {
				continue
			}
			answers(t, "Write", d.Write(0, full(n, 9)), api.ErrArg)
			answers(t, "Overwrite", d.Overwrite(0, full(n, 9)), api.ErrArg)
		}
		answers(t, "nil", d.Write(1, nil), api.ErrArg)
		answers(t, "nil", d.Overwrite(1, nil), api.ErrArg)
		answers(t, "room behind", d.Write(1, full(size, 9)[:size-1]), api.ErrArg)
		counts(t, "wrong bytes", d, 1)
		reads(t, "wrong bytes", d, 1, 0)
		flushes(t, d)
		keeps(t, "wrong bytes", d, 1, 0)
	}
}

// P13.1: of a disk that is off all is ErrPower, whatever else is wrong.
func TestOff(t *testing.T) {
	d := made(t, 3, 48)
	writes(t, d, 0, 1)
	flushes(t, d)
	writes(t, d, 1, 2)
	d.Crash(nil)
	powered(t, "off", d, false)
	for range 2 {
		for _, sector := range append(append(below(), far()...), 0, 1, 2, 3) {
			noRead(t, "off", d, sector, api.ErrPower)
			for _, b := range [][]byte{full(48, 9), nil, full(47, 9)} {
				answers(t, "off: Write", d.Write(sector, b), api.ErrPower)
			}
		}
		answers(t, "off: Flush", d.Flush(), api.ErrPower)
	}
	counts(t, "off", d, 3)
	powered(t, "off", d, false)
	keeps(t, "off", d, 1, 0, 0)
	d.Power()
	powered(t, "on again", d, true)
	reads(t, "on again", d, 1, 0, 0)
	flushes(t, d)
	keeps(t, "on again", d, 1, 0, 0)
	counts(t, "on again", d, 4)
}

// P13.1: with a fuse at its end a write that can't be is ErrDisk and ErrArg, and no crash; reading and overwriting is none, either.
func TestFuseAtItsEndAndWrongCalls(t *testing.T) {
	d := made(t, 2, 32)
	writes(t, d, 0, 1)
	d.Fuse(0, []bool{true})
	answers(t, "no such sector", d.Write(2, full(32, 9)), api.ErrDisk)
	answers(t, "no such sector, wrong bytes", d.Write(-1, nil), api.ErrDisk)
	answers(t, "wrong bytes", d.Write(1, full(31, 9)), api.ErrArg)
	noRead(t, "no such sector", d, 2, api.ErrDisk)
	answers(t, "Overwrite", d.Overwrite(1, full(32, 7)), api.OK)
	reads(t, "a fuse at its end", d, 1, 7)
	keeps(t, "a fuse at its end", d, 0, 7)
	powered(t, "a fuse at its end", d, true)
	counts(t, "a fuse at its end", d, 1)
	answers(t, "a write", d.Write(1, full(32, 9)), api.ErrPower)
	powered(t, "crashed", d, false)
	keeps(t, "crashed", d, 1, 7)
	counts(t, "crashed", d, 1)
}

// P13.1: calls that fail use up no step of a fuse, and are not counted.
func TestWrongCallsAreNoSteps(t *testing.T) {
	for left := range 6 {
		d := made(t, 2, 32)
		d.Fuse(left, nil)
		for done := range left {
			for range 10 {
				d.Write(2, full(32, 9))
				d.Write(0, full(33, 9))
				d.Overwrite(-1, full(32, 9))
				d.Read(5)
				d.Read(0)
				d.Overwrite(1, full(32, 9))
				d.Image()
			}
			counts(t, "wrong calls", d, done)
			writes(t, d, 0, 1)
		}
		answers(t, "at the end", d.Flush(), api.ErrPower)
		counts(t, "at the end", d, left)
	}
}

// P13.1: what was flushed doesn't wait any more: no list says anything of it, and places begin anew behind it.
func TestFlush(t *testing.T) {
	d := made(t, 3, 32)
	for range 3 {
		flushes(t, d)
		keeps(t, "nothing waits", d, 0, 0, 0)
	}
	writes(t, d, 0, 1)
	writes(t, d, 0, 2)
	writes(t, d, 1, 3)
	writes(t, d, 0, 4)
	flushes(t, d)
	keeps(t, "all, in order", d, 4, 3, 0)
	writes(t, d, 1, 5)
	writes(t, d, 2, 6)
	d.Crash([]bool{false, true})
	keeps(t, "places from 0 on", d, 4, 3, 6)
	counts(t, "places from 0 on", d, 10)
	d.Power()
	answers(t, "Overwrite", d.Overwrite(0, full(32, 7)), api.OK)
	flushes(t, d)
	keeps(t, "nothing waits", d, 7, 3, 6)
}

// lists is all lists of yes and no of n elements.
func lists(n int) [][]bool {
	var l [][]bool
	for bits := range 1 << n {
		keep := make([]bool, n)
		for i := range keep {
			keep[i] = bits>>i&1 == 1
		}
		l = append(l, keep)
	}
	return l
}

// P13.1: a crash by each list, shorter and longer than what waits: those writes are kept to whose places it says yes, in order, and no others, even behind the power.
func TestCrashByEachList(t *testing.T) {
	sectors := []int{0, 1, 0, 2, 1}
	for n := range len(sectors) + 3 {
		for _, keep := range lists(n) {
			d := made(t, 4, 32)
			for sector := range 4 {
				writes(t, d, sector, byte(100+sector))
			}
			flushes(t, d)
			want := []byte{100, 101, 102, 103}
			for place, sector := range sectors {
				writes(t, d, sector, byte(place+1))
				if place < n && keep[place] {
					want[sector] = byte(place + 1)
				}
			}
			d.Crash(keep)
			powered(t, "crashed", d, false)
			keeps(t, "crashed", d, want...)
			d.Power()
			reads(t, "on again", d, want...)
			flushes(t, d)
			keeps(t, "nothing waits", d, want...)
			d.Crash([]bool{true, true, true, true, true, true, true})
			keeps(t, "nothing waited", d, want...)
		}
	}
}

// P13.1: a crash by no list at all keeps nothing; one of a disk that is off, or where nothing waits, neither.
func TestCrashByNothing(t *testing.T) {
	for what, keep := range map[string][]bool{"nil": nil, "empty": {}, "room behind": make([]bool, 0, 3)} {
		d := made(t, 2, 64)
		d.Crash(keep)
		powered(t, what, d, false)
		keeps(t, what, d, 0, 0)
		d.Power()
		writes(t, d, 0, 1)
		writes(t, d, 1, 2)
		d.Crash(keep)
		keeps(t, what, d, 0, 0)
		for range 3 {
			d.Crash([]bool{true, true, true})
			powered(t, what, d, false)
			keeps(t, what, d, 0, 0)
		}
		d.Power()
		reads(t, what, d, 0, 0)
		counts(t, what, d, 2)
	}
}

// P13.1: what stands behind a list's end says nothing.
func TestCrashByAListWithRoomBehind(t *testing.T) {
	whole := []bool{true, false, true, true}
	for n := range 5 {
		for fused := range 2 {
			d := made(t, 4, 32)
			for sector := range 4 {
				writes(t, d, sector, 1)
			}
			if fused == 1 {
				d.Fuse(0, whole[:n])
				answers(t, "the fuse", d.Flush(), api.ErrPower)
			} else {
				d.Crash(whole[:n])
			}
			want := make([]byte, 4)
			for sector := range n {
				if whole[sector] {
					want[sector] = 1
				}
			}
			keeps(t, "room behind", d, want...)
		}
	}
}

// act is a write of a sector, or, below 0, a flush.
type act struct {
	sector int
	c      byte
}

// do does it, and tells what was answered.
func (a act) do(d *Disk) api.Errno {
	if a.sector < 0 {
		return d.Flush()
	}
	return d.Write(a.sector, full(d.Size(), a.c))
}

// acts is some writes and flushes.
func acts() []act {
	return []act{{0, 1}, {1, 2}, {-1, 0}, {1, 3}, {0, 4}, {1, 5}, {-1, 0}, {-1, 0}, {2, 6}, {0, 7}, {2, 8}}
}

// P13.1: a fuse at each count of steps: so many writes and flushes are done; in place of the next one the disk crashes, by the list, of what waits then.
func TestFuseAtEachCount(t *testing.T) {
	l := acts()
	for steps := range len(l) {
		for n := range 5 {
			for _, keep := range lists(n) {
				d := made(t, 3, 32)
				d.Fuse(steps, keep)
				want := make([]byte, 3)
				var waits []act
				for done, a := range l[:steps] {
					powered(t, "ahead of the end", d, true)
					answers(t, "ahead of the end", a.do(d), api.OK)
					counts(t, "ahead of the end", d, done+1)
					if a.sector >= 0 {
						waits = append(waits, a)
						continue
					}
					for _, w := range waits {
						want[w.sector] = w.c
					}
					waits = nil
				}
				powered(t, "ahead of the end", d, true)
				for place, w := range waits {
					if place < n && keep[place] {
						want[w.sector] = w.c
					}
				}
				answers(t, "at the end", l[steps].do(d), api.ErrPower)
				powered(t, "behind the end", d, false)
				keeps(t, "behind the end", d, want...)
				for range 2 {
					answers(t, "behind the end", act{0, 9}.do(d), api.ErrPower)
					answers(t, "behind the end", act{-1, 0}.do(d), api.ErrPower)
				}
				counts(t, "behind the end", d, steps)
				d.Power()
				reads(t, "on again", d, want...)
				for done, a := range l {
					answers(t, "no fuse any more", a.do(d), api.OK)
					counts(t, "no fuse any more", d, steps+done+1)
				}
			}
		}
	}
}

// P13.1: the write that the crash comes in place of isn't kept, though the list says yes to its place.
func TestFuseInPlaceOfAWrite(t *testing.T) {
	d := made(t, 3, 32)
	d.Fuse(1, []bool{true, true, true, true})
	writes(t, d, 0, 1)
	answers(t, "at the end", d.Write(1, full(32, 2)), api.ErrPower)
	keeps(t, "in place of a write", d, 1, 0, 0)
	d.Power()
	flushes(t, d)
	keeps(t, "in place of a write", d, 1, 0, 0)
}

// P13.1: of a flush that the crash comes in place of nothing is kept but by the list.
func TestFuseInPlaceOfAFlush(t *testing.T) {
	d := made(t, 3, 32)
	d.Fuse(3, []bool{false, true})
	writes(t, d, 0, 1)
	writes(t, d, 1, 2)
	writes(t, d, 2, 3)
	answers(t, "at the end", d.Flush(), api.ErrPower)
	keeps(t, "in place of a flush", d, 0, 2, 0)
}

// P13.1: below 0 there is no fuse, and none is left of one that was set before.
func TestNoFuse(t *testing.T) {
	for _, steps := range below() {
		d := made(t, 3, 32)
		d.Fuse(steps, []bool{true})
		for range 3 {
			for _, a := range acts() {
				answers(t, "no fuse", a.do(d), api.OK)
			}
		}
		for left := range 3 {
			d.Fuse(left, nil)
			for _, a := range acts()[:left] {
				answers(t, "a fuse", a.do(d), api.OK)
			}
			d.Fuse(steps, nil)
			for range 3 {
				for _, a := range acts() {
					answers(t, "none any more", a.do(d), api.OK)
				}
			}
		}
		powered(t, "no fuse", d, true)
	}
}

// P13.1: a new disk has no fuse.
func TestNewHasNoFuse(t *testing.T) {
	d := made(t, 3, 32)
	for range 100 {
		for _, a := range acts() {
			answers(t, "no fuse", a.do(d), api.OK)
		}
	}
	powered(t, "no fuse", d, true)
}

// P13.1: a fuse of very many steps doesn't end before them.
func TestLongFuse(t *testing.T) {
	for _, steps := range []int{1000, 1 << 8, 1 << 16, 1 << 31, 1 << 32, 1 << 62, math.MaxInt} {
		d := made(t, 3, 32)
		d.Fuse(steps, nil)
		for done := range min(steps, 1<<17) {
			if done%2 == 0 {
				flushes(t, d)
			} else {
				writes(t, d, done%3, byte(done))
			}
		}
		if steps <= 1<<17 {
			answers(t, "at the end", d.Flush(), api.ErrPower)
			counts(t, "at the end", d, steps)
		}
		powered(t, "a long fuse", d, steps > 1<<17)
	}
}

// P13.1: a fuse that is set in place of another one counts from then on, by its own list.
func TestFuseInPlaceOfAFuse(t *testing.T) {
	for first := range 5 {
		for second := range 5 {
			for _, keep := range []bool{false, true} {
				d := made(t, 1, 32)
				d.Fuse(first, []bool{!keep})
				if first > 0 {
					flushes(t, d)
				}
				asks(t, d)
				d.Fuse(second, []bool{keep})
				done := d.Steps()
				for range second {
					writes(t, d, 0, 1)
				}
				answers(t, "the second one", d.Flush(), api.ErrPower)
				counts(t, "the second one", d, done+second)
				want := byte(0)
				if keep && second > 0 {
					want = 1
				}
				keeps(t, "the second one", d, want)
			}
		}
	}
}

// asks makes calls that are no steps.
func asks(t *testing.T, d *Disk) {
	t.Helper()
	steps := d.Steps()
	d.Image()
	d.On()
	d.Sectors()
	d.Size()
	noRead(t, "no step", d, -1, api.ErrDisk)
	if _, e := d.Read(0); e != api.OK {
		t.Fatal(e)
	}
	counts(t, "no step", d, steps)
}

// P13.1: Power takes the fuse away, of a disk that is on, too, where what waits goes on waiting; and one that was set while it was off.
func TestPower(t *testing.T) {
	d := made(t, 2, 32)
	writes(t, d, 0, 1)
	d.Fuse(1, []bool{true})
	d.Power()
	powered(t, "on, and on", d, true)
	counts(t, "on, and on", d, 1)
	writes(t, d, 1, 2)
	writes(t, d, 1, 3)
	reads(t, "on, and on", d, 1, 3)
	keeps(t, "on, and on", d, 0, 0)
	d.Crash([]bool{true, true})
	keeps(t, "off", d, 1, 2)
	d.Fuse(0, []bool{true})
	answers(t, "off", d.Flush(), api.ErrPower)
	d.Power()
	for range 4 {
		writes(t, d, 0, 5)
	}
	d.Fuse(3, nil)
	d.Crash(nil)
	d.Power()
	d.Power()
	for range 8 {
		flushes(t, d)
	}
	reads(t, "on again", d, 1, 2)
	powered(t, "on again", d, true)
}

// P13.1: a crash doesn't put the power on, and the power alone does.
func TestOn(t *testing.T) {
	d := made(t, 1, 32)
	for range 3 {
		powered(t, "on", d, true)
		d.Crash([]bool{true})
		for range 2 {
			powered(t, "off", d, false)
			d.Flush()
			d.Read(0)
			d.Write(0, full(32, 1))
			d.Overwrite(0, full(32, 2))
			d.Image()
			d.Fuse(1, nil)
			d.Fuse(-1, nil)
			d.Crash(nil)
		}
		powered(t, "off", d, false)
		d.Power()
	}
}

// P13.2: what is kept of the sector is what it was overwritten with, of no other; it is no step.
func TestOverwrite(t *testing.T) {
	for size := 32; size <= 256; size += 16 {
		d := made(t, 4, size)
		whole := make([]byte, 4*size)
		for i, sector := range []int{2, 0, 3, 0, 1, 2} {
			b := drawn(size + i)[:size]
			answers(t, "Overwrite", d.Overwrite(sector, b), api.OK)
			copy(whole[sector*size:], b)
			if got := d.Image(); !bytes.Equal(got, whole) {
				t.Fatalf("kept: %x, not %x", got, whole)
			}
			if got, e := d.Read(sector); e != api.OK || !bytes.Equal(got, b) {
				t.Fatalf("read: %x, %d, not %x", got, e, b)
			}
		}
		counts(t, "overwriting", d, 0)
		d.Crash(nil)
		d.Power()
		if got := d.Image(); !bytes.Equal(got, whole) {
			t.Fatalf("kept: %x, not %x", got, whole)
		}
	}
}

// P13.2: no write of the sector waits any more, wherever in the list one stood; those of other sectors go on waiting, with their places among what waits.
func TestOverwriteOfWhatWaits(t *testing.T) {
	for over := range 4 {
		for _, keep := range lists(5) {
			d := made(t, 4, 32)
			want, waits := make([]byte, 4), []act{}
			for place, sector := range []int{0, 1, 0, 2, 1} {
				a := act{sector, byte(place + 1)}
				answers(t, "Write", a.do(d), api.OK)
				if sector != over {
					waits = append(waits, a)
				}
			}
			answers(t, "Overwrite", d.Overwrite(over, full(32, 9)), api.OK)
			counts(t, "Overwrite", d, 5)
			want[over] = 9
			keeps(t, "overwritten", d, want...)
			seen := bytes.Clone(want)
			for _, w := range waits {
				seen[w.sector] = w.c
			}
			reads(t, "overwritten", d, seen...)
			for place, w := range waits {
				if keep[place] {
					want[w.sector] = w.c
				}
			}
			d.Crash(keep)
			keeps(t, "crashed", d, want...)
		}
	}
}

// P13.2: a write behind the overwriting waits again, and a flush keeps it over what was overwritten.
func TestWriteBehindOverwrite(t *testing.T) {
	d := made(t, 2, 32)
	writes(t, d, 0, 1)
	writes(t, d, 1, 2)
	answers(t, "Overwrite", d.Overwrite(0, full(32, 3)), api.OK)
	writes(t, d, 0, 4)
	reads(t, "a write behind", d, 4, 2)
	keeps(t, "a write behind", d, 3, 0)
	flushes(t, d)
	keeps(t, "flushed", d, 4, 2)
	answers(t, "Overwrite", d.Overwrite(0, full(32, 5)), api.OK)
	flushes(t, d)
	keeps(t, "flushed again", d, 5, 2)
	counts(t, "flushed again", d, 5)
}

// P13.2: a disk that is off is overwritten, and stays off; with the same errors as one that is on.
func TestOverwriteOff(t *testing.T) {
	d := made(t, 2, 32)
	writes(t, d, 0, 1)
	d.Crash([]bool{true})
	answers(t, "off", d.Overwrite(1, full(32, 2)), api.OK)
	answers(t, "off", d.Overwrite(2, full(32, 2)), api.ErrDisk)
	answers(t, "off", d.Overwrite(-1, nil), api.ErrDisk)
	answers(t, "off", d.Overwrite(1, full(31, 2)), api.ErrArg)
	answers(t, "off", d.Overwrite(0, nil), api.ErrArg)
	keeps(t, "off", d, 1, 2)
	powered(t, "off", d, false)
	noRead(t, "off", d, 1, api.ErrPower)
	counts(t, "off", d, 1)
	d.Power()
	reads(t, "on again", d, 1, 2)
}

// P13.2: an overwriting that fails leaves what waits, and the fuse.
func TestOverwriteThatFails(t *testing.T) {
	d := made(t, 2, 32)
	writes(t, d, 1, 1)
	writes(t, d, 0, 2)
	writes(t, d, 1, 3)
	d.Fuse(1, []bool{true, true})
	for _, b := range [][]byte{nil, full(31, 9), full(33, 9), full(64, 9)} {
		answers(t, "wrong bytes", d.Overwrite(1, b), api.ErrArg)
	}
	answers(t, "no such sector", d.Overwrite(2, full(32, 9)), api.ErrDisk)
	reads(t, "as it was", d, 2, 3)
	keeps(t, "as it was", d, 0, 0)
	writes(t, d, 0, 4)
	answers(t, "the fuse", d.Flush(), api.ErrPower)
	keeps(t, "as it was", d, 2, 1)
}

// P13.2: an image is of all sectors, also of a disk that is off; Sectors and Size stay as they were made.
func TestImage(t *testing.T) {
	for _, sectors := range []int{1, 2, 9} {
		for size := 32; size <= 256; size += 16 {
			d := made(t, sectors, size)
			want := make([]byte, sectors)
			for sector := range sectors {
				want[sector] = byte(sector + 1)
				writes(t, d, sector, want[sector])
			}
			keeps(t, "waiting", d, make([]byte, sectors)...)
			flushes(t, d)
			keeps(t, "flushed", d, want...)
			d.Crash(nil)
			keeps(t, "off", d, want...)
			if d.Sectors() != sectors || d.Size() != size {
				t.Fatalf("off: Sectors %d, Size %d", d.Sectors(), d.Size())
			}
			d.Power()
			keeps(t, "on again", d, want...)
		}
	}
}

// P13.2: each write and each flush that was done is a step, whatever waits; nothing else is.
func TestSteps(t *testing.T) {
	d := made(t, 2, 32)
	for n := range 300 {
		counts(t, "before", d, 3*n)
		writes(t, d, 0, byte(n))
		counts(t, "a write", d, 3*n+1)
		writes(t, d, 0, byte(n))
		counts(t, "the same write", d, 3*n+2)
		flushes(t, d)
		counts(t, "a flush", d, 3*n+3)
		d.Crash([]bool{true})
		d.Flush()
		d.Power()
		d.Fuse(0, nil)
		d.Flush()
		d.Power()
	}
}

// P13.2: of a disk that is none each call answers ErrNil, or nothing, whatever it is given; and it stays none.
func TestNone(t *testing.T) {
	for what, d := range nones() {
		for range 2 {
			for _, n := range append(append(below(), far()...), 0, 1, 32) {
				noRead(t, what, d, n, api.ErrNil)
				for _, b := range [][]byte{nil, {}, full(32, 1)} {
					answers(t, what, d.Write(n, b), api.ErrNil)
					answers(t, what, d.Overwrite(n, b), api.ErrNil)
				}
				d.Fuse(n, []bool{true})
				answers(t, what, d.Flush(), api.ErrNil)
			}
			powered(t, what, d, false)
			d.Power()
			powered(t, what, d, false)
			d.Crash(nil)
			d.Crash([]bool{true, false})
			if b := d.Image(); b != nil {
				t.Errorf("%s: %x", what, b)
			}
			if d.Sectors() != 0 || d.Size() != 0 || d.Steps() != 0 {
				t.Errorf("%s: %d, %d, %d", what, d.Sectors(), d.Size(), d.Steps())
			}
		}
		if d != nil && !reflect.DeepEqual(d, &Disk{}) {
			t.Errorf("%s: something was done", what)
		}
	}
}

// P13.3: of all short lines of writes and flushes, and all lists: what was flushed stays; a sector has what was kept, or what one of the writes that waited had; by a crash and by a fuse.
func TestWhatACrashLeaves(t *testing.T) {
	const most = 5
	for code := range 1 << (2 * most) {
		var l []act
		for i := range most {
			l = append(l, act{code>>(2*i)&3 - 1, byte(i + 1)})
		}
		for n := 0; n <= most; n++ {
			for _, keep := range lists(n) {
				leaves(t, l, keep, false)
				leaves(t, l, keep, true)
			}
		}
	}
}

// leaves asks what a crash leaves behind a line of writes and flushes: of each sector what may be there, and that no flushed sector without a write behind it changes.
func leaves(t *testing.T, l []act, keep []bool, fused bool) {
	t.Helper()
	d := made(t, 3, 32)
	if fused {
		d.Fuse(len(l), keep)
	}
	may := [3][]byte{{0}, {0}, {0}}
	for _, a := range l {
		if e := a.do(d); e != api.OK {
			t.Fatal(e)
		}
		if a.sector >= 0 {
			may[a.sector] = append(may[a.sector], a.c)
			continue
		}
		for sector := range may {
			may[sector] = may[sector][len(may[sector])-1:]
		}
	}
	if !fused {
		d.Crash(keep)
	} else if e := d.Flush(); e != api.ErrPower {
		t.Fatal(e)
	}
	whole := d.Image()
	for sector := range may {
		b := whole[32*sector:][:32]
		if !slices.Contains(may[sector], b[0]) || !bytes.Equal(b, full(32, b[0])) {
			t.Fatalf("%v, by %v: the sector %d has %x, not one of %v", l, keep, sector, b, may[sector])
		}
	}
}

// paper is a disk as the chapter's words have it: each sector's bytes as a text, and what waits.
type paper struct {
	size  int
	kept  []string
	waits []note
	on    bool
	left  int
	keep  []bool
	steps int
}

// note is a write that waits.
type note struct {
	sector int
	text   string
}

// read is what Read should answer.
func (p *paper) read(sector int) (string, api.Errno) {
	if !p.on {
		return "", api.ErrPower
	}
	if sector < 0 || sector >= len(p.kept) {
		return "", api.ErrDisk
	}
	text := p.kept[sector]
	for _, w := range p.waits {
		if w.sector == sector {
			text = w.text
		}
	}
	return text, api.OK
}

// step is whether the next write or flush is done.
func (p *paper) step() bool {
	if p.left == 0 {
		p.crash(p.keep)
		return false
	}
	p.left--
	p.steps++
	return true
}

// write is what Write should answer.
func (p *paper) write(sector int, b []byte) api.Errno {
	switch {
	case !p.on:
		return api.ErrPower
	case sector < 0 || sector >= len(p.kept):
		return api.ErrDisk
	case len(b) != p.size:
		return api.ErrArg
	case !p.step():
		return api.ErrPower
	}
	p.waits = append(p.waits, note{sector, string(b)})
	return api.OK
}

// flush is what Flush should answer.
func (p *paper) flush() api.Errno {
	if !p.on || !p.step() {
		return api.ErrPower
	}
	for _, w := range p.waits {
		p.kept[w.sector] = w.text
	}
	p.waits = nil
	return api.OK
}

// crash is what Crash should do.
func (p *paper) crash(keep []bool) {
	for place, w := range p.waits {
		if place < len(keep) && keep[place] {
			p.kept[w.sector] = w.text
		}
	}
	p.waits, p.on = nil, false
}

// overwrite is what Overwrite should answer.
func (p *paper) overwrite(sector int, b []byte) api.Errno {
	if sector < 0 || sector >= len(p.kept) {
		return api.ErrDisk
	}
	if len(b) != p.size {
		return api.ErrArg
	}
	p.kept[sector] = string(b)
	var waits []note
	for _, w := range p.waits {
		if w.sector != sector {
			waits = append(waits, w)
		}
	}
	p.waits = waits
	return api.OK
}

// image is what Image should answer.
func (p *paper) image() string {
	var whole string
	for _, text := range p.kept {
		whole += text
	}
	return whole
}

// P13.1, P13.2, P13.3: drawn calls are answered as the chapter's words have it.
func TestAsTheWordsSay(t *testing.T) {
	draw := rand.New(rand.NewSource(13))
	for try := range 3000 {
		sectors, size := 1+draw.Intn(6), 32+16*draw.Intn(15)
		d, p := made(t, sectors, size), &paper{size: size, on: true, left: -1}
		for range sectors {
			p.kept = append(p.kept, string(make([]byte, size)))
		}
		for range 20 + draw.Intn(60) {
			both(t, draw, d, p)
			alike(t, try, d, p)
		}
	}
}

// both makes a drawn call of both disks, and asks that both answer the same.
func both(t *testing.T, draw *rand.Rand, d *Disk, p *paper) {
	t.Helper()
	sector, b := draw.Intn(len(p.kept)), make([]byte, p.size)
	draw.Read(b)
	switch draw.Intn(20) {
	case 0:
		sector = draw.Intn(3) - 1 + len(p.kept)*draw.Intn(2)
	case 1:
		b = b[:draw.Intn(len(b))]
	}
	keep := make([]bool, draw.Intn(9))
	for i := range keep {
		keep[i] = draw.Intn(2) == 1
	}
	switch draw.Intn(20) {
	default:
		answers(t, "Write", d.Write(sector, b), p.write(sector, b))
	case 0, 1, 2:
		answers(t, "Flush", d.Flush(), p.flush())
	case 3, 4:
		answers(t, "Overwrite", d.Overwrite(sector, b), p.overwrite(sector, b))
	case 5, 6:
		left := draw.Intn(12) - 2
		d.Fuse(left, keep)
		p.left, p.keep = left, slices.Clone(keep)
		for i := range keep {
			keep[i] = !keep[i]
		}
	case 7:
		d.Crash(keep)
		p.crash(keep)
	case 8, 9, 10:
		d.Power()
		p.on, p.left = true, -1
	}
}

// alike asks that both disks tell the same of all that can be asked.
func alike(t *testing.T, try int, d *Disk, p *paper) {
	t.Helper()
	if d.On() != p.on || d.Steps() != p.steps || d.Sectors() != len(p.kept) || d.Size() != p.size {
		t.Fatalf("try %d: On %v, %d steps, %d sectors of %d; not %v, %d", try, d.On(), d.Steps(), d.Sectors(), d.Size(), p.on, p.steps)
	}
	if got := d.Image(); string(got) != p.image() {
		t.Fatalf("try %d: kept is %x, not %x", try, got, p.image())
	}
	for sector := -1; sector <= len(p.kept); sector++ {
		want, wrong := p.read(sector)
		if got, e := d.Read(sector); e != wrong || string(got) != want {
			t.Fatalf("try %d: Read(%d) is %x, %d, not %x, %d", try, sector, got, e, want, wrong)
		}
	}
}

// What is handed in stays as it is: bytes and lists, and what stands behind their ends.
func TestNothingIsChanged(t *testing.T) {
	d := made(t, 3, 32)
	whole := drawn(100)
	before := bytes.Clone(whole)
	keep := []bool{true, false, true, false, true}
	asked := slices.Clone(keep)
	d.Write(0, whole[10:42])
	d.Overwrite(1, whole[50:82])
	d.Write(1, whole[3:35])
	d.Write(0, whole[4:36])
	d.Write(2, whole[5:37])
	d.Fuse(1, keep[1:3])
	d.Flush()
	d.Overwrite(2, whole[60:92])
	d.Flush()
	d.Power()
	d.Write(0, whole[5:36])
	d.Write(0, whole[5:37])
	d.Crash(keep)
	if !bytes.Equal(whole, before) || !slices.Equal(keep, asked) {
		t.Error("what was handed in was changed")
	}
}

// What is done to bytes and lists once they were handed in changes neither what waits, nor what is kept, nor the crash to come.
func TestNothingHandedInIsKept(t *testing.T) {
	d := made(t, 3, 32)
	b, c, keep := full(32, 1), full(32, 2), []bool{true, false}
	d.Write(0, b)
	d.Overwrite(1, c)
	d.Fuse(2, keep)
	clear(b)
	clear(c)
	reads(t, "bytes that were cleared", d, 1, 2, 0)
	keeps(t, "bytes that were cleared", d, 0, 2, 0)
	writes(t, d, 2, 3)
	keep[0], keep[1] = false, true
	writes(t, d, 2, 4)
	answers(t, "the fuse", d.Flush(), api.ErrPower)
	keeps(t, "a list that was turned", d, 1, 2, 0)
	d.Power()
	b = full(32, 5)
	d.Write(0, b)
	flushes(t, d)
	clear(b)
	keeps(t, "bytes that were cleared", d, 5, 2, 0)
}

// spoil turns all of an answer's bytes, those behind its end, too.
func spoil(b []byte) {
	b = b[:cap(b)]
	for i := range b {
		b[i] ^= 0xff
	}
}

// What is done to an answer, behind its end, too, changes neither the disk nor another answer.
func TestAnswersAreNew(t *testing.T) {
	d := made(t, 3, 32)
	for sector := range 3 {
		writes(t, d, sector, byte(sector+1))
	}
	spoilAll := func() {
		for sector := range 3 {
			a, _ := d.Read(sector)
			b, _ := d.Read(sector)
			spoil(a)
			if !bytes.Equal(b, full(32, byte(sector+1))) {
				t.Fatalf("beside a spoilt answer: %x", b)
			}
			spoil(b)
		}
		spoil(d.Image())
	}
	spoilAll()
	reads(t, "what waits", d, 1, 2, 3)
	keeps(t, "what waits", d, 0, 0, 0)
	flushes(t, d)
	spoilAll()
	reads(t, "what is kept", d, 1, 2, 3)
	keeps(t, "what is kept", d, 1, 2, 3)
	a := d.Image()
	d.Overwrite(0, full(32, 7))
	if !bytes.Equal(a[:32], full(32, 1)) {
		t.Error("an image goes on with the disk")
	}
}

// Behind an answer's end stands nothing that the disk has.
func TestNothingBehind(t *testing.T) {
	for size := 32; size <= 256; size += 16 {
		d := made(t, 3, size)
		for sector := range 3 {
			writes(t, d, sector, 0xff)
		}
		flushes(t, d)
		writes(t, d, 1, 0xff)
		for _, sector := range []int{0, 1} {
			b, _ := d.Read(sector)
			if behind := b[size:cap(b)]; !bytes.Equal(behind, make([]byte, len(behind))) {
				t.Fatalf("behind the sector %d stands %x", sector, behind)
			}
		}
		b := d.Image()
		if behind := b[len(b):cap(b)]; !bytes.Equal(behind, make([]byte, len(behind))) {
			t.Fatalf("behind the image stands %x", behind)
		}
	}
}

// Disks go on apart from each other.
func TestTwoDisks(t *testing.T) {
	a, b := made(t, 2, 32), made(t, 2, 32)
	writes(t, a, 0, 1)
	writes(t, b, 1, 2)
	a.Fuse(1, nil)
	flushes(t, b)
	flushes(t, b)
	reads(t, "the first", a, 1, 0)
	reads(t, "the second", b, 0, 2)
	a.Crash(nil)
	powered(t, "the second", b, true)
	a.Overwrite(1, full(32, 9))
	keeps(t, "the first", a, 0, 9)
	keeps(t, "the second", b, 0, 2)
	counts(t, "the first", a, 1)
	counts(t, "the second", b, 3)
}

// Very many writes wait, are kept, and are lost, in a moment.
func TestManyWrites(t *testing.T) {
	const n = 1 << 18
	d := made(t, 1<<10, 32)
	keep := make([]bool, n)
	for round := range 2 {
		b := full(32, byte(round+1))
		for i := range n {
			if e := d.Write(i%(1<<10), b); e != api.OK {
				t.Fatal(e)
			}
			keep[i] = i == n-1
		}
		if round == 0 {
			flushes(t, d)
		}
	}
	d.Crash(keep)
	want := bytes.Repeat([]byte{1}, 1<<10)
	want[1<<10-1] = 2
	keeps(t, "many writes", d, want...)
	counts(t, "many writes", d, 2*n+1)
}

// A disk has the chapter's methods alone, and no field to be seen.
func TestFace(t *testing.T) {
	kind := reflect.TypeFor[*Disk]()
	want := []string{"Crash", "Flush", "Fuse", "Image", "On", "Overwrite", "Power", "Read", "Sectors", "Size", "Steps", "Write"}
	var got []string
	for i := range kind.NumMethod() {
		got = append(got, kind.Method(i).Name)
	}
	if !slices.Equal(got, want) {
		t.Errorf("methods: %v", got)
	}
	for _, f := range reflect.VisibleFields(kind.Elem()) {
		if f.IsExported() {
			t.Errorf("%s is to be seen", f.Name)
		}
	}
}

// The chapter's example, and the whole's fifth: a write, a crash with no: noughts.
func TestExample(t *testing.T) {
	d := made(t, 1, 32)
	writes(t, d, 0, 1)
	d.Crash([]bool{false})
	keeps(t, "the example", d, 0)
	d.Power()
	reads(t, "the example", d, 0)
}

func BenchmarkWriteAndFlush(b *testing.B) {
	d, _ := New(64, 256)
	data := drawn(256)
	for b.Loop() {
		for sector := range 64 {
			d.Write(sector, data)
		}
		d.Flush()
	}
}
