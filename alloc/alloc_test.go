package alloc

import (
	"math"
	"math/rand"
	"reflect"
	"slices"
	"testing"

	"chatelaine/api"
)

const top = api.MaxSectors

// of is extents, by pairs of a Start and a Len.
func of(numbers ...int) []api.Extent {
	var l []api.Extent
	for pair := range slices.Chunk(numbers, 2) {
		l = append(l, api.Extent{Start: pair[0], Len: pair[1]})
	}
	return l
}

// wrongs is extents that may not be, at each edge and far beyond; of some the numbers' sum overflows, or is what may be.
func wrongs() []api.Extent {
	return of(
		-1, 1, -1, 2, -1, 5, -2, 3, 0, 0, 1, 0, 3, 0, 5, 0, 0, -1, 1, -1, 3, -2, 7, -4, -1, 0, -1, -1,
		0, top+1, 1, top, 2, top-1, top-1, 2, top, 1, top, 0, top+1, 0, top+1, 1, top+1, -1, top+1, -2, top+5, -5, 1, 2*top,
		0, math.MaxInt, 1, math.MaxInt, 2, math.MaxInt, math.MaxInt, 1, math.MaxInt, 2, math.MaxInt, math.MaxInt, math.MaxInt-1, 3,
		math.MaxInt, 0, math.MaxInt, -1, math.MaxInt, math.MinInt, math.MinInt, math.MaxInt, math.MinInt, math.MinInt, math.MinInt, 1,
		math.MinInt, -1, math.MinInt, 0, 0, math.MinInt, 1, math.MinInt, -1, math.MinInt, -1, math.MaxInt, math.MinInt+1, math.MaxInt,
		1<<32, 1, 1<<32, -1<<32+2, 0, 1<<32+1, 1, 1<<32, -1<<32, 1<<32+1, 1<<62, 1<<62, 1<<62, -1<<62+1, 1<<20-1, 1<<63-1<<20+1, 1<<20-1, 1<<62,
	)
}

// rights is extents that may be, at each edge and between.
func rights() []api.Extent {
	return of(0, 1, 0, 2, 1, 1, 7, 9, 0, top, 0, top-1, 1, top-1, 2, top-2, top-1, 1, top-2, 1, top-2, 2, top/2, top/2, 1000, 255, 255, 1, 256, 256)
}

// below is numbers below 1, far ones among them.
func below() []int {
	return []int{0, -1, -2, -256, -top, -1 << 31, -1 << 32, -1<<32 + 1, -1 << 62, math.MinInt + 1, math.MinInt}
}

// far is numbers beyond all sectors.
func far() []int {
	return []int{top + 1, top + 2, 2 * top, 1 << 31, 1 << 32, 1<<32 + 1, 1 << 62, math.MaxInt - 1, math.MaxInt}
}

// nones is pools that no call made.
func nones() []*Pool { return []*Pool{nil, {}, new(Pool)} }

// plain is a pool as the words say it: which sectors are its own, each free or out.
type plain map[int]bool

// plainOf is a plain pool whose sectors are all free.
func plainOf(start, n int) plain {
	p := plain{}
	for i := range n {
		p[start+i] = true
	}
	return p
}

// sectors is extents' sectors, by which of them there are; false, if they are no chain.
func sectors(l []api.Extent) (map[int]bool, bool) {
	all := map[int]bool{}
	for _, x := range l {
		if x.Start < 0 || x.Start > top || x.Len < 1 || x.Len > top-x.Start {
			return nil, false
		}
		for i := range x.Len {
			if all[x.Start+i] {
				return nil, false
			}
			all[x.Start+i] = true
		}
	}
	return all, true
}

// turn makes sectors that all are as said the other thing, or none of them.
func (p plain) turn(l []api.Extent, free bool) api.Errno {
	all, ok := sectors(l)
	if !ok {
		return api.ErrArg
	}
	for sector := range all {
		if was, own := p[sector]; !own || was != free {
			return api.ErrArg
		}
	}
	for sector := range all {
		p[sector] = !free
	}
	return api.OK
}

// rises is which sectors are free, rising.
func (p plain) rises() []int {
	var out []int
	for sector, free := range p {
		if free {
			out = append(out, sector)
		}
	}
	slices.Sort(out)
	return out
}

// joined is rising sectors as a set.
func joined(rising []int) []api.Extent {
	var l []api.Extent
	for i, sector := range rising {
		if i > 0 && rising[i-1] == sector-1 {
			l[len(l)-1].Len++
		} else {
			l = append(l, api.Extent{Start: sector, Len: 1})
		}
	}
	return l
}

// take is what the words say that Take answers.
func (p plain) take(n int) ([]api.Extent, api.Errno) {
	free := p.rises()
	if n < 1 {
		return nil, api.ErrArg
	}
	if n > len(free) {
		return nil, api.ErrFull
	}
	for _, sector := range free[:n] {
		p[sector] = false
	}
	return joined(free[:n]), api.OK
}

// whole is a new pool, which must be made.
func whole(t testing.TB, start, n int) *Pool {
	t.Helper()
	p, e := New(start, n)
	if e != api.OK || p == nil {
		t.Fatalf("New(%d, %d): %d", start, n, e)
	}
	return p
}

// part is a pool without some, which must be made.
func part(t testing.TB, start, n int, used ...api.Extent) *Pool {
	t.Helper()
	p, e := Of(start, n, used)
	if e != api.OK || p == nil {
		t.Fatalf("Of(%d, %d, %v): %d", start, n, used, e)
	}
	return p
}

// free asks which sectors are free, and how many.
func free(t *testing.T, what string, p *Pool, want []api.Extent) {
	t.Helper()
	n := 0
	for _, x := range want {
		n += x.Len
	}
	for range 2 {
		if got := p.List(); !slices.Equal(got, want) {
			t.Fatalf("%s: List is %v, not %v", what, got, want)
		}
		if got := p.Free(); got != n {
			t.Fatalf("%s: Free is %d, not %d", what, got, n)
		}
	}
}

// takes asks what is taken.
func takes(t *testing.T, p *Pool, n int, want []api.Extent) {
	t.Helper()
	if l, e := p.Take(n); e != api.OK || !slices.Equal(l, want) {
		t.Fatalf("Take(%d) is %v, %d, not %v", n, l, e, want)
	}
}

// noTake asks that nothing is taken, and that nothing changes.
func noTake(t *testing.T, p *Pool, n int, want api.Errno) {
	t.Helper()
	before := p.List()
	for range 2 {
		if l, e := p.Take(n); e != want || l != nil {
			t.Fatalf("Take(%d) is %v, %d, not %d", n, l, e, want)
		}
		free(t, "behind a Take that fails", p, before)
	}
}

// gives asks that sectors are given back.
func gives(t *testing.T, p *Pool, l ...api.Extent) {
	t.Helper()
	if e := p.Give(l); e != api.OK {
		t.Fatalf("Give(%v): %d", l, e)
	}
}

// noGive asks that nothing is given back, and that nothing changes.
func noGive(t *testing.T, p *Pool, l []api.Extent) {
	t.Helper()
	before := p.List()
	for range 2 {
		if e := p.Give(l); e != api.ErrArg {
			t.Fatalf("Give(%v): %d", l, e)
		}
		free(t, "behind a Give that fails", p, before)
	}
}

// noOf asks that no pool is made.
func noOf(t *testing.T, start, n int, used []api.Extent) {
	t.Helper()
	for range 2 {
		if p, e := Of(start, n, used); e != api.ErrArg || p != nil {
			t.Fatalf("Of(%d, %d, %v) is %v, %d", start, n, used, p, e)
		}
	}
}

// as asks that a pool has free what a plain one has.
func as(t *testing.T, p *Pool, model plain) {
	t.Helper()
	free(t, "as the words say", p, joined(model.rises()))
}

// P15.1: a pool of an extent that may be has all its sectors free, and no others.
func TestNew(t *testing.T) {
	for _, x := range rights() {
		for _, p := range []*Pool{whole(t, x.Start, x.Len), part(t, x.Start, x.Len)} {
			free(t, "a new pool", p, []api.Extent{x})
			noTake(t, p, x.Len+1, api.ErrFull)
			takes(t, p, x.Len, []api.Extent{x})
			free(t, "a pool of which all is taken", p, nil)
			noGive(t, p, of(x.Start-1, 1))
			noGive(t, p, of(x.Start+x.Len, 1))
			gives(t, p, x)
			free(t, "a pool to which all is given back", p, []api.Extent{x})
		}
	}
}

// P15.1: of numbers that are no extent that may be there is no pool, whatever is used.
func TestNewWrong(t *testing.T) {
	for _, x := range wrongs() {
		for range 2 {
			if p, e := New(x.Start, x.Len); e != api.ErrArg || p != nil {
				t.Fatalf("New(%d, %d) is %v, %d", x.Start, x.Len, p, e)
			}
		}
		for _, used := range [][]api.Extent{nil, {}, {x}, of(0, 1), of(1, 1), of(-1, 1), of(top-1, 1), of(top, 1), of(1, 1, 0, 1), of(1, 2, 2, 1)} {
			noOf(t, x.Start, x.Len, used)
		}
	}
}

// P15.1: used sectors in any order, that touch, that are at either end, all or none.
func TestOf(t *testing.T) {
	for _, c := range []struct {
		start, n   int
		used, want []api.Extent
	}{
		{4, 10, nil, of(4, 10)},
		{4, 10, []api.Extent{}, of(4, 10)},
		{4, 10, of(4, 1), of(5, 9)},
		{4, 10, of(13, 1), of(4, 9)},
		{4, 10, of(4, 1, 13, 1), of(5, 8)},
		{4, 10, of(13, 1, 4, 1), of(5, 8)},
		{4, 10, of(8, 1), of(4, 4, 9, 5)},
		{4, 10, of(9, 2, 5, 1), of(4, 1, 6, 3, 11, 3)},
		{4, 10, of(5, 1, 9, 2), of(4, 1, 6, 3, 11, 3)},
		{4, 10, of(5, 2, 7, 2), of(4, 1, 9, 5)},
		{4, 10, of(7, 2, 5, 2), of(4, 1, 9, 5)},
		{4, 10, of(9, 1, 7, 1, 5, 1, 8, 1, 6, 1), of(4, 1, 10, 4)},
		{4, 10, of(5, 1, 7, 1, 9, 1, 11, 1, 13, 1), of(4, 1, 6, 1, 8, 1, 10, 1, 12, 1)},
		{4, 10, of(12, 1, 4, 1, 8, 1, 10, 1, 6, 1), of(5, 1, 7, 1, 9, 1, 11, 1, 13, 1)},
		{4, 10, of(4, 10), nil},
		{4, 10, of(4, 5, 9, 5), nil},
		{4, 10, of(9, 5, 4, 5), nil},
		{4, 10, of(4, 9), of(13, 1)},
		{4, 10, of(5, 9), of(4, 1)},
		{0, 1, of(0, 1), nil},
		{0, top, of(0, top), nil},
		{0, top, of(top-1, 1, 0, 1), of(1, top-2)},
		{0, top, of(1, top-1), of(0, 1)},
		{0, top, of(top/2, top/2), of(0, top/2)},
		{top - 1, 1, of(top-1, 1), nil},
		{top - 3, 3, of(top-1, 1), of(top-3, 2)},
	} {
		p := part(t, c.start, c.n, c.used...)
		free(t, "a pool without some", p, c.want)
		left := 0
		for _, x := range c.want {
			left += x.Len
		}
		noTake(t, p, left+1, api.ErrFull)
		gives(t, p, c.used...)
		free(t, "a pool to which what was used is given", p, of(c.start, c.n))
	}
}

// P15.1: used sectors that aren't the pool's, at either end, wholly or in part, beside others that are.
func TestOfWhatIsNotThePools(t *testing.T) {
	for _, used := range [][]api.Extent{
		of(3, 1), of(14, 1), of(3, 2), of(13, 2), of(0, 4), of(0, 5), of(14, 9), of(3, 12), of(3, 11), of(4, 11), of(0, top), of(0, 1), of(top-1, 1), of(4, top-4),
		of(6, 2, 3, 1), of(3, 1, 6, 2), of(6, 2, 14, 1), of(14, 1, 6, 2), of(4, 10, 14, 1), of(4, 10, 3, 1), of(14, 1, 4, 10), of(3, 1, 14, 1), of(9, 5, 14, 2, 4, 1), of(4, 1, 2, 2, 13, 1),
	} {
		noOf(t, 4, 10, used)
		p := whole(t, 4, 10)
		takes(t, p, 10, of(4, 10))
		noGive(t, p, used)
	}
	noOf(t, 0, 1, of(1, 1))
	noOf(t, 0, top-1, of(top-1, 1))
	noOf(t, 1, top-1, of(0, 1))
	noOf(t, top-1, 1, of(top-2, 1))
	noOf(t, top-1, 1, of(top-2, 2))
}

// overlapping is what is no chain for the pool of 10 from 4 on, though each extent lies in it.
func overlapping() [][]api.Extent {
	return [][]api.Extent{
		of(4, 1, 4, 1), of(4, 10, 4, 10), of(4, 10, 13, 1), of(4, 10, 4, 1), of(4, 2, 5, 1), of(5, 1, 4, 2), of(4, 3, 5, 1), of(5, 1, 4, 3), of(5, 3, 7, 2),
		of(4, 1, 8, 1, 4, 1), of(4, 1, 6, 1, 8, 1, 6, 1), of(8, 1, 4, 6, 12, 1), of(12, 1, 10, 1, 4, 7), of(4, 1, 5, 1, 6, 1, 5, 1), of(6, 1, 6, 1, 6, 1), of(13, 1, 4, 1, 13, 1),
	}
}

// P15.1, P15.2: used sectors, or ones given back, that are no chain: that overlap, or of which one may not be, in each place.
func TestNoChain(t *testing.T) {
	lists := overlapping()
	for _, x := range wrongs() {
		lists = append(lists, []api.Extent{x}, []api.Extent{x, x})
		for place := range 4 {
			lists = append(lists, slices.Insert(of(10, 1, 6, 2, 4, 1), place, x))
		}
	}
	for _, l := range lists {
		noOf(t, 4, 10, l)
		for n := range 11 {
			p := whole(t, 4, 10)
			if n > 0 {
				takes(t, p, n, of(4, n))
			}
			noGive(t, p, l)
		}
	}
}

// P15.2: below 1 nothing is taken, be it that all, some or nothing is free.
func TestTakeBelow(t *testing.T) {
	for _, n := range below() {
		for _, p := range []*Pool{whole(t, 0, 1), whole(t, 0, top), part(t, 4, 10, of(5, 2)...), part(t, 4, 10, of(4, 10)...)} {
			noTake(t, p, n, api.ErrArg)
		}
	}
}

// P15.2: of more than is free nothing is taken; of as many as are free all.
func TestTakeAll(t *testing.T) {
	for _, c := range []struct {
		used []api.Extent
		left int
		want []api.Extent
	}{
		{nil, 10, of(4, 10)},
		{of(4, 1), 9, of(5, 9)},
		{of(5, 1, 9, 2), 7, of(4, 1, 6, 3, 11, 3)},
		{of(4, 9), 1, of(13, 1)},
		{of(4, 1, 6, 1, 8, 1, 10, 1, 12, 1), 5, of(5, 1, 7, 1, 9, 1, 11, 1, 13, 1)},
	} {
		p := part(t, 4, 10, c.used...)
		for _, n := range append(far(), c.left+1, c.left+2, 11) {
			noTake(t, p, n, api.ErrFull)
		}
		takes(t, p, c.left, c.want)
		free(t, "behind all", p, nil)
		for _, n := range append(far(), 1, 2) {
			noTake(t, p, n, api.ErrFull)
		}
	}
	p := part(t, 4, 10, of(4, 10)...)
	noTake(t, p, 1, api.ErrFull)
}

// P15.2: within one extent, up to its end, across gaps, and into the one behind: the first ones, from the least on.
func TestTakeAcrossGaps(t *testing.T) {
	for _, c := range []struct {
		n          int
		want, rest []api.Extent
	}{
		{1, of(4, 1), of(5, 2, 9, 1, 12, 5)},
		{2, of(4, 2), of(6, 1, 9, 1, 12, 5)},
		{3, of(4, 3), of(9, 1, 12, 5)},
		{4, of(4, 3, 9, 1), of(12, 5)},
		{5, of(4, 3, 9, 1, 12, 1), of(13, 4)},
		{8, of(4, 3, 9, 1, 12, 4), of(16, 1)},
		{9, of(4, 3, 9, 1, 12, 5), nil},
	} {
		p := part(t, 2, 16, of(17, 1, 2, 2, 10, 2, 7, 2)...)
		takes(t, p, c.n, c.want)
		free(t, "behind the first ones", p, c.rest)
		if left := 9 - c.n; left > 0 {
			takes(t, p, left, c.rest)
		}
		noTake(t, p, 1, api.ErrFull)
	}
}

// P15.2: sectors that are given back are the first ones again, if they are the least; what touches comes as one extent.
func TestTakeWhatWasGivenBack(t *testing.T) {
	p := whole(t, 10, 20)
	takes(t, p, 4, of(10, 4))
	takes(t, p, 4, of(14, 4))
	takes(t, p, 4, of(18, 4))
	gives(t, p, of(14, 4)...)
	free(t, "one between", p, of(14, 4, 22, 8))
	takes(t, p, 6, of(14, 4, 22, 2))
	gives(t, p, of(22, 1, 12, 2)...)
	free(t, "in parts", p, of(12, 2, 22, 1, 24, 6))
	takes(t, p, 1, of(12, 1))
	gives(t, p, of(23, 1)...)
	free(t, "what lay between", p, of(13, 1, 22, 8))
	gives(t, p, of(21, 1, 12, 1, 10, 2)...)
	free(t, "what touches", p, of(10, 4, 21, 9))
	takes(t, p, 5, of(10, 4, 21, 1))
	gives(t, p, of(18, 4, 10, 8)...)
	free(t, "all", p, of(10, 20))
}

// P15.2: what was taken is given back in whole and in parts, in any order, more of it at a time than was taken.
func TestGive(t *testing.T) {
	for _, c := range []struct {
		back, want []api.Extent
	}{
		{of(10, 5), of(10, 5)},
		{of(10, 1), of(10, 1)},
		{of(14, 1), of(14, 1)},
		{of(12, 1), of(12, 1)},
		{of(10, 2, 12, 3), of(10, 5)},
		{of(12, 3, 10, 2), of(10, 5)},
		{of(14, 1, 10, 1), of(10, 1, 14, 1)},
		{of(14, 1, 12, 1, 10, 1), of(10, 1, 12, 1, 14, 1)},
		{of(13, 1, 11, 1, 12, 1, 10, 1, 14, 1), of(10, 5)},
		{of(14, 1, 13, 1, 12, 1, 11, 1), of(11, 4)},
	} {
		for _, steps := range [][]int{{5}, {1, 1, 1, 1, 1}, {2, 3}, {4, 1}} {
			p := whole(t, 10, 5)
			next := 10
			for _, n := range steps {
				takes(t, p, n, of(next, n))
				next += n
			}
			gives(t, p, c.back...)
			free(t, "what is given back", p, c.want)
			noGive(t, p, c.back)
			noGive(t, p, c.back[:1])
		}
		p := whole(t, 10, 5)
		takes(t, p, 5, of(10, 5))
		for i, x := range c.back {
			gives(t, p, x)
			noGive(t, p, c.back[i:i+1])
		}
		free(t, "what is given back one by one", p, c.want)
	}
}

// P15.2: what is free, wholly or in part, is not given back, whatever else is beside it.
func TestGiveWhatIsFree(t *testing.T) {
	p := part(t, 10, 10, of(12, 3, 17, 2)...)
	for _, l := range [][]api.Extent{
		of(10, 1), of(11, 1), of(10, 2), of(15, 1), of(15, 2), of(16, 1), of(19, 1),
		of(11, 2), of(11, 4), of(14, 2), of(12, 4), of(16, 2), of(16, 3), of(18, 2), of(12, 7), of(10, 10), of(10, 3), of(17, 3),
		of(12, 3, 15, 1), of(15, 1, 12, 3), of(12, 3, 10, 1), of(17, 2, 12, 3, 16, 1), of(19, 1, 17, 2), of(12, 1, 18, 2), of(12, 1, 11, 1),
	} {
		noGive(t, p, l)
	}
	gives(t, p, of(17, 2, 12, 3)...)
	free(t, "all", p, of(10, 10))
	for sector := 10; sector < 20; sector++ {
		noGive(t, p, of(sector, 1))
	}
	noGive(t, p, of(10, 10))
}

// P15.2: what isn't the pool's is not given back, though it touch, or be beside what is out.
func TestGiveWhatIsNotThePools(t *testing.T) {
	for _, start := range []int{1, 10, top - 12} {
		for _, used := range [][]api.Extent{nil, of(start, 10), of(start, 1), of(start+9, 1), of(start+4, 2)} {
			p := part(t, start, 10, used...)
			for _, x := range of(start-1, 1, start+10, 1, start-1, 2, start+9, 2, start-1, 12, start, 11, start-1, 11, start+11, 1, 0, 1, 0, top, top-1, 1) {
				noGive(t, p, []api.Extent{x})
				for place := range len(used) + 1 {
					noGive(t, p, slices.Insert(slices.Clone(used), place, x))
				}
			}
		}
	}
}

// P15.2: nothing is a chain of no sectors: none is given back, and that is right.
func TestGiveNothing(t *testing.T) {
	for _, used := range [][]api.Extent{nil, of(4, 10), of(6, 2)} {
		p := part(t, 4, 10, used...)
		before := p.List()
		for _, nothing := range [][]api.Extent{nil, {}, of(4, 1)[:0]} {
			gives(t, p, nothing...)
			if e := p.Give(nothing); e != api.OK {
				t.Fatalf("Give(%v): %d", nothing, e)
			}
			free(t, "behind nothing", p, before)
		}
	}
}

// P15.2: of a pool that is none: ErrNil, 0, nothing; and it stays none.
func TestNone(t *testing.T) {
	for _, p := range nones() {
		for range 2 {
			for _, n := range slices.Concat(below(), far(), []int{1, 2, 10}) {
				if l, e := p.Take(n); e != api.ErrNil || l != nil {
					t.Fatalf("Take(%d) is %v, %d", n, l, e)
				}
			}
			for _, l := range append(overlapping(), nil, of(0, 1), of(0, top), of(-1, 1), of(0, 0), []api.Extent{}) {
				if e := p.Give(l); e != api.ErrNil {
					t.Fatalf("Give(%v): %d", l, e)
				}
			}
			if p.Free() != 0 || p.List() != nil {
				t.Fatalf("%d free: %v", p.Free(), p.List())
			}
		}
	}
}

// small is all lists of at most most extents about the first few sectors, those that may not be among them.
func small(first, most int) [][]api.Extent {
	all := [][]api.Extent{nil}
	longest := all
	for range most {
		var longer [][]api.Extent
		for _, l := range longest {
			for start := first - 1; start <= first+5; start++ {
				for length := range 4 {
					longer = append(longer, append(slices.Clone(l), api.Extent{Start: start, Len: length}))
				}
			}
		}
		longest = longer
		all = append(all, longer...)
	}
	return all
}

// P15.1: all small lists of used sectors, of all small pools at both ends, are as the words say.
func TestAllSmallUsed(t *testing.T) {
	for _, first := range []int{0, top - 5} {
		for _, used := range small(first, 3) {
			for _, own := range of(first, 5, first+1, 3, first+1, 4, first, 2, first+4, 1) {
				model := plainOf(own.Start, own.Len)
				if model.turn(used, true) != api.OK {
					noOf(t, own.Start, own.Len, used)
					continue
				}
				as(t, part(t, own.Start, own.Len, used...), model)
			}
		}
	}
}

// setOf is the set of those sectors from first on that the bits say, the lowest bit first.
func setOf(first int, bits uint) []api.Extent {
	var l []int
	for i := 0; bits>>i != 0; i++ {
		if bits>>i&1 == 1 {
			l = append(l, first+i)
		}
	}
	return joined(l)
}

// P15.2: whatever is out of a pool of five, each number is taken, and each small list given, as the words say.
func TestAllSmallCalls(t *testing.T) {
	for _, first := range []int{0, 3, top - 5} {
		lists := small(first, 2)
		for bits := range uint(32) {
			used := setOf(first, bits)
			for n := -1; n < 8; n++ {
				p, model := part(t, first, 5, used...), plainOf(first, 5)
				model.turn(used, true)
				want, e := model.take(n)
				if e != api.OK {
					noTake(t, p, n, e)
				} else {
					takes(t, p, n, want)
				}
				as(t, p, model)
			}
			for _, l := range lists {
				p, model := part(t, first, 5, used...), plainOf(first, 5)
				model.turn(used, true)
				if model.turn(l, false) != api.OK {
					noGive(t, p, l)
				} else {
					gives(t, p, l...)
				}
				as(t, p, model)
			}
		}
	}
}

// P15.2, P15.3: long rows of drawn calls, right and wrong ones, are answered as the words say.
func TestAsTheWordsSay(t *testing.T) {
	r := rand.New(rand.NewSource(15))
	for _, own := range of(0, 12, 7, 30, top-20, 20, 1, 1) {
		p, model := whole(t, own.Start, own.Len), plainOf(own.Start, own.Len)
		for range 3000 {
			if r.Intn(3) == 0 {
				n := r.Intn(own.Len/3+3) - 1
				want, e := model.take(n)
				if e != api.OK {
					noTake(t, p, n, e)
				} else {
					takes(t, p, n, want)
				}
			} else {
				l := drawn(r, own)
				if e := model.turn(l, false); e != api.OK {
					noGive(t, p, l)
				} else {
					gives(t, p, l...)
				}
			}
			as(t, p, model)
		}
	}
}

// drawn is up to three drawn extents in a part and a little about it.
func drawn(r *rand.Rand, own api.Extent) []api.Extent {
	var l []api.Extent
	for range r.Intn(4) {
		l = append(l, api.Extent{Start: own.Start - 1 + r.Intn(own.Len+2), Len: r.Intn(4)})
	}
	return l
}

// holders is chains that were taken, of a part of so many sectors, and whose each sector is: 0 is the pool.
type holders struct {
	own   api.Extent
	held  map[int][]api.Extent
	whose []int
	last  int
}

// have notes that a new holder has a chain of n sectors, rising, each of which must have been the pool's.
func (h *holders) have(t *testing.T, l []api.Extent, n int) {
	t.Helper()
	h.last++
	h.held[h.last] = l
	next := 0
	for _, x := range l {
		if x.Start < next {
			t.Fatalf("%v does not rise", l)
		}
		next = x.Start + x.Len
		for i := range x.Len {
			place := x.Start + i - h.own.Start
			if h.whose[place] != 0 {
				t.Fatalf("the sector %d is given out twice", x.Start+i)
			}
			h.whose[place] = h.last
			n--
		}
	}
	if n != 0 {
		t.Fatalf("%v has %d sectors too few", l, n)
	}
}

// back notes that a chain is the pool's again.
func (h *holders) back(l []api.Extent) {
	for _, x := range l {
		for i := range x.Len {
			h.whose[x.Start+i-h.own.Start] = 0
		}
	}
}

// all asks that what is free and what is out are all.
func (h *holders) all(t *testing.T, p *Pool) {
	t.Helper()
	var rising []int
	for place, who := range h.whose {
		if who == 0 {
			rising = append(rising, h.own.Start+place)
		}
	}
	free(t, "in a long row", p, joined(rising))
}

// P15.3: in long rows of takes and gives no sector is given out twice, and what is free and what is out are always all.
func TestLongRows(t *testing.T) {
	r := rand.New(rand.NewSource(153))
	for _, own := range of(0, 1, 0, 40, 100, 256, top-300, 300) {
		p := whole(t, own.Start, own.Len)
		h := &holders{own: own, held: map[int][]api.Extent{}, whose: make([]int, own.Len)}
		for range 4000 {
			if n := 1 + r.Intn(1+own.Len/8); r.Intn(5) > 1 {
				if l, e := p.Take(n); e == api.OK {
					h.have(t, l, n)
				} else if e != api.ErrFull || p.Free() >= n {
					t.Fatalf("Take(%d) of %d: %d", n, p.Free(), e)
				}
			} else if h.last > 0 {
				who := 1 + r.Intn(h.last)
				back := h.held[who]
				if half := len(back) / 2; r.Intn(2) == 0 {
					back = back[half:]
				}
				h.held[who] = h.held[who][:len(h.held[who])-len(back)]
				gives(t, p, back...)
				h.back(back)
			}
			h.all(t, p)
		}
		for who := range h.last {
			gives(t, p, h.held[who+1]...)
		}
		free(t, "behind the row", p, []api.Extent{own})
	}
}

// P15.2: a call that fails is as if it hadn't been, in a row of such as go.
func TestFailuresBetween(t *testing.T) {
	plainly, disturbed := part(t, 4, 30, of(9, 2)...), part(t, 4, 30, of(9, 2)...)
	disturb := func() {
		for _, n := range append(append(far(), below()...), 31) {
			disturbed.Take(n)
		}
		for _, l := range append(overlapping(), of(3, 1), of(34, 1), of(33, 2), disturbed.List(), of(4, 30, 1, 1)) {
			if len(l) > 0 && disturbed.Give(l) != api.ErrArg {
				t.Fatalf("Give(%v) goes", l)
			}
		}
	}
	for i := range 8 {
		disturb()
		want, e := plainly.Take(i%3 + 1)
		if e != api.OK {
			t.Fatal(e)
		}
		takes(t, disturbed, i%3+1, want)
		disturb()
		if i%2 == 0 {
			gives(t, plainly, want...)
			gives(t, disturbed, want...)
		}
		free(t, "with failures between", disturbed, plainly.List())
	}
}

// What is handed in stays as it is, and so does what stands behind its end, whether it is right or wrong.
func TestNothingIsChanged(t *testing.T) {
	for _, l := range append(overlapping(), of(12, 1, 10, 1, 4, 2), of(9, 1, 8, 1, 7, 1), of(4, 10), of(5, 2, -1, 3), of(20, 1, 4, 1), of(6, 1, 4, 1)) {
		mine := append(slices.Clone(l), of(7, 7, 3, 3)...)
		want := slices.Clone(mine)
		Of(4, 10, mine[:len(l)])
		Of(40, 1, mine[:len(l)])
		for _, p := range []*Pool{whole(t, 4, 10), part(t, 4, 10, of(4, 10)...), nil} {
			p.Give(mine[:len(l)])
		}
		if !slices.Equal(mine, want) {
			t.Fatalf("%v was changed: %v", want, mine)
		}
	}
}

// spoil turns all of an answer's extents, those behind its end, too.
func spoil(l []api.Extent) {
	l = l[:cap(l)]
	for i := range l {
		l[i] = api.Extent{Start: -7, Len: -7}
	}
}

// What is done to extents once they were handed in changes no pool.
func TestNothingHandedInIsKept(t *testing.T) {
	for _, l := range [][]api.Extent{of(4, 10), of(5, 1), of(12, 1, 4, 1), of(5, 1, 7, 1, 9, 1), of(6, 2, 8, 1, 4, 2)} {
		used := slices.Clone(l)
		p := part(t, 4, 10, used...)
		before := p.List()
		spoil(used)
		free(t, "behind Of", p, before)
		back := slices.Clone(l)
		gives(t, p, back...)
		spoil(back)
		free(t, "behind Give", p, of(4, 10))
		takes(t, p, 10, of(4, 10))
		back = slices.Clone(l)
		gives(t, p, back...)
		before = p.List()
		spoil(back)
		free(t, "behind Give to none free", p, before)
	}
}

// What is done to an answer, behind its end, too, changes neither the pool nor another answer.
func TestAnswersAreNew(t *testing.T) {
	p := part(t, 4, 40, of(6, 1, 9, 1, 12, 3, 20, 5, 30, 1)...)
	for n := 1; p.Free() > n; n++ {
		before := p.List()
		spoil(p.List())
		free(t, "behind a spoilt list", p, before)
		first, e := p.Take(n)
		if e != api.OK {
			t.Fatal(e)
		}
		want, list := slices.Clone(first), p.List()
		other := p.List()
		spoil(other)
		if !slices.Equal(first, want) {
			t.Fatalf("what was taken is %v, not %v", first, want)
		}
		spoil(first)
		free(t, "behind what was taken, spoilt", p, list)
		gives(t, p, want[len(want)-1])
	}
}

// Behind an answer's end stands nothing.
func TestNothingBehind(t *testing.T) {
	p := part(t, 0, 60, of(6, 1, 9, 1, 12, 3, 20, 5, 30, 1, 33, 1, 36, 1, 39, 1, 42, 1)...)
	answers := [][]api.Extent{p.List()}
	for n := range 7 {
		l, e := p.Take(n + 1)
		if e != api.OK {
			t.Fatal(e)
		}
		answers = append(answers, l, p.List())
	}
	for _, l := range answers {
		for _, x := range l[len(l):cap(l)] {
			if x != (api.Extent{}) {
				t.Errorf("behind %v stands %v", l, x)
			}
		}
	}
}

// Two pools of the same sectors know nothing of each other, nor does one that was copied as a value.
func TestTwoPools(t *testing.T) {
	a, b := whole(t, 4, 10), whole(t, 4, 10)
	takes(t, a, 3, of(4, 3))
	c := *a
	takes(t, a, 2, of(7, 2))
	takes(t, &c, 1, of(7, 1))
	gives(t, a, of(4, 1)...)
	gives(t, &c, of(5, 2)...)
	free(t, "one", a, of(4, 1, 9, 5))
	free(t, "the other one", b, of(4, 10))
	free(t, "the copy", &c, of(5, 2, 8, 6))
}

// The same again is the same, however much room is behind what is handed in.
func TestSameAgain(t *testing.T) {
	for _, room := range []int{0, 1, 2, 3, 50} {
		used := slices.Grow(of(12, 1, 6, 2, 4, 1), room)
		p, e := Of(4, 10, used)
		if e != api.OK {
			t.Fatal(e)
		}
		for range 3 {
			takes(t, p, 3, of(5, 1, 8, 2))
			noTake(t, p, 4, api.ErrFull)
			if e := p.Give(slices.Grow(of(9, 1, 5, 1, 8, 1), room)); e != api.OK {
				t.Fatal(e)
			}
			free(t, "again", p, of(5, 1, 8, 4, 13, 1))
		}
	}
}

// As many extents as there may be are used, taken and given back in a moment, in whatever order they stand.
func TestManyExtents(t *testing.T) {
	even := make([]api.Extent, top/2)
	odd := slices.Clone(even)
	for i := range even {
		even[i] = api.Extent{Start: 2 * i, Len: 1}
		odd[i] = api.Extent{Start: 2*i + 1, Len: 1}
	}
	mixed := slices.Clone(odd)
	rand.New(rand.NewSource(1)).Shuffle(len(mixed), func(i, j int) { mixed[i], mixed[j] = mixed[j], mixed[i] })
	p := part(t, 0, top, mixed...)
	if p.Free() != top/2 || !slices.Equal(p.List(), even) {
		t.Fatal("a pool of every other sector")
	}
	noTake(t, p, top/2+1, api.ErrFull)
	takes(t, p, top/4, even[:top/4])
	gives(t, p, mixed...)
	if p.Free() != 3*top/4 || p.Give(mixed) != api.ErrArg {
		t.Fatal("what was given back")
	}
	slices.Reverse(even)
	if p.Give(even) != api.ErrArg {
		t.Fatal("half of it is free")
	}
	gives(t, p, even[top/4:]...)
	free(t, "all", p, of(0, top))
	takes(t, p, top, of(0, top))
	gives(t, p, slices.Concat(even, mixed)...)
	free(t, "all again", p, of(0, top))
}

// Sector by sector is taken and given back.
func TestManyCalls(t *testing.T) {
	p := whole(t, 0, top)
	for i := range 1 << 15 {
		takes(t, p, 1, of(i, 1))
	}
	free(t, "behind many takes", p, of(1<<15, top-1<<15))
	for i := range 1 << 15 {
		gives(t, p, of(1<<15-1-i, 1)...)
	}
	free(t, "behind many gives", p, of(0, top))
}

// A pool has the chapter's methods, and nothing else to be seen.
func TestFace(t *testing.T) {
	kind := reflect.TypeFor[*Pool]()
	want := []string{"Free", "Give", "List", "Take"}
	var got []string
	for i := range kind.NumMethod() {
		got = append(got, kind.Method(i).Name)
	}
	if !slices.Equal(got, want) {
		t.Errorf("methods: %v", got)
	}
	for _, f := range reflect.VisibleFields(kind.Elem()) {
		if f.IsExported() {
			t.Errorf("%s is to be seen", f.Name)
		}
	}
}

// The chapter's example: New(10, 5), Take(2): 10 and 11.
func TestExample(t *testing.T) {
	p := whole(t, 10, 5)
	takes(t, p, 2, of(10, 2))
	free(t, "the example", p, of(12, 3))
}

func BenchmarkTakeAndGive(b *testing.B) {
	p := part(b, 0, 1<<12, setOf(0, 0x555555555555)...)
	for b.Loop() {
		l, _ := p.Take(30)
		p.Give(l)
	}
}
