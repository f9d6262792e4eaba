package extent

import (
	"math"
	"math/big"
	"math/rand"
	"slices"
	"testing"

	"chatelaine/api"
)

const top = api.MaxSectors

// of is extents, by pairs of a Start and a Len.
func of(numbers ...int) []api.Extent {
	var l []api.Extent
	for pair := range slices.Chunk(numbers, 2) {
		l = append(l, api.Extent{Start: pair[0], Len: pair[1]})
	}
	return l
}

// sums is numbers' sum, though it leave the range of int.
func sums(a, b int) *big.Int {
	return new(big.Int).Add(big.NewInt(int64(a)), big.NewInt(int64(b)))
}

// may is whether an extent may be, as the words say it.
func may(x api.Extent) bool {
	return x.Start >= 0 && x.Len >= 1 && sums(x.Start, x.Len).Cmp(big.NewInt(top)) <= 0
}

// pairs is whether all extents may be, and all pairs of them, the one ahead first, are as asked.
func pairs(l []api.Extent, ask func(a, b api.Extent) bool) bool {
	for i, x := range l {
		if !may(x) {
			return false
		}
		for _, ahead := range l[:i] {
			if !ask(ahead, x) {
				return false
			}
		}
	}
	return true
}

// isSet is whether extents are a set, as the words say it: rising, and no two touch or overlap.
func isSet(l []api.Extent) bool {
	return pairs(l, func(a, b api.Extent) bool {
		return a.Start < b.Start && (a.Start+a.Len < b.Start || b.Start+b.Len < a.Start)
	})
}

// isChain is whether extents are a chain, as the words say it: no two overlap.
func isChain(l []api.Extent) bool {
	return pairs(l, func(a, b api.Extent) bool {
		return a.Start+a.Len <= b.Start || b.Start+b.Len <= a.Start
	})
}

// sectors is extents' sectors, in order.
func sectors(l []api.Extent) []int {
	var out []int
	for _, x := range l {
		for i := range x.Len {
			out = append(out, x.Start+i)
		}
	}
	return out
}

// setOf is the set of those sectors from first on that the bits say, the lowest bit first.
func setOf(first int, bits uint) []api.Extent {
	var l []api.Extent
	for i := 0; bits>>i != 0; i++ {
		switch {
		case bits>>i&1 == 0:
		case i > 0 && bits>>(i-1)&1 == 1:
			l[len(l)-1].Len++
		default:
			l = append(l, api.Extent{Start: first + i, Len: 1})
		}
	}
	return l
}

// wrongs is extents that may not be, at each edge and far beyond; of some the numbers' sum overflows, or is what may be.
func wrongs() []api.Extent {
	return of(
		-1, 1, -1, 2, -1, 5, -2, 3, 0, 0, 1, 0, 3, 0, 5, 0, 0, -1, 1, -1, 3, -2, 7, -4, -1, 0, -1, -1,
		0, top+1, 1, top, 2, top-1, top-1, 2, top, 1, top, 0, top+1, 0, top+1, 1, top+1, -1, top+1, -2, top+5, -5, 1, 2*top,
		0, math.MaxInt, 1, math.MaxInt, 2, math.MaxInt, math.MaxInt, 1, math.MaxInt, 2, math.MaxInt, math.MaxInt, math.MaxInt-1, 3,
		math.MaxInt, 0, math.MaxInt, -1, math.MaxInt, math.MinInt, math.MinInt, math.MaxInt, math.MinInt, math.MinInt, math.MinInt, 1,
		math.MinInt, -1, math.MinInt, 0, 0, math.MinInt, 1, math.MinInt, -1, math.MinInt, -1, math.MaxInt, math.MinInt+1, math.MaxInt,
		1<<32, 1, 1<<32, -1<<32+2, 0, 1<<32+1, 1, 1<<32, -1<<32, 1<<32+1, 1<<62, 1<<62, 1<<62, -1<<62+1, 1<<20-1, 1<<63-1<<20+1, 1<<20-1, 1<<62,
	)
}

// rights is extents that may be, at each edge and between.
func rights() []api.Extent {
	return of(0, 1, 0, 2, 1, 1, 7, 9, 0, top, 0, top-1, 1, top-1, 2, top-2, top-1, 1, top-2, 1, top-2, 2, top/2, top/2, 1000, 255, 255, 1, 256, 256)
}

// small is all lists of at most most extents about the first few sectors, or the last ones, those that may not be among them.
func small(first, most int) [][]api.Extent {
	all := [][]api.Extent{nil}
	longest := all
	for range most {
		var longer [][]api.Extent
		for _, l := range longest {
			for start := first - 1; start <= first+4; start++ {
				for length := range 4 {
					longer = append(longer, append(slices.Clone(l), api.Extent{Start: start, Len: length}))
				}
			}
		}
		longest = longer
		all = append(all, longer...)
	}
	return all
}

// smalls is small lists at both ends of what sectors there are.
func smalls(most int) [][]api.Extent { return append(small(0, most), small(top-4, most)...) }

// far is places and sectors at the edges of int.
func far() []int {
	return []int{math.MinInt, math.MinInt + 1, -1 << 62, -1<<32 + 1, -1 << 32, -1 << 31, -top, -256, -2, -1, top - 1, top, top + 1, 1 << 31, 1 << 32, 1<<32 + 1, 1 << 62, math.MaxInt - 1, math.MaxInt}
}

// told asks what extents are told to be.
func told(t *testing.T, l []api.Extent, set, chain bool) {
	t.Helper()
	for range 2 {
		if got := Right(l); got != set {
			t.Fatalf("Right(%v) is %v", l, got)
		}
		if got := Chain(l); got != chain {
			t.Fatalf("Chain(%v) is %v", l, got)
		}
	}
}

// totals asks how many sectors a chain has.
func totals(t *testing.T, l []api.Extent, want int) {
	t.Helper()
	if got := Total(l); got != want {
		t.Fatalf("Total(%v) is %d, not %d", l, got, want)
	}
}

// has asks whether a sector is one of some.
func has(t *testing.T, l []api.Extent, sector int, want bool) {
	t.Helper()
	if got := Has(l, sector); got != want {
		t.Fatalf("Has(%v, %d) is %v", l, sector, got)
	}
}

// joined is sets, joined, which must go, to a set.
func joined(t *testing.T, a, b []api.Extent) []api.Extent {
	t.Helper()
	l, ok := Join(a, b)
	if !ok || !isSet(l) {
		t.Fatalf("Join(%v, %v) is %v, %v", a, b, l, ok)
	}
	return l
}

// joins asks what sets are joined, in both orders.
func joins(t *testing.T, a, b, want []api.Extent) {
	t.Helper()
	for _, l := range [][]api.Extent{joined(t, a, b), joined(t, b, a)} {
		if !slices.Equal(l, want) {
			t.Fatalf("Join(%v, %v) is %v, not %v", a, b, l, want)
		}
	}
}

// noJoin asks that extents aren't joined, in neither order.
func noJoin(t *testing.T, a, b []api.Extent) {
	t.Helper()
	for range 2 {
		if l, ok := Join(a, b); ok || l != nil {
			t.Fatalf("Join(%v, %v) is %v, %v", a, b, l, ok)
		}
		a, b = b, a
	}
}

// less is a set less another one, which must go, to a set.
func less(t *testing.T, a, b []api.Extent) []api.Extent {
	t.Helper()
	l, ok := Less(a, b)
	if !ok || !isSet(l) {
		t.Fatalf("Less(%v, %v) is %v, %v", a, b, l, ok)
	}
	return l
}

// leaves asks what a set is less another one.
func leaves(t *testing.T, a, b, want []api.Extent) {
	t.Helper()
	if l := less(t, a, b); !slices.Equal(l, want) {
		t.Fatalf("Less(%v, %v) is %v, not %v", a, b, l, want)
	}
}

// noLess asks that extents aren't taken away.
func noLess(t *testing.T, a, b []api.Extent) {
	t.Helper()
	if l, ok := Less(a, b); ok || l != nil {
		t.Fatalf("Less(%v, %v) is %v, %v", a, b, l, ok)
	}
}

// stands asks for a chain's sector.
func stands(t *testing.T, l []api.Extent, n, want int) {
	t.Helper()
	if got, ok := At(l, n); !ok || got != want {
		t.Fatalf("At(%v, %d) is %d, %v, not %d", l, n, got, ok, want)
	}
}

// noAt asks that there is no such sector.
func noAt(t *testing.T, l []api.Extent, n int) {
	t.Helper()
	if got, ok := At(l, n); ok || got != 0 {
		t.Fatalf("At(%v, %d) is %d, %v", l, n, got, ok)
	}
}

// cuts asks for a chain's parts.
func cuts(t *testing.T, l []api.Extent, n int, head, tail []api.Extent) {
	t.Helper()
	h, b, ok := Cut(l, n)
	if !ok || !slices.Equal(h, head) || !slices.Equal(b, tail) {
		t.Fatalf("Cut(%v, %d) is %v and %v, %v, not %v and %v", l, n, h, b, ok, head, tail)
	}
}

// noCut asks that extents aren't cut.
func noCut(t *testing.T, l []api.Extent, n int) {
	t.Helper()
	if h, b, ok := Cut(l, n); ok || h != nil || b != nil {
		t.Fatalf("Cut(%v, %d) is %v and %v, %v", l, n, h, b, ok)
	}
}

// P14.1: one extent that may be is a set and a chain, of its sectors.
func TestOneThatMayBe(t *testing.T) {
	for _, x := range rights() {
		l := []api.Extent{x}
		told(t, l, true, true)
		totals(t, l, x.Len)
		for _, sector := range []int{x.Start, x.Start + x.Len/2, x.Start + x.Len - 1} {
			has(t, l, sector, true)
		}
		for _, sector := range append(far(), x.Start-1, x.Start+x.Len) {
			has(t, l, sector, sector >= x.Start && sector < x.Start+x.Len)
		}
	}
}

// P14.1: one extent that may not be is neither set nor chain, and has no sector, alone and among others, in each place.
func TestOneThatMayNotBe(t *testing.T) {
	for _, x := range wrongs() {
		l := []api.Extent{x}
		told(t, l, false, false)
		totals(t, l, 0)
		for _, sector := range append(far(), 0, 1, 2, 3, 100, x.Start, x.Start+1, x.Start-1, x.Start+x.Len, x.Start+x.Len-1) {
			has(t, l, sector, false)
		}
		for place := range 3 {
			among := slices.Insert(of(100, 1, 200, 5), place, x)
			told(t, among, false, false)
			totals(t, among, 0)
		}
	}
}

// P14.1: no extents are a set and a chain, of no sectors.
func TestNoExtents(t *testing.T) {
	for _, l := range [][]api.Extent{nil, {}, of(0, 1, 5, 1)[:0]} {
		told(t, l, true, true)
		totals(t, l, 0)
		for _, sector := range append(far(), 0, 1, 5) {
			has(t, l, sector, false)
		}
	}
}

// P14.1: two extents that lie apart, touch, overlap, lie in one another, and are the same; and in falling order.
func TestTwo(t *testing.T) {
	for _, c := range []struct {
		l          []api.Extent
		set, chain bool
	}{
		{of(0, 2, 3, 1), true, true},
		{of(0, 1, 2, 1), true, true},
		{of(0, 1, top-1, 1), true, true},
		{of(0, top-2, top-1, 1), true, true},
		{of(5, 2, 9, top-9), true, true},
		{of(0, 2, 2, 1), false, true},
		{of(0, 1, 1, 1), false, true},
		{of(0, top-1, top-1, 1), false, true},
		{of(0, 1, 1, top-1), false, true},
		{of(3, 1, 0, 2), false, true},
		{of(2, 1, 0, 2), false, true},
		{of(1, 1, 0, 1), false, true},
		{of(top-1, 1, 0, 1), false, true},
		{of(0, 3, 2, 1), false, false},
		{of(0, 3, 2, 2), false, false},
		{of(2, 2, 0, 3), false, false},
		{of(2, 1, 0, 3), false, false},
		{of(0, 9, 3, 2), false, false},
		{of(3, 2, 0, 9), false, false},
		{of(0, 2, 0, 2), false, false},
		{of(0, 1, 0, 1), false, false},
		{of(0, 2, 0, 1), false, false},
		{of(0, 1, 0, 2), false, false},
		{of(0, top, top-1, 1), false, false},
		{of(0, top, 0, 1), false, false},
		{of(0, top, 0, top), false, false},
		{of(top-1, 1, top-1, 1), false, false},
	} {
		told(t, c.l, c.set, c.chain)
	}
}

// P14.1: of more extents each order is a chain, and the rising one alone a set; two that overlap are found wherever they stand.
func TestOrders(t *testing.T) {
	for _, start := range []int{0, 1, 1000, top - 20} {
		a, b, c, d := api.Extent{Start: start, Len: 3}, api.Extent{Start: start + 4, Len: 1}, api.Extent{Start: start + 9, Len: 4}, api.Extent{Start: start + 14, Len: 6}
		within := api.Extent{Start: start + 12, Len: 1}
		orders := [][]api.Extent{{a, b, c, d}, {a, b, d, c}, {a, c, b, d}, {b, a, c, d}, {d, a, b, c}, {d, c, b, a}, {c, d, a, b}, {b, c, d, a}}
		for i, l := range orders {
			told(t, l, i == 0, true)
			totals(t, l, 14)
			for place := range 5 {
				overlapping := slices.Insert(slices.Clone(l), place, within)
				told(t, overlapping, false, false)
				totals(t, overlapping, 0)
			}
		}
	}
}

// P14.1: a sector is had by extents that may be, though others beside them may not be, or they be no chain.
func TestHasBesideWrong(t *testing.T) {
	for _, x := range wrongs() {
		for place := range 3 {
			l := slices.Insert(of(40, 2, 30, 3), place, x)
			for sector := 28; sector < 44; sector++ {
				has(t, l, sector, sector >= 30 && sector < 33 || sector >= 40 && sector < 42)
			}
			for _, sector := range far() {
				has(t, l, sector, false)
			}
		}
	}
	for sector := range 12 {
		has(t, of(5, 3, 2, 4, 2, 2, 9, 1), sector, sector >= 2 && sector < 8 || sector == 9)
	}
}

// P14.1, P14.3: all small lists at both ends, and all their places and sectors, are as the words say.
func TestSmallLists(t *testing.T) {
	for _, l := range smalls(3) {
		chain := isChain(l)
		told(t, l, isSet(l), chain)
		var had, numbered []int
		for _, x := range l {
			if may(x) {
				had = append(had, sectors([]api.Extent{x})...)
			}
		}
		if chain {
			numbered = sectors(l)
		}
		totals(t, l, len(numbered))
		for i := -2; i < 8; i++ {
			for _, sector := range []int{i, top - 6 + i} {
				has(t, l, sector, slices.Contains(had, sector))
			}
		}
		for n := -2; n < 12; n++ {
			if n >= 0 && n < len(numbered) {
				stands(t, l, n, numbered[n])
			} else {
				noAt(t, l, n)
			}
			if chain && n >= 0 && n <= len(numbered) {
				isCut(t, l, n)
			} else {
				noCut(t, l, n)
			}
		}
	}
}

// P14.2: sets that touch, on either side and on both, and sets that lie apart.
func TestJoin(t *testing.T) {
	for _, c := range []struct{ a, b, want []api.Extent }{
		{of(0, 2), of(2, 3), of(0, 5)},
		{of(0, 1), of(1, 1), of(0, 2)},
		{of(0, 2), of(3, 1), of(0, 2, 3, 1)},
		{of(0, 1, 2, 1), of(1, 1), of(0, 3)},
		{of(0, 1, 2, 1, 4, 1), of(1, 1, 3, 1, 5, 1), of(0, 6)},
		{of(0, 2, 8, 2), of(2, 3, 6, 1), of(0, 5, 6, 1, 8, 2)},
		{of(0, 2, 9, 2), of(4, 3), of(0, 2, 4, 3, 9, 2)},
		{of(4, 2), of(0, 1, 9, 1), of(0, 1, 4, 2, 9, 1)},
		{of(0, 1, 100, 1), of(1, 99, 101, top-101), of(0, top)},
		{of(0, top-1), of(top-1, 1), of(0, top)},
		{of(0, 1), of(1, top-1), of(0, top)},
		{of(0, 1), of(top-1, 1), of(0, 1, top-1, 1)},
		{of(0, top/2), of(top/2, top/2), of(0, top)},
		{of(5, 2, 20, 3), of(10, 2, 13, 1), of(5, 2, 10, 2, 13, 1, 20, 3)},
	} {
		joins(t, c.a, c.b, c.want)
	}
}

// P14.2: joined to nothing a set is itself; nothing to nothing is nothing.
func TestJoinNothing(t *testing.T) {
	for _, nothing := range [][]api.Extent{nil, {}} {
		for _, x := range rights() {
			joins(t, []api.Extent{x}, nothing, []api.Extent{x})
		}
		joins(t, of(0, 1, 2, 1, 9, 5), nothing, of(0, 1, 2, 1, 9, 5))
		joins(t, nothing, nil, nil)
		joins(t, nothing, []api.Extent{}, nil)
	}
}

// P14.2: sets that have a sector in common: their first, their last, one between, all, or those of another extent than the first.
func TestJoinInCommon(t *testing.T) {
	for _, c := range [][2][]api.Extent{
		{of(0, 1), of(0, 1)},
		{of(0, 3), of(0, 1)},
		{of(0, 3), of(1, 1)},
		{of(0, 3), of(2, 1)},
		{of(0, 3), of(2, 5)},
		{of(0, 3), of(0, 3)},
		{of(4, 3), of(0, 5)},
		{of(0, top), of(0, top)},
		{of(0, top), of(top-1, 1)},
		{of(0, top), of(0, 1)},
		{of(0, 1, 5, 2), of(2, 1, 6, 3)},
		{of(0, 1, 5, 2, 9, 9), of(2, 1, 17, 1)},
		{of(0, 1, 3, 1, 6, 1), of(1, 2, 4, 3)},
		{of(0, 1, 2, 1, 4, 1), of(1, 1, 3, 1, 4, 1)},
		{of(0, 1, 2, 1, 4, 1), of(0, 5)},
		{of(0, 1, 4, 1), of(3, 4)},
	} {
		noJoin(t, c[0], c[1])
	}
}

// notSets is lists that are no set: one that may not be, alone and behind another; that touch, overlap, fall.
func notSets() [][]api.Extent {
	all := [][]api.Extent{of(20, 1, 21, 1), of(22, 1, 20, 1), of(20, 2, 21, 3), of(20, 1, 20, 1), of(20, 2, 22, 2, 30, 1), of(20, 1, 25, 2, 26, 1), of(30, 1, 20, 1, 25, 1)}
	for _, x := range wrongs() {
		all = append(all, []api.Extent{x}, []api.Extent{{Start: 20, Len: 1}, x}, []api.Extent{x, {Start: 20, Len: 1}})
	}
	return all
}

// P14.2: nothing is joined that is no set, on either side or on both; a chain is none, nor are two that are only one set together.
func TestJoinOfNoSet(t *testing.T) {
	for _, l := range notSets() {
		for _, other := range [][]api.Extent{nil, {}, of(0, 1), of(40, 1), of(0, 1, 50, 5), l} {
			noJoin(t, l, other)
		}
	}
}

// P14.2: a set's parts are taken away at its begin, in its middle, at its end, the whole, and over several of its extents.
func TestLess(t *testing.T) {
	for _, c := range []struct{ a, b, want []api.Extent }{
		{of(0, 10), of(2, 2, 9, 1), of(0, 2, 4, 5)},
		{of(0, 10), of(0, 1), of(1, 9)},
		{of(0, 10), of(0, 9), of(9, 1)},
		{of(0, 10), of(9, 1), of(0, 9)},
		{of(0, 10), of(1, 9), of(0, 1)},
		{of(0, 10), of(4, 1), of(0, 4, 5, 5)},
		{of(0, 10), of(1, 8), of(0, 1, 9, 1)},
		{of(0, 10), of(0, 1, 9, 1), of(1, 8)},
		{of(0, 10), of(0, 4, 5, 5), of(4, 1)},
		{of(0, 10), of(0, 10), nil},
		{of(0, 1), of(0, 1), nil},
		{of(0, 5), of(0, 1, 2, 1, 4, 1), of(1, 1, 3, 1)},
		{of(0, 2, 3, 2), of(0, 2), of(3, 2)},
		{of(0, 2, 3, 2), of(3, 2), of(0, 2)},
		{of(0, 2, 3, 2), of(1, 1, 3, 1), of(0, 1, 4, 1)},
		{of(0, 2, 3, 2), of(0, 2, 3, 2), nil},
		{of(0, 2, 3, 2, 6, 2), of(3, 2), of(0, 2, 6, 2)},
		{of(0, 2, 3, 2, 6, 2), of(1, 1, 6, 2), of(0, 1, 3, 2)},
		{of(0, 2, 3, 2, 6, 4), of(7, 1), of(0, 2, 3, 2, 6, 1, 8, 2)},
		{of(0, top), of(0, top), nil},
		{of(0, top), of(0, 1), of(1, top-1)},
		{of(0, top), of(top-1, 1), of(0, top-1)},
		{of(0, top), of(1, top-2), of(0, 1, top-1, 1)},
		{of(0, top), of(top/2, 1), of(0, top/2, top/2+1, top/2-1)},
	} {
		leaves(t, c.a, c.b, c.want)
	}
}

// P14.2: less nothing a set is itself; of nothing nothing alone is taken away.
func TestLessNothing(t *testing.T) {
	for _, nothing := range [][]api.Extent{nil, {}} {
		for _, x := range rights() {
			l := []api.Extent{x}
			leaves(t, l, nothing, l)
			leaves(t, l, l, nil)
			noLess(t, nothing, l)
		}
		leaves(t, of(0, 1, 2, 1, 9, 5), nothing, of(0, 1, 2, 1, 9, 5))
		leaves(t, nothing, nil, nil)
		leaves(t, nothing, []api.Extent{}, nil)
	}
}

// P14.2: what a hasn't isn't taken away: a sector ahead of it, behind it, between two of its extents, or reaching out of one; though the rest is had.
func TestLessOfWhatIsNotHad(t *testing.T) {
	for _, c := range [][2][]api.Extent{
		{of(0, 3), of(2, 2)},
		{of(0, 3), of(3, 1)},
		{of(0, 3), of(4, 1)},
		{of(0, 3), of(0, 4)},
		{of(5, 3), of(4, 1)},
		{of(5, 3), of(4, 2)},
		{of(5, 3), of(0, 1)},
		{of(5, 3), of(4, 5)},
		{of(5, 3), of(0, top)},
		{of(5, 3, 9, 3), of(8, 1)},
		{of(5, 3, 9, 3), of(7, 3)},
		{of(5, 3, 9, 3), of(7, 2)},
		{of(5, 3, 9, 3), of(8, 2)},
		{of(5, 3, 9, 3), of(5, 7)},
		{of(5, 3, 9, 3), of(5, 3, 12, 1)},
		{of(5, 3, 9, 3), of(5, 1, 7, 2)},
		{of(5, 3, 9, 3), of(0, 1, 5, 3, 9, 3)},
		{of(5, 3, 9, 3), of(5, 3, 9, 3, 13, 1)},
		{of(5, 3, 9, 3), of(0, 1, 9, 3)},
		{of(0, top-1), of(top-1, 1)},
		{of(1, top-1), of(0, 1)},
		{of(1, top-1), of(0, top)},
		{of(0, top-1), of(0, top)},
	} {
		noLess(t, c[0], c[1])
	}
}

// P14.2: nothing is taken of or by what is no set, though its sectors be had.
func TestLessOfNoSet(t *testing.T) {
	for _, l := range notSets() {
		for _, other := range [][]api.Extent{nil, {}, of(20, 1), of(20, 3), of(0, 1), of(0, 100), of(0, top), l} {
			noLess(t, l, other)
			noLess(t, other, l)
		}
	}
}

// P14.2, P14.4: all pairs of sets of a few sectors, at both ends, are joined and taken away as their sectors say; and the one undoes the other.
func TestAllPairsOfSets(t *testing.T) {
	for _, first := range []int{0, 3, top - 7} {
		for x := range uint(1 << 7) {
			for y := range uint(1 << 7) {
				a, b := setOf(first, x), setOf(first, y)
				if x&y == 0 {
					l := joined(t, a, b)
					joins(t, a, b, setOf(first, x|y))
					leaves(t, l, b, a)
					leaves(t, l, a, b)
				} else {
					noJoin(t, a, b)
				}
				if y&^x == 0 {
					l := less(t, a, b)
					leaves(t, a, b, setOf(first, x&^y))
					joins(t, l, b, a)
				} else {
					noLess(t, a, b)
				}
			}
		}
	}
}

// P14.2: all pairs of small lists, sets or not, at both ends: none is joined or taken away but two sets.
func TestAllPairsOfSmallLists(t *testing.T) {
	for _, first := range []int{0, top - 4} {
		lists := small(first, 2)
		for _, a := range lists {
			for _, b := range lists {
				_, join := Join(a, b)
				_, less := Less(a, b)
				if !isSet(a) || !isSet(b) {
					if join || less {
						t.Fatalf("%v and %v: %v, %v", a, b, join, less)
					}
					continue
				}
				mine, its := sectors(a), sectors(b)
				common := slices.ContainsFunc(its, func(sector int) bool { return slices.Contains(mine, sector) })
				missing := slices.ContainsFunc(its, func(sector int) bool { return !slices.Contains(mine, sector) })
				if join == common || less == missing {
					t.Fatalf("%v and %v: %v, %v", a, b, join, less)
				}
			}
		}
	}
}

// P14.3: chains' sectors at their begin, at an extent's border, within one, the last, and one beyond.
func TestAt(t *testing.T) {
	l := of(5, 2, 0, 3, 9, 1)
	for n, want := range []int{5, 6, 0, 1, 2, 9} {
		stands(t, l, n, want)
	}
	noAt(t, l, 6)
	l = of(0, 2, 2, 2)
	for n := range 4 {
		stands(t, l, n, n)
	}
	noAt(t, l, 4)
	for _, x := range rights() {
		l := []api.Extent{x}
		for _, n := range []int{0, x.Len / 2, x.Len - 1} {
			stands(t, l, n, x.Start+n)
		}
		for _, n := range []int{-1, x.Len, x.Len + 1} {
			noAt(t, l, n)
		}
	}
	l = of(top/2, top/2, 0, top/2)
	stands(t, l, 0, top/2)
	stands(t, l, top/2-1, top-1)
	stands(t, l, top/2, 0)
	stands(t, l, top-1, top/2-1)
	noAt(t, l, top)
}

// P14.3: no sector stands far from a chain, nor in no extents.
func TestAtFar(t *testing.T) {
	for _, n := range append(far(), 0, 1, 5) {
		noAt(t, nil, n)
		noAt(t, []api.Extent{}, n)
		if n != 0 && n != 1 {
			noAt(t, of(5, 1, 0, 1), n)
		}
	}
}

// notChains is lists that are no chain.
func notChains() [][]api.Extent {
	all := [][]api.Extent{of(5, 2, 6, 2), of(6, 2, 5, 2), of(5, 1, 5, 1), of(5, 2, 0, 3, 6, 1), of(0, 3, 5, 2, 2, 1), of(0, 9, 3, 1), of(3, 1, 0, 9), of(0, top, 0, 1)}
	for _, x := range wrongs() {
		all = append(all, []api.Extent{x}, []api.Extent{{Start: 20, Len: 3}, x}, []api.Extent{x, {Start: 20, Len: 3}}, []api.Extent{{Start: 20, Len: 3}, x, {Start: 10, Len: 3}})
	}
	return all
}

// P14.3: of what is no chain no sector stands anywhere, and it isn't cut, not even where its first extents would be right.
func TestNoChain(t *testing.T) {
	for _, l := range notChains() {
		told(t, l, false, false)
		totals(t, l, 0)
		for _, n := range append(far(), 0, 1, 2, 3, 4, 5, 6) {
			noAt(t, l, n)
			noCut(t, l, n)
		}
	}
}

// P14.3: a chain is cut at each place: ahead of it, at an extent's border, within one, and behind it.
func TestCut(t *testing.T) {
	l := of(5, 2, 0, 3, 9, 1)
	cuts(t, l, 0, nil, l)
	cuts(t, l, 1, of(5, 1), of(6, 1, 0, 3, 9, 1))
	cuts(t, l, 2, of(5, 2), of(0, 3, 9, 1))
	cuts(t, l, 3, of(5, 2, 0, 1), of(1, 2, 9, 1))
	cuts(t, l, 4, of(5, 2, 0, 2), of(2, 1, 9, 1))
	cuts(t, l, 5, of(5, 2, 0, 3), of(9, 1))
	cuts(t, l, 6, l, nil)
	noCut(t, l, 7)
	noCut(t, l, -1)
}

// P14.3: extents of a chain that touch stay apart, and in their order, wherever it is cut.
func TestCutOfWhatTouches(t *testing.T) {
	l := of(0, 2, 2, 2, 7, 1, 6, 1)
	cuts(t, l, 0, nil, l)
	cuts(t, l, 2, of(0, 2), of(2, 2, 7, 1, 6, 1))
	cuts(t, l, 3, of(0, 2, 2, 1), of(3, 1, 7, 1, 6, 1))
	cuts(t, l, 5, of(0, 2, 2, 2, 7, 1), of(6, 1))
	cuts(t, l, 6, l, nil)
}

// P14.3: chains of one extent, at each edge of it, and of none.
func TestCutOne(t *testing.T) {
	for _, x := range rights() {
		l := []api.Extent{x}
		cuts(t, l, 0, nil, l)
		cuts(t, l, x.Len, l, nil)
		for _, n := range append(far(), x.Len+1, x.Len+2, -x.Len) {
			if n < 0 || n > x.Len {
				noCut(t, l, n)
			}
		}
		for _, n := range []int{1, x.Len / 2, x.Len - 1} {
			if n > 0 && n < x.Len {
				cuts(t, l, n, of(x.Start, n), of(x.Start+n, x.Len-n))
			}
		}
	}
	for _, l := range [][]api.Extent{nil, {}} {
		cuts(t, l, 0, nil, nil)
		for _, n := range append(far(), 1, 2) {
			noCut(t, l, n)
		}
	}
}

// isCut asks that a chain is cut, as the words say it: the first n sectors, as a chain, and those behind; and only one extent comes in two.
func isCut(t *testing.T, l []api.Extent, n int) {
	t.Helper()
	head, tail, ok := Cut(l, n)
	if !ok || !isChain(head) || !isChain(tail) || Total(head) != n {
		t.Fatalf("Cut(%v, %d) is %v and %v, %v", l, n, head, tail, ok)
	}
	if both := slices.Concat(sectors(head), sectors(tail)); !slices.Equal(both, sectors(l)) {
		t.Fatalf("Cut(%v, %d) is %v and %v: %v", l, n, head, tail, both)
	}
	both := slices.Concat(head, tail)
	if i := len(head); i > 0 && len(both) == len(l)+1 {
		both = slices.Replace(both, i-1, i+1, api.Extent{Start: head[i-1].Start, Len: head[i-1].Len + tail[0].Len})
	}
	if !slices.Equal(both, l) {
		t.Fatalf("Cut(%v, %d) is %v and %v, of other extents", l, n, head, tail)
	}
}

// drawnChain is a chain of extents among the first sectors, by lot, some of which touch.
func drawnChain(lot *rand.Rand) []api.Extent {
	var l []api.Extent
	next := lot.Intn(3)
	for range lot.Intn(9) {
		length := 1 + lot.Intn(4)
		l = append(l, api.Extent{Start: next, Len: length})
		next += length + lot.Intn(3)
	}
	lot.Shuffle(len(l), func(i, j int) { l[i], l[j] = l[j], l[i] })
	return l
}

// P14.3, P14.4: drawn chains are told sector by sector, and are both parts, one behind the other, wherever they are cut; the parts are cut again.
func TestDrawnChains(t *testing.T) {
	lot := rand.New(rand.NewSource(14))
	for range 2000 {
		l := drawnChain(lot)
		all := sectors(l)
		totals(t, l, len(all))
		for n, sector := range all {
			stands(t, l, n, sector)
		}
		for n := range len(all) + 1 {
			isCut(t, l, n)
			head, tail, _ := Cut(l, n)
			cuts(t, head, n, head, nil)
			cuts(t, tail, 0, nil, tail)
			isCut(t, head, n/2)
			isCut(t, tail, (len(all)-n)/2)
			for i := range n {
				stands(t, head, i, all[i])
			}
			for i := range len(all) - n {
				stands(t, tail, i, all[n+i])
			}
			noAt(t, head, n)
			noAt(t, tail, len(all)-n)
		}
		noCut(t, l, len(all)+1)
	}
}

// P14.2, P14.4: drawn sets of many extents, joined and taken away again.
func TestDrawnSets(t *testing.T) {
	lot := rand.New(rand.NewSource(41))
	for range 3000 {
		first := []int{0, 77, top - 40}[lot.Intn(3)]
		bits, mine := uint(lot.Int63n(1<<40)), uint(lot.Int63n(1<<40))
		x, y := bits&mine, bits&^mine
		a, b, both := setOf(first, x), setOf(first, y), setOf(first, bits)
		joins(t, a, b, both)
		leaves(t, both, b, a)
		leaves(t, both, a, b)
		other := setOf(first, uint(lot.Int63n(1<<40)))
		if l, ok := Less(both, other); ok {
			joins(t, l, other, both)
		}
	}
}

// asked calls all functions of extents.
func asked(a, b []api.Extent) {
	Right(a)
	Chain(a)
	Total(a)
	Has(a, 3)
	Join(a, b)
	Less(a, b)
	At(a, 2)
	for n := range 8 {
		Cut(a, n)
	}
}

// What is handed in stays as it is, and so does what stands behind its end, whether it is right or wrong.
func TestNothingIsChanged(t *testing.T) {
	lists := [][]api.Extent{of(0, 5), of(5, 2, 0, 3, 9, 1), of(9, 1, 7, 1), of(0, 1, 2, 1, 4, 1), of(1, 1, 3, 1, 5, 1), of(0, 6, 8, 2), of(2, 1, 8, 1), of(5, 2, -1, 3), of(1, 0, 0, 9), of(6, 2, 5, 2, 0, 1)}
	for _, a := range lists {
		for _, b := range lists {
			mine, its := append(slices.Clone(a), of(7, 7, 3, 3)...), append(slices.Clone(b), of(8, 8, 4, 4)...)
			asked(mine[:len(a)], its[:len(b)])
			asked(its[:len(b)], mine[:len(a)])
			if !slices.Equal(mine, append(slices.Clone(a), of(7, 7, 3, 3)...)) || !slices.Equal(its, append(slices.Clone(b), of(8, 8, 4, 4)...)) {
				t.Fatalf("%v and %v were changed: %v, %v", a, b, mine, its)
			}
		}
	}
}

// spoil turns all of an answer's extents, those behind its end, too.
func spoil(l []api.Extent) {
	l = l[:cap(l)]
	for i := range l {
		l[i] = api.Extent{Start: -7, Len: -7}
	}
}

// What is done to an answer, behind its end, too, is seen neither in what was handed in, nor in the other answer.
func TestAnswersAreNew(t *testing.T) {
	for _, set := range [][]api.Extent{of(0, 5), of(0, 3, 5, 2, 9, 1), of(2, 1), of(0, 1, 2, 1, 4, 1, 6, 1, 8, 1)} {
		for _, nothing := range [][]api.Extent{nil, {}, of(90, 1), of(0, 1)} {
			a, b := slices.Clone(set), slices.Clone(nothing)
			joined, _ := Join(a, b)
			turned, _ := Join(b, a)
			less, _ := Less(a, b)
			for _, answer := range [][]api.Extent{joined, turned, less} {
				spoil(answer)
				if !slices.Equal(a, set) || !slices.Equal(b, nothing) {
					t.Fatalf("%v and %v share memory with an answer", set, nothing)
				}
			}
		}
		for n := range Total(set) + 1 {
			a := slices.Clone(set)
			head, tail, _ := Cut(a, n)
			first, second := slices.Clone(head), slices.Clone(tail)
			again, rest, _ := Cut(a, n)
			spoil(again)
			if !slices.Equal(a, set) || !slices.Equal(head, first) || !slices.Equal(tail, second) || !slices.Equal(rest, second) {
				t.Fatalf("Cut(%v, %d): the head shares memory", set, n)
			}
			spoil(rest)
			if !slices.Equal(a, set) || !slices.Equal(head, first) || !slices.Equal(tail, second) {
				t.Fatalf("Cut(%v, %d): the tail shares memory", set, n)
			}
		}
	}
}

// What is done to extents once they were handed in is seen in no answer.
func TestNothingHandedInIsKept(t *testing.T) {
	a, b := of(0, 3, 5, 2), of(8, 1)
	joined, _ := Join(a, b)
	less, _ := Less(a, nil)
	head, tail, _ := Cut(a, 3)
	spoil(a)
	spoil(b)
	if !slices.Equal(joined, of(0, 3, 5, 2, 8, 1)) || !slices.Equal(less, of(0, 3, 5, 2)) || !slices.Equal(head, of(0, 3)) || !slices.Equal(tail, of(5, 2)) {
		t.Errorf("%v, %v, %v, %v", joined, less, head, tail)
	}
}

// Behind an answer's end stands nothing.
func TestNothingBehind(t *testing.T) {
	a, b := of(0, 1, 2, 1, 4, 1, 6, 1, 8, 1), of(1, 1, 3, 1, 5, 1)
	joined, _ := Join(a, b)
	less, _ := Less(a, of(2, 1, 6, 1))
	answers := [][]api.Extent{joined, less}
	for n := range 6 {
		head, tail, _ := Cut(a, n)
		answers = append(answers, head, tail)
	}
	for _, l := range answers {
		for _, x := range l[len(l):cap(l)] {
			if x != (api.Extent{}) {
				t.Errorf("behind %v stands %v", l, x)
			}
		}
	}
}

// The same again is the same, whatever else was asked between, and however much room is behind what is handed in.
func TestSameAgain(t *testing.T) {
	a, b := of(0, 2, 8, 2), of(2, 3, 6, 1)
	for _, room := range []int{0, 1, 2, 3, 50} {
		a, b := slices.Grow(slices.Clone(a), room), slices.Grow(slices.Clone(b), room)
		joins(t, a, b, of(0, 5, 6, 1, 8, 2))
		leaves(t, a, of(1, 1, 8, 1), of(0, 1, 9, 1))
		cuts(t, a, 3, of(0, 2, 8, 1), of(9, 1))
		stands(t, a, 3, 9)
		asked(b, a)
	}
}

// As many extents as there may be are told, joined, taken away and cut in a moment, in whatever order they stand.
func TestManyExtents(t *testing.T) {
	even := make([]api.Extent, top/2)
	odd := slices.Clone(even)
	chain := slices.Clone(even)
	for i := range even {
		even[i] = api.Extent{Start: 2 * i, Len: 1}
		odd[i] = api.Extent{Start: 2*i + 1, Len: 1}
		chain[len(chain)-1-i] = api.Extent{Start: 2 * i, Len: 2}
	}
	if !Right(even) || !Right(odd) || Right(chain) || !Chain(chain) || Total(chain) != top || Total(odd) != top/2 {
		t.Fatal("Right, Chain, Total")
	}
	joins(t, even, odd, of(0, top))
	if l, ok := Less(of(0, top), odd); !ok || !slices.Equal(l, even) {
		t.Fatal("Less")
	}
	stands(t, chain, top-1, 1)
	head, tail, ok := Cut(chain, top/2+1)
	if !ok || len(head) != top/4+1 || len(tail) != top/4 || head[top/4] != (api.Extent{Start: top/2 - 2, Len: 1}) || tail[0] != (api.Extent{Start: top/2 - 1, Len: 1}) {
		t.Fatal("Cut")
	}
	if chain[0].Start = 0; Chain(chain) || Total(chain) != 0 {
		t.Fatal("a chain with two that overlap")
	}
}

// The chapter's example: 0 to 2 and 3 to 4, joined: 0 to 4.
func TestExample(t *testing.T) {
	joins(t, of(0, 3), of(3, 2), of(0, 5))
}

func BenchmarkJoin(b *testing.B) {
	even, odd := setOf(0, 0x5555555555), setOf(0, 0xaaaaaaaaaa)
	for b.Loop() {
		Join(even, odd)
	}
}

func BenchmarkCut(b *testing.B) {
	l := setOf(0, 0x5555555555)
	for b.Loop() {
		Cut(l, 10)
	}
}
