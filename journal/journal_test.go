package journal

import (
	"bytes"
	"crypto/hmac"
	"crypto/sha256"
	"encoding/binary"
	"encoding/hex"
	"math"
	"math/rand"
	"slices"
	"testing"

	"chatelaine/api"
)

const (
	top  = api.MaxCount
	many = 1 << 16
)

// rightSizes is all sizes that a sector of a record may have.
func rightSizes() []int {
	return []int{64, 80, 96, 112, 128, 144, 160, 176, 192, 208, 224, 240, 256}
}

// fewSizes is those at the edges, one that is no power of two, and one between.
func fewSizes() []int { return []int{64, 80, 128, 240, 256} }

// wrongSizes is sizes that may not be: each number near the right ones that is none, each edge, and far beyond; of some the lowest bytes are what may be.
func wrongSizes() []int {
	l := []int{
		-1, -15, -16, -32, -63, -64, -65, -80, -128, -256, -1 << 31, -1<<31 + 64, -1 << 32, -1<<32 + 64, -1 << 62, math.MinInt, math.MinInt + 1, math.MinInt + 64, math.MinInt + 256,
		320, 512, 1024, 4096, 1<<16 + 64, 1 << 20, 1<<31 - 1, 1<<31 + 64, 1 << 32, 1<<32 + 64, 1<<32 + 256, 1 << 62, 1<<62 + 64, math.MaxInt - 63, math.MaxInt - 15, math.MaxInt - 1, math.MaxInt,
	}
	for n := range 304 {
		if !slices.Contains(rightSizes(), n) {
			l = append(l, n)
		}
	}
	return l
}

// wrongEntries is numbers of entries that no record has.
func wrongEntries() []int {
	return []int{
		-1, -2, -16, -64, -many, -many - 1, -1 << 31, -1 << 32, -1<<32 + 1, -1 << 62, math.MinInt + 1, math.MinInt,
		many + 1, many + 2, many + 16, 2 * many, 1 << 20, 1<<31 - 1, 1 << 31, 1 << 32, 1<<32 + 1, 1<<32 + many, 1 << 60, 1 << 61, 1 << 62, 1<<62 + 1, math.MaxInt - 3, math.MaxInt - 1, math.MaxInt,
	}
}

// rightCounts is counts that may be, at each edge and between.
func rightCounts() []int {
	return []int{0, 1, 2, 255, 256, 65535, 65536, 1<<31 - 1, 1 << 31, 1<<32 - 1, 1 << 32, 1<<32 + 1, 0x0102030405, 0xfedcba9876, 1 << 39, top - 1, top}
}

// wrongCounts is counts that may not be.
func wrongCounts() []int {
	return []int{
		-1, -2, -256, -1 << 31, -1 << 32, -top, -top - 1, -1 << 62, math.MinInt + 1, math.MinInt + top, math.MinInt,
		top + 1, top + 2, top + 256, 2*top - 1, 2 * top, 1 << 48, 1 << 56, 1<<56 + 1, 1 << 62, 1<<62 + 1, math.MaxInt - 1, math.MaxInt,
	}
}

// wrongSectors is sectors that no entry has.
func wrongSectors() []int {
	return []int{
		-1, -2, -256, -api.MaxSectors, -1 << 31, -1 << 32, -1<<32 + 1, -1 << 62, math.MinInt + 1, math.MinInt,
		api.MaxSectors, api.MaxSectors + 1, 2*api.MaxSectors - 1, 2 * api.MaxSectors, 1<<31 - 1, 1 << 31, 1<<32 - 1, 1 << 32, 1<<32 + 1, 1 << 62, math.MaxInt - 1, math.MaxInt,
	}
}

// greats is numbers of eight bytes beyond MaxCount: by one, by single bits, and all that there are.
func greats() []uint64 {
	l := []uint64{top + 1, top + 2, top + 256, 2*top - 1, 1<<63 - 1, 1<<63 + 1, 1<<63 + top, 1<<64 - top, 1<<64 - 2, 1<<64 - 1, 0x0102030405060708, 0xfedcba9876543210, 0xff << 56, 0xff << 48}
	for bit := 41; bit < 64; bit++ {
		l = append(l, 1<<bit, 1<<bit+1, 1<<bit+top, 1<<bit-1)
	}
	return l
}

// keys is keys of no bytes, of few and of many.
func keys() [][]byte {
	return [][]byte{nil, {}, {0}, {1}, []byte("key"), []byte("kex"), bytes.Repeat([]byte{0xff}, 32), filled(1, 32), filled(2, 63), filled(3, 64), filled(4, 65), filled(5, 200)}
}

// filled is n bytes that are the same for each seed, and others for another one.
func filled(seed, n int) []byte {
	b := make([]byte, n)
	rand.New(rand.NewSource(int64(seed))).Read(b)
	return b
}

// entries is n entries, at both ends of what sectors there are among them, with data that all differ.
func entries(n, size int) []api.Entry {
	ends := []int{100, 0, api.MaxSectors - 1, 1, 255, 256, 0x010203, 0x0f0e0d, 65536, api.MaxSectors - 2}
	data := filled(n, n*size)
	var l []api.Entry
	for i := range n {
		sector := (i * 7919) % api.MaxSectors
		if i < len(ends) {
			sector = ends[i]
		}
		l = append(l, api.Entry{Sector: sector, Data: slices.Clone(data[i*size : (i+1)*size])})
	}
	return l
}

// fewNumbers is how many entries: none, one, and those about what fills an index's sectors.
func fewNumbers(size int) []int {
	full := size / 4
	return []int{0, 1, 2, 3, full - 1, full, full + 1, 2*full - 1, 2 * full, 2*full + 1, 5*full + 3}
}

// copied is a list of texts of its own.
func copied(l [][]byte) [][]byte {
	var out [][]byte
	for _, b := range l {
		out = append(out, slices.Clone(b))
	}
	return out
}

// copiedEntries is entries of their own.
func copiedEntries(l []api.Entry) []api.Entry {
	var out []api.Entry
	for _, x := range l {
		out = append(out, api.Entry{Sector: x.Sector, Data: slices.Clone(x.Data)})
	}
	return out
}

// sameTexts is whether two lists have the same texts.
func sameTexts(a, b [][]byte) bool { return slices.EqualFunc(a, b, bytes.Equal) }

// sameEntries is whether two lists have the same entries.
func sameEntries(a, b []api.Entry) bool {
	return slices.EqualFunc(a, b, func(x, y api.Entry) bool { return x.Sector == y.Sector && bytes.Equal(x.Data, y.Data) })
}

// said is the first 16 bytes of a head, as the words say them.
func saidOf(count uint64, entries uint32) []byte {
	b := []byte{0x4a, 0x52, 0x4e, 0x4c}
	b = binary.BigEndian.AppendUint64(b, count)
	return binary.BigEndian.AppendUint32(b, entries)
}

// sealed is sectors of a size: a head of what it says, with its right tag, whatever that and what follows may be; and what follows.
func sealed(key, said, rest []byte, size int) [][]byte {
	h := hmac.New(sha256.New, key)
	h.Write(said)
	h.Write(rest)
	head := h.Sum(slices.Clone(said))
	text := append(head, make([]byte, size-len(head))...)
	text = append(text, rest...)
	var l [][]byte
	for at := 0; at < len(text); at += size {
		l = append(l, slices.Clone(text[at:at+size]))
	}
	return l
}

// plainIndex is an index as the words say it.
func plainIndex(size int, sectors ...uint32) []byte {
	var b []byte
	for _, n := range sectors {
		b = binary.BigEndian.AppendUint32(b, n)
	}
	for len(b)%size != 0 {
		b = append(b, 0)
	}
	return b
}

// plainSize is what the words say that Size answers of what may be.
func plainSize(entries, size int) int {
	n := 1 + entries
	for b := 4 * entries; b > 0; b -= size {
		n++
	}
	return n
}

// plainPack is a record as the words say it.
func plainPack(key []byte, count int, l []api.Entry, size int) [][]byte {
	var sectors []uint32
	var contents []byte
	for _, x := range l {
		sectors = append(sectors, uint32(x.Sector))
		contents = append(contents, x.Data...)
	}
	return sealed(key, saidOf(uint64(count), uint32(len(l))), append(plainIndex(size, sectors...), contents...), size)
}

// plainHead is what the words say that Head answers.
func plainHead(b []byte) (count, entries int, ok bool) {
	if len(b) < 48 || hex.EncodeToString(b[:4]) != "4a524e4c" {
		return 0, 0, false
	}
	c, n := binary.BigEndian.Uint64(b[4:12]), binary.BigEndian.Uint32(b[12:16])
	if c > top || n > many || bytes.Count(b[48:], []byte{0}) != len(b)-48 {
		return 0, 0, false
	}
	return int(c), int(n), true
}

// plainUnpack is what the words say that Unpack answers.
func plainUnpack(key []byte, l [][]byte) (int, []api.Entry, api.Errno) {
	for _, b := range l {
		if len(b) != len(l[0]) || !slices.Contains(rightSizes(), len(b)) {
			return 0, nil, api.ErrArg
		}
	}
	if len(l) == 0 {
		return 0, nil, api.ErrArg
	}
	size := len(l[0])
	count, n, ok := plainHead(l[0])
	if !ok || len(l) < plainSize(n, size) {
		return 0, nil, api.ErrForm
	}
	rest := bytes.Join(l[1:plainSize(n, size)], nil)
	if !sameTexts(sealed(key, l[0][:16], rest, size), l[:plainSize(n, size)]) {
		return 0, nil, api.ErrSum
	}
	var out []api.Entry
	for i := range n {
		sector := binary.BigEndian.Uint32(rest[4*i:])
		at := len(rest) - (n-i)*size
		if sector >= api.MaxSectors {
			return 0, nil, api.ErrSum
		}
		out = append(out, api.Entry{Sector: int(sector), Data: rest[at : at+size]})
	}
	for _, one := range rest[4*n : len(rest)-n*size] {
		if one != 0 {
			return 0, nil, api.ErrSum
		}
	}
	return count, out, api.OK
}

// sizes asks that Size answers so, however often it is asked.
func sizes(t *testing.T, entries, size, want int, ok bool) {
	t.Helper()
	for range 2 {
		if got, may := Size(entries, size); got != want || may != ok {
			t.Fatalf("Size(%d, %d) is %d, %v, not %d, %v", entries, size, got, may, want, ok)
		}
	}
}

// packs asks that Pack answers a record as the words say it, with just enough room and with more.
func packs(t *testing.T, key []byte, count int, l []api.Entry, size int) [][]byte {
	t.Helper()
	want := plainPack(key, count, l, size)
	n := plainSize(len(l), size)
	if len(want) != n {
		t.Fatalf("the plain record of %d entries has %d sectors of %d bytes, not %d", len(l), len(want), size, n)
	}
	var got [][]byte
	for _, room := range []int{n, n + 1, math.MaxInt, n} {
		var e api.Errno
		got, e = Pack(key, count, l, size, room)
		if e != api.OK || !sameTexts(got, want) {
			t.Fatalf("Pack(%x, %d, .. of %d, %d, %d) is %x, %d, not %x", key, count, len(l), size, room, got, e, want)
		}
	}
	for i, b := range got {
		if cap(b) != size {
			t.Fatalf("sector %d of %d bytes has room for %d", i, size, cap(b))
		}
	}
	return got
}

// noPack asks that Pack tells an error, and no record.
func noPack(t *testing.T, key []byte, count int, l []api.Entry, size, room int, want api.Errno) {
	t.Helper()
	for range 2 {
		if got, e := Pack(key, count, l, size, room); e != want || len(got) != 0 {
			t.Fatalf("Pack(%x, %d, .. of %d, %d, %d) is %x, %d, not %d", key, count, len(l), size, room, got, e, want)
		}
	}
}

// heads asks that Head answers so, however often it is asked.
func heads(t *testing.T, b []byte, count, entries int, ok bool) {
	t.Helper()
	for range 2 {
		if c, n, may := Head(b); c != count || n != entries || may != ok {
			t.Fatalf("Head(%x) is %d, %d, %v, not %d, %d, %v", b, c, n, may, count, entries, ok)
		}
	}
}

// headed asks that Head answers what the words say.
func headed(t *testing.T, b []byte) {
	t.Helper()
	count, n, ok := plainHead(b)
	heads(t, b, count, n, ok)
}

// unpacks asks that Unpack answers a count and entries.
func unpacks(t *testing.T, key []byte, l [][]byte, count int, want []api.Entry) []api.Entry {
	t.Helper()
	var out []api.Entry
	for range 2 {
		c, got, e := Unpack(key, l)
		if e != api.OK || c != count || !sameEntries(got, want) {
			t.Fatalf("Unpack(%x, %x) is %d, %v, %d, not %d, %v", key, l, c, got, e, count, want)
		}
		out = got
	}
	return out
}

// noUnpack asks that Unpack tells an error, and nothing else.
func noUnpack(t *testing.T, key []byte, l [][]byte, want api.Errno) {
	t.Helper()
	for range 2 {
		if c, got, e := Unpack(key, l); e != want || c != 0 || len(got) != 0 {
			t.Fatalf("Unpack(%x, %x) is %d, %v, %d, not %d", key, l, c, got, e, want)
		}
	}
}

// told asks that Unpack answers what the words say, and gives what they say it tells.
func told(t *testing.T, key []byte, l [][]byte) api.Errno {
	t.Helper()
	count, want, e := plainUnpack(key, l)
	if e == api.OK {
		unpacks(t, key, l, count, want)
	} else {
		noUnpack(t, key, l, e)
	}
	return e
}

// P17.1: how many sectors there are, by hand: of no entries, of one, of as many as just fill the index's sectors, of one more, and of the most.
func TestSizePrinted(t *testing.T) {
	for _, c := range []struct{ entries, size, want int }{
		{0, 64, 1}, {0, 80, 1}, {0, 256, 1}, {1, 64, 3}, {1, 80, 3}, {1, 256, 3}, {2, 64, 4},
		{15, 64, 17}, {16, 64, 18}, {17, 64, 20}, {32, 64, 35}, {33, 64, 37},
		{20, 80, 22}, {21, 80, 24}, {28, 112, 30}, {29, 112, 32}, {63, 256, 65}, {64, 256, 66}, {65, 256, 68}, {128, 256, 131}, {129, 256, 133},
		{many, 64, 69633}, {many - 1, 64, 69632}, {many - 16, 64, 69616}, {many - 15, 64, 69618}, {many, 80, 68814}, {many, 96, 68268}, {many, 128, 67585}, {many, 240, 66630}, {many, 256, 66561}, {many - 1, 256, 66560},
	} {
		sizes(t, c.entries, c.size, c.want, true)
	}
}

// P17.1: of each number of entries that may be, and each size, it is as the words say.
func TestSize(t *testing.T) {
	for _, size := range rightSizes() {
		for n := range 2100 {
			sizes(t, n, size, plainSize(n, size), true)
		}
		for n := many - 300; n <= many; n++ {
			sizes(t, n, size, plainSize(n, size), true)
		}
	}
}

// P17.1: of numbers of entries, or sizes, or both, that may not be there is no number of sectors.
func TestSizeWrong(t *testing.T) {
	for _, size := range rightSizes() {
		for _, n := range wrongEntries() {
			sizes(t, n, size, 0, false)
		}
	}
	for _, size := range wrongSizes() {
		for _, n := range append(wrongEntries(), 0, 1, 2, 16, 64, many-1, many) {
			sizes(t, n, size, 0, false)
		}
	}
}

// P17.1: a record as it stands, byte by byte.
func TestPackPrinted(t *testing.T) {
	data := filled(7, 64)
	head := "4a524e4c" + "0000000102030405" + "00000001"
	index := "0001e240" + string(bytes.Repeat([]byte("00"), 60))
	h := hmac.New(sha256.New, []byte("key"))
	for _, text := range []string{head, index} {
		b, _ := hex.DecodeString(text)
		h.Write(b)
	}
	h.Write(data)
	want := []string{head + hex.EncodeToString(h.Sum(nil)) + string(bytes.Repeat([]byte("00"), 16)), index, hex.EncodeToString(data)}
	got, e := Pack([]byte("key"), 0x0102030405, []api.Entry{{Sector: 123456, Data: data}}, 64, 3)
	if e != api.OK || len(got) != 3 {
		t.Fatalf("Pack is %x, %d", got, e)
	}
	for i, text := range want {
		if hex.EncodeToString(got[i]) != text {
			t.Errorf("sector %d is %x, not %s", i, got[i], text)
		}
	}
}

// P17.1: a record of no entries is a head alone, whose tag is that of its first 16 bytes.
func TestPackNothing(t *testing.T) {
	for _, l := range [][]api.Entry{nil, {}} {
		for _, size := range rightSizes() {
			for _, key := range keys() {
				for _, count := range rightCounts() {
					got := packs(t, key, count, l, size)
					h := hmac.New(sha256.New, key)
					h.Write(saidOf(uint64(count), 0))
					if len(got) != 1 || !bytes.Equal(got[0][16:48], h.Sum(nil)) || !bytes.Equal(got[0][48:], make([]byte, size-48)) {
						t.Fatalf("of nothing: %x", got)
					}
				}
			}
		}
	}
}

// P17.1: of one entry and of many, under each key, of each size, with each count.
func TestPack(t *testing.T) {
	for _, size := range rightSizes() {
		for _, n := range fewNumbers(size) {
			packs(t, []byte("key"), 3, entries(n, size), size)
		}
		for _, count := range rightCounts() {
			packs(t, []byte("key"), count, entries(3, size), size)
		}
		for _, key := range keys() {
			packs(t, key, 5, entries(4, size), size)
		}
	}
}

// P17.1: with each Sector at the edges, several times the same among them, and in the order in which they came.
func TestPackSectors(t *testing.T) {
	for _, size := range fewSizes() {
		for _, sector := range []int{0, 1, 255, 256, 65535, 65536, 0x010203, 1 << 19, api.MaxSectors - 2, api.MaxSectors - 1} {
			l := []api.Entry{{Sector: sector, Data: filled(1, size)}, {Sector: 5, Data: filled(2, size)}, {Sector: sector, Data: filled(3, size)}, {Sector: sector, Data: filled(3, size)}}
			got := packs(t, []byte("key"), 1, l, size)
			if n := binary.BigEndian.Uint32(got[1]); int(n) != sector {
				t.Errorf("of sector %d stands %d", sector, n)
			}
			unpacks(t, []byte("key"), got, 1, l)
		}
	}
}

// P17.1: of as many entries as may be there is a record, and of one more there is none; an entry that may not be is told ahead.
func TestPackMost(t *testing.T) {
	key, size := []byte("key"), 64
	l := entries(many+1, size)
	want := plainPack(key, top, l[:many], size)
	got, e := Pack(key, top, l[:many], size, 69633)
	if e != api.OK || !sameTexts(got, want) {
		t.Fatalf("of %d entries: %d", many, e)
	}
	noPack(t, key, top, l[:many], size, 69632, api.ErrLimit)
	count, out, e := Unpack(key, got)
	if e != api.OK || count != top || !sameEntries(out, l[:many]) {
		t.Fatalf("of %d entries' record: %d, %d entries, %d", many, count, len(out), e)
	}
	noUnpack(t, key, got[:69632], api.ErrForm)
	for _, room := range []int{math.MaxInt, 69635, 0, -1, math.MinInt} {
		noPack(t, key, top, l, size, room, api.ErrLimit)
		noPack(t, key, top+1, l, size, room, api.ErrArg)
		noPack(t, key, top, l, size+16, room, api.ErrArg)
		noPack(t, key, top, l, size+1, room, api.ErrArg)
	}
	for _, place := range []int{0, 1, many - 1, many} {
		wrong := slices.Clone(l)
		wrong[place].Sector = api.MaxSectors
		noPack(t, key, top, wrong, size, math.MaxInt, api.ErrArg)
		wrong[place] = api.Entry{Sector: 1, Data: filled(1, size-1)}
		noPack(t, key, top, wrong, size, math.MaxInt, api.ErrArg)
	}
}

// P17.1: with less room than the record has sectors, by one, by all, and below nought, there is none.
func TestPackRoom(t *testing.T) {
	for _, size := range rightSizes() {
		for _, n := range fewNumbers(size) {
			l, whole := entries(n, size), plainSize(n, size)
			packs(t, []byte("key"), 3, l, size)
			for _, room := range []int{whole - 1, whole - 2, n, n - 1, 0, -1, -2, -whole, -1 << 32, -1<<32 + whole, math.MinInt, math.MinInt + whole} {
				if room < whole {
					noPack(t, []byte("key"), 3, l, size, room, api.ErrLimit)
				}
			}
		}
	}
}

// P17.1: a size that may not be, be the entries' data of it, or of one that may be, or there none; and whatever the room.
func TestPackWrongSize(t *testing.T) {
	for _, size := range wrongSizes() {
		for _, room := range []int{3, math.MaxInt, 0, -1, math.MinInt} {
			noPack(t, []byte("key"), 3, nil, size, room, api.ErrArg)
			noPack(t, []byte("key"), 3, entries(1, 64), size, room, api.ErrArg)
			noPack(t, []byte("key"), -1, nil, size, room, api.ErrArg)
			if size >= 0 && size <= 4096 {
				noPack(t, []byte("key"), 3, entries(2, size), size, room, api.ErrArg)
			}
		}
	}
}

// P17.1: a count that may not be, whatever the entries and the room.
func TestPackWrongCount(t *testing.T) {
	for _, count := range wrongCounts() {
		for _, size := range fewSizes() {
			for _, room := range []int{3, math.MaxInt, 0, -1, math.MinInt} {
				for n := range 3 {
					noPack(t, []byte("key"), count, entries(n, size), size, room, api.ErrArg)
				}
			}
		}
	}
}

// P17.1: an entry that may not be, at each place, by its Sector or by its data, whatever the room.
func TestPackWrongEntry(t *testing.T) {
	for _, size := range fewSizes() {
		var wrongs []api.Entry
		for _, sector := range wrongSectors() {
			wrongs = append(wrongs, api.Entry{Sector: sector, Data: filled(1, size)}, api.Entry{Sector: sector})
		}
		for _, n := range []int{0, 1, 16, 32, size - 16, size - 1, size + 1, size + 16, 2 * size, 63, 257, 512, 4096} {
			if n != size {
				wrongs = append(wrongs, api.Entry{Sector: 5, Data: filled(2, n)}, api.Entry{Sector: 0, Data: make([]byte, n)}, api.Entry{Sector: -1, Data: filled(2, n)})
			}
		}
		wrongs = append(wrongs, api.Entry{}, api.Entry{Sector: 7}, api.Entry{Sector: 7, Data: []byte{}}, api.Entry{Sector: 7, Data: make([]byte, size-1, size)})
		for _, wrong := range wrongs {
			for place := range 4 {
				l := slices.Insert(entries(3, size), place, wrong)
				for _, room := range []int{6, math.MaxInt, 0, math.MinInt} {
					noPack(t, []byte("key"), 3, l, size, room, api.ErrArg)
				}
			}
			noPack(t, nil, 0, []api.Entry{wrong}, size, 3, api.ErrArg)
		}
	}
}

// head is a head's bytes, as the words say them, with any tag, and n bytes in all.
func head(count uint64, entries uint32, n int) []byte {
	b := append(saidOf(count, entries), filled(9, 32)...)
	return append(b, make([]byte, n-len(b))...)
}

// P17.2: of each count and number of entries that may be, whatever the tag, and however long the noughts are.
func TestHead(t *testing.T) {
	for _, n := range append(rightSizes(), 48, 49, 63, 65, 100, 257, 1000) {
		for _, count := range rightCounts() {
			for _, entries := range []int{0, 1, 2, 17, 255, 256, 257, 32767, 32768, many - 1, many} {
				b := head(uint64(count), uint32(entries), n)
				heads(t, b, count, entries, true)
				clear(b[16:48])
				heads(t, b, count, entries, true)
				copy(b[16:48], bytes.Repeat([]byte{255}, 32))
				heads(t, b, count, entries, true)
			}
		}
	}
}

// P17.2: a count beyond MaxCount, and a number beyond 2^16, by one, by single bits, and by all that there are, is none.
func TestHeadGreat(t *testing.T) {
	for _, n := range fewSizes() {
		for _, count := range greats() {
			for _, entries := range []uint32{0, 1, many, many + 1, 1<<32 - 1} {
				heads(t, head(count, entries, n), 0, 0, false)
			}
		}
		numbers := []uint32{many + 1, many + 2, many + 256, 2*many - 1, 1<<32 - 1, 1<<32 - many, 0x01020304, 0xfedcba98, 0xff << 24}
		for bit := 17; bit < 32; bit++ {
			numbers = append(numbers, 1<<bit, 1<<bit+1, 1<<bit+many, 1<<bit-1)
		}
		for _, entries := range numbers {
			for _, count := range rightCounts() {
				heads(t, head(uint64(count), entries, n), 0, 0, entries <= many)
			}
		}
	}
}

// P17.2: what begins otherwise is none.
func TestHeadBegin(t *testing.T) {
	for _, n := range fewSizes() {
		for place := range 4 {
			b := head(3, 4, n)
			whole := b[place]
			for one := range 256 {
				b[place] = byte(one)
				if byte(one) == whole {
					heads(t, b, 3, 4, true)
				} else {
					heads(t, b, 0, 0, false)
				}
			}
		}
		for _, begin := range []string{"\x00\x00\x00\x00", "LNRJ", "jrnl", "RNLJ", "\xff\xff\xff\xff", "JRNK", "KRNL", "\x00JRN"} {
			b := head(3, 4, n)
			copy(b, begin)
			heads(t, b, 0, 0, false)
		}
		heads(t, make([]byte, n), 0, 0, false)
		heads(t, bytes.Repeat([]byte{255}, n), 0, 0, false)
	}
}

// P17.2: with any byte behind the tag that isn't nought, at any place, it is none.
func TestHeadNoughts(t *testing.T) {
	for _, n := range append(rightSizes(), 49) {
		b := head(3, 4, n)
		for place := 48; place < n; place++ {
			for _, one := range []byte{1, 2, 16, 127, 128, 255} {
				b[place] = one
				heads(t, b, 0, 0, false)
			}
			b[place] = 0
			heads(t, b, 3, 4, true)
		}
		// What would be noughts again if it were added up or put together.
		if n >= 64 {
			copy(b[50:], []byte{128, 128})
			heads(t, b, 0, 0, false)
			copy(b[50:], []byte{1, 255})
			heads(t, b, 0, 0, false)
		}
	}
}

// P17.2: of texts too short, and of none, there is none, be there what it may behind them.
func TestHeadShort(t *testing.T) {
	heads(t, nil, 0, 0, false)
	heads(t, []byte{}, 0, 0, false)
	for _, whole := range [][]byte{head(3, 4, 64), head(0, 0, 64), head(top, many, 256)} {
		for n := range 48 {
			heads(t, whole[:n], 0, 0, false)
			heads(t, slices.Clone(whole[:n]), 0, 0, false)
		}
		headed(t, whole[:48])
	}
}

// P17.2: each bit of a head turned is told as the words say.
func TestHeadEveryBit(t *testing.T) {
	for _, b := range [][]byte{head(0, 0, 64), head(3, 4, 64), head(top, many, 80), head(top-1, many-1, 64), head(255, 256, 256)} {
		headed(t, b)
		for bit := range 8 * len(b) {
			b[bit/8] ^= 1 << (bit % 8)
			headed(t, b)
			b[bit/8] ^= 1 << (bit % 8)
		}
	}
}

// P17.2: drawn heads, of any length, with any numbers, are told as the words say.
func TestHeadDrawn(t *testing.T) {
	r := rand.New(rand.NewSource(17))
	for range 30000 {
		b := head(r.Uint64()>>r.Intn(64), r.Uint32()>>r.Intn(32), 48+r.Intn(300))
		switch r.Intn(4) {
		case 0:
			b = b[:r.Intn(min(60, len(b)+1))]
		case 1:
			b[r.Intn(len(b))] ^= byte(r.Intn(256))
		}
		headed(t, b)
	}
}

// P17.1, P17.2: of what is packed Head tells the count and the number of entries.
func TestHeadOfPacked(t *testing.T) {
	for _, size := range rightSizes() {
		for _, n := range fewNumbers(size) {
			for _, count := range []int{0, 1, 300, top} {
				l, e := Pack(filled(n, 32), count, entries(n, size), size, math.MaxInt)
				if e != api.OK {
					t.Fatalf("Pack of %d: %d", n, e)
				}
				heads(t, l[0], count, n, true)
			}
		}
	}
}

// P17.2, P17.3: what is packed is unpacked under the same key.
func TestUnpack(t *testing.T) {
	for _, size := range rightSizes() {
		for _, n := range fewNumbers(size) {
			l := entries(n, size)
			unpacks(t, []byte("key"), packs(t, []byte("key"), 3, l, size), 3, l)
		}
		for _, count := range rightCounts() {
			l := entries(3, size)
			unpacks(t, []byte("key"), packs(t, []byte("key"), count, l, size), count, l)
		}
		for _, key := range keys() {
			l := entries(4, size)
			unpacks(t, key, packs(t, key, 5, l, size), 5, l)
		}
	}
}

// P17.2: what stands behind the record is nothing: noughts, anything, or records.
func TestUnpackBehind(t *testing.T) {
	key := []byte("key")
	for _, size := range fewSizes() {
		for _, n := range fewNumbers(size) {
			l := entries(n, size)
			record := plainPack(key, 3, l, size)
			for _, behind := range [][][]byte{
				{make([]byte, size)}, {filled(1, size)}, {make([]byte, size), filled(2, size), make([]byte, size)}, plainPack(key, 4, entries(2, size), size), record, {bytes.Repeat([]byte{255}, size)},
			} {
				unpacks(t, key, slices.Concat(record, behind), 3, l)
			}
		}
	}
}

// P17.2: no sectors at all.
func TestUnpackNone(t *testing.T) {
	for _, key := range keys() {
		noUnpack(t, key, nil, api.ErrArg)
		noUnpack(t, key, [][]byte{}, api.ErrArg)
	}
}

// P17.2: sectors of a size that may not be, be there a head or not.
func TestUnpackWrongSizes(t *testing.T) {
	key := []byte("key")
	for _, size := range wrongSizes() {
		if size < 0 || size > 4096 {
			continue
		}
		for _, n := range []int{1, 2, 3, 5} {
			l := slices.Repeat([][]byte{make([]byte, size)}, n)
			noUnpack(t, key, l, api.ErrArg)
		}
		if size >= 48 {
			noUnpack(t, key, plainPack(key, 3, nil, size), api.ErrArg)
			noUnpack(t, key, plainPack(key, 3, entries(2, size), size), api.ErrArg)
		}
	}
	noUnpack(t, key, [][]byte{nil}, api.ErrArg)
	noUnpack(t, key, [][]byte{nil, nil}, api.ErrArg)
	noUnpack(t, key, [][]byte{{}}, api.ErrArg)
}

// P17.2: sectors of unlike sizes, at each place, behind the record, too, be the rest a record, another one's, or none.
func TestUnpackUnlikeSizes(t *testing.T) {
	key := []byte("key")
	for _, size := range fewSizes() {
		record := append(plainPack(key, 3, entries(2, size), size), make([]byte, size), make([]byte, size))
		headless := copied(record)
		headless[0][0] ^= 1
		few := copied(record[:3])
		for _, whole := range [][][]byte{record, headless, few} {
			for place := range whole {
				for _, other := range []int{0, 1, 16, 48, 64, 80, 112, 128, 240, 256, 272, size - 1, size + 1, size - 16, size + 16, 2 * size} {
					if other == size {
						continue
					}
					l := copied(whole)
					l[place] = append(l[place], make([]byte, 2*size)...)[:min(other, 3*size)]
					noUnpack(t, key, l, api.ErrArg)
					noUnpack(t, []byte("kex"), l, api.ErrArg)
				}
				l := copied(whole)
				l[place] = nil
				noUnpack(t, key, l, api.ErrArg)
			}
		}
	}
}

// P17.2: a first sector that is no head, whatever follows, and whatever the key.
func TestUnpackNoHead(t *testing.T) {
	for _, size := range fewSizes() {
		for _, key := range [][]byte{nil, []byte("key"), []byte("kex")} {
			record := plainPack([]byte("key"), 3, entries(2, size), size)
			for place := 0; place < 4; place++ {
				l := copied(record)
				l[0][place] ^= 1
				noUnpack(t, key, l, api.ErrForm)
			}
			for place := 48; place < size; place++ {
				l := copied(record)
				l[0][place] = 1
				noUnpack(t, key, l, api.ErrForm)
			}
			noUnpack(t, key, record[1:], api.ErrForm)
			noUnpack(t, key, [][]byte{make([]byte, size)}, api.ErrForm)
			noUnpack(t, key, append([][]byte{make([]byte, size)}, record...), api.ErrForm)
			for _, count := range greats() {
				noUnpack(t, key, sealed(key, saidOf(count, 0), nil, size), api.ErrForm)
			}
			for _, n := range []uint32{many + 1, 1<<32 - 1, 1 << 31, 1 << 24} {
				noUnpack(t, key, sealed(key, saidOf(3, n), make([]byte, 8*size), size), api.ErrForm)
			}
		}
	}
}

// P17.2: fewer sectors than the record has, by one up to all but the head, under whatever key.
func TestUnpackFewer(t *testing.T) {
	for _, size := range fewSizes() {
		for _, n := range fewNumbers(size)[1:] {
			record := plainPack([]byte("key"), 3, entries(n, size), size)
			for _, key := range [][]byte{[]byte("key"), []byte("kex")} {
				for _, have := range []int{1, 2, n, n + 1, len(record) / 2, len(record) - 2, len(record) - 1} {
					if have >= 1 && have < len(record) {
						noUnpack(t, key, record[:have], api.ErrForm)
					}
				}
			}
		}
		// A tag that is right of what there is makes it no record, if it says more.
		for _, rest := range []int{0, 1, 2, 3} {
			noUnpack(t, []byte("key"), sealed([]byte("key"), saidOf(3, 3), make([]byte, rest*size), size), api.ErrForm)
			noUnpack(t, []byte("key"), sealed([]byte("key"), saidOf(3, many), make([]byte, rest*size), size), api.ErrForm)
		}
		unpacks(t, []byte("key"), sealed([]byte("key"), saidOf(3, 3), make([]byte, 4*size), size), 3, slices.Repeat([]api.Entry{{Data: make([]byte, size)}}, 3))
	}
}

// P17.2: under each other key the tag is another one; keys that are one but for noughts behind them have one tag.
func TestUnpackOtherKey(t *testing.T) {
	for _, size := range fewSizes() {
		for _, key := range keys() {
			record := plainPack(key, 3, entries(3, size), size)
			for _, other := range keys() {
				long, short := other, key
				if len(long) < len(short) {
					long, short = short, long
				}
				if bytes.Equal(long, short) || len(long) <= 64 && bytes.Equal(long, append(slices.Clone(short), make([]byte, len(long)-len(short))...)) {
					unpacks(t, other, record, 3, entries(3, size))
				} else {
					noUnpack(t, other, record, api.ErrSum)
				}
			}
		}
	}
}

// P17.2, P17.3: with any one bit of the record turned it isn't unpacked, and what is told is what the words say.
func TestUnpackEveryBit(t *testing.T) {
	key := []byte("key")
	for _, c := range []struct{ n, size int }{{0, 64}, {0, 80}, {1, 64}, {1, 80}, {3, 64}, {17, 64}, {2, 256}} {
		record := plainPack(key, 3, entries(c.n, c.size), c.size)
		behind := slices.Concat(record, [][]byte{make([]byte, c.size), make([]byte, c.size)})
		for i, b := range record {
			for bit := range 8 * len(b) {
				b[bit/8] ^= 1 << (bit % 8)
				if told(t, key, record) == api.OK || told(t, key, behind) == api.OK {
					t.Fatalf("with the bit %d of sector %d turned it is unpacked", bit, i)
				}
				b[bit/8] ^= 1 << (bit % 8)
			}
		}
		if told(t, key, record) != api.OK || told(t, key, behind) != api.OK {
			t.Fatalf("the record of %d entries isn't unpacked", c.n)
		}
	}
}

// P17.2, P17.3: of the changed byte's place hangs what is told: ErrForm of what Head looks at, else ErrSum.
func TestUnpackChanged(t *testing.T) {
	key, size := []byte("key"), 64
	for _, one := range []byte{1, 128, 255} {
		record := plainPack(key, 3, entries(17, size), size)
		for i, b := range record {
			for place := range b {
				want := api.ErrSum
				if i == 0 && (place < 4 || place >= 48) {
					want = api.ErrForm
				}
				b[place] ^= one
				switch {
				case i == 0 && place >= 4 && place < 16:
					told(t, key, record)
				default:
					noUnpack(t, key, record, want)
				}
				b[place] ^= one
			}
		}
	}
	// Another count is ErrSum; fewer entries, too, as all their sectors are there; more entries than there are sectors of: ErrForm.
	record := plainPack(key, 3, entries(3, size), size)
	for place, want := range map[int]api.Errno{11: api.ErrSum, 6: api.ErrForm, 7: api.ErrSum, 15: api.ErrSum, 14: api.ErrForm, 13: api.ErrForm, 12: api.ErrForm} {
		l := copied(record)
		l[0][place] ^= 1
		noUnpack(t, key, l, want)
	}
}

// P17.3: sectors that are changed for each other, left out, put twice, or taken out of another record make it another one.
func TestUnpackMoved(t *testing.T) {
	key := []byte("key")
	for _, size := range fewSizes() {
		record := plainPack(key, 3, entries(5, size), size)
		unlike := entries(5, size)
		unlike[4].Data[size-1] ^= 1
		other := plainPack(key, 3, unlike, size)
		short := plainPack(key, 3, entries(4, size), size)
		for i := range record {
			for j := range record {
				if i == j {
					continue
				}
				l := copied(record)
				l[i], l[j] = l[j], l[i]
				want := api.ErrSum
				if i == 0 || j == 0 {
					want = api.ErrForm
				}
				noUnpack(t, key, l, want)
			}
			if i > 0 {
				noUnpack(t, key, append(slices.Delete(copied(record), i, i+1), make([]byte, size)), api.ErrSum)
			}
			if i > 0 && i < len(record)-1 {
				noUnpack(t, key, slices.Insert(copied(record), i, make([]byte, size)), api.ErrSum)
			}
		}
		for _, head := range [][]byte{other[0], short[0]} {
			noUnpack(t, key, append([][]byte{head}, record[1:]...), api.ErrSum)
		}
		last := len(record) - 1
		noUnpack(t, key, slices.Concat(record[:last], other[last:]), api.ErrSum)
		unpacks(t, key, slices.Concat(other[:1], record[1:last], other[last:]), 3, unlike)
	}
}

// P17.2: with a tag that is right, something behind the index isn't taken, at whatever place.
func TestUnpackBehindIndex(t *testing.T) {
	key := []byte("key")
	for _, size := range fewSizes() {
		for _, n := range []int{1, 2, size/4 - 1, size/4 + 1} {
			index := plainIndex(size, make([]uint32, n)...)
			contents := filled(n, n*size)
			for place := 4 * n; place < len(index); place++ {
				for _, one := range []byte{1, 128, 255} {
					index[place] = one
					noUnpack(t, key, sealed(key, saidOf(3, uint32(n)), slices.Concat(index, contents), size), api.ErrSum)
					index[place] = 0
				}
			}
			l := sealed(key, saidOf(3, uint32(n)), slices.Concat(index, contents), size)
			if told(t, key, l) != api.OK {
				t.Fatalf("with noughts behind the index it isn't unpacked")
			}
		}
	}
}

// P17.2: with a tag that is right, a Sector beyond MaxSectors - 1 isn't taken, at whatever place.
func TestUnpackGreatSector(t *testing.T) {
	key := []byte("key")
	for _, size := range fewSizes() {
		for _, n := range []int{1, 3, size / 4, size/4 + 1} {
			contents := filled(n, n*size)
			for _, place := range []int{0, n / 2, n - 1} {
				for _, sector := range []uint32{0, 1, api.MaxSectors - 2, api.MaxSectors - 1, api.MaxSectors, api.MaxSectors + 1, 1 << 21, 1<<24 - 1, 1 << 24, 1<<24 + 1, 1<<31 - 1, 1 << 31, 1<<31 + 5, 1<<32 - 1} {
					sectors := make([]uint32, n)
					for i := range sectors {
						sectors[i] = uint32(100 + i)
					}
					sectors[place] = sector
					l := sealed(key, saidOf(3, uint32(n)), slices.Concat(plainIndex(size, sectors...), contents), size)
					if e := told(t, key, l); (e == api.OK) != (sector < api.MaxSectors) || e != api.OK && e != api.ErrSum {
						t.Fatalf("of sector %d the words say %d", sector, e)
					}
				}
			}
		}
	}
}

// P17.1 to P17.3: drawn records, whole and spoilt in drawn ways, are told as the words say.
func TestAsTheWordsSay(t *testing.T) {
	r := rand.New(rand.NewSource(17))
	tells := map[api.Errno]int{}
	for range 3000 {
		size := rightSizes()[r.Intn(13)]
		key, count, l := filled(r.Intn(1000), r.Intn(100)), r.Intn(top+1)>>r.Intn(41), drawn(r, size)
		record := packs(t, key, count, l, size)
		for range r.Intn(3) {
			record = spoilt(r, key, copied(record))
		}
		tells[told(t, key, record)]++
	}
	for _, e := range []api.Errno{api.OK, api.ErrArg, api.ErrForm, api.ErrSum} {
		if tells[e] < 100 {
			t.Errorf("%d is told %d times alone", e, tells[e])
		}
	}
}

// drawn is some entries.
func drawn(r *rand.Rand, size int) []api.Entry {
	l := make([]api.Entry, r.Intn(40))
	for i := range l {
		l[i] = api.Entry{Sector: r.Intn(api.MaxSectors) >> r.Intn(20), Data: filled(r.Intn(1000), size)}
	}
	return l
}

// spoilt is a record that something is done to: some of it leaves it as it is.
func spoilt(r *rand.Rand, key []byte, l [][]byte) [][]byte {
	if len(l) == 0 || len(l[0]) < 48 {
		return l
	}
	i, size := r.Intn(len(l)), len(l[0])
	switch r.Intn(9) {
	case 0:
		return append(l, filled(r.Intn(1000), size))
	case 1:
		return l[:r.Intn(len(l)+1)]
	case 2:
		l[i][r.Intn(len(l[i]))] ^= byte(r.Intn(256))
	case 3:
		l[0][4+r.Intn(12)] = byte(r.Intn(4))
	case 4:
		l[i] = l[i][:r.Intn(len(l[i])+1)]
	case 5:
		j := r.Intn(len(l))
		l[i], l[j] = l[j], l[i]
	case 6:
		rest := bytes.Join(l[1:], nil)
		if len(rest) > 0 {
			rest[r.Intn(min(len(rest), 2*size))] = byte(r.Intn(256)) >> r.Intn(8)
		}
		return sealed(key, l[0][:16], rest[:len(rest)/size*size], size)
	case 7:
		l[0][48+r.Intn(size-47)-1] ^= byte(r.Intn(2))
	}
	return l
}

// P17.3: records of unlike counts, entries, keys are unlike.
func TestUnlikeRecords(t *testing.T) {
	for _, size := range fewSizes() {
		var records [][][]byte
		for _, key := range [][]byte{[]byte("key"), []byte("kex")} {
			for count := range 3 {
				for n := range 4 {
					records = append(records, packs(t, key, count, entries(n, size), size))
				}
			}
		}
		for i, a := range records {
			for j, b := range records {
				if bytes.Equal(a[0][16:48], b[0][16:48]) != (i == j) {
					t.Errorf("the records %d and %d: one tag is %v", i, j, i != j)
				}
			}
		}
	}
}

// What is handed in is not changed, be it within room for more or not, and whatever is told.
func TestNothingIsChanged(t *testing.T) {
	size := 64
	key := append(filled(1, 32), 7, 7, 7, 7)
	l := entries(17, size)
	for i := range l {
		l[i].Data = append(l[i].Data, 9, 8, 7)[:size]
	}
	room := append(l, api.Entry{Sector: 5, Data: filled(5, size)}, api.Entry{Sector: -5})
	wasKey, was := slices.Clone(key), copiedEntries(room)
	for _, c := range []struct{ count, size, room int }{{3, size, 20}, {3, size, 19}, {-1, size, 20}, {3, 80, 20}, {3, 65, 20}} {
		Pack(key[:32], c.count, room[:17], c.size, c.room)
		Pack(key[:32], c.count, room, c.size, c.room)
	}
	for _, x := range l {
		if whole := x.Data[:size+3]; !bytes.Equal(whole[size:], []byte{9, 8, 7}) {
			t.Errorf("behind the data stands %x", whole[size:])
		}
	}
	if !bytes.Equal(key, wasKey) || !sameEntries(room, was) {
		t.Errorf("Pack changed what it was handed in")
	}
	record := append(plainPack(key[:32], 3, entries(17, size), size), filled(1, size), make([]byte, 3))
	for i := range record {
		record[i] = append(record[i], 5, 6)[:len(record[i])]
	}
	wasRecord := copied(record)
	Head(record[0])
	for _, n := range []int{0, 1, 19, 20, 21, 22} {
		Unpack(key[:32], record[:n])
		Unpack(key[:31], record[:n])
	}
	for i, b := range record {
		if whole := b[:len(b)+2]; !bytes.Equal(b, wasRecord[i]) || !bytes.Equal(whole[len(b):], []byte{5, 6}) {
			t.Errorf("sector %d became %x", i, whole)
		}
	}
	if !bytes.Equal(key, wasKey) || len(record) != len(wasRecord) {
		t.Errorf("Unpack changed what it was handed in")
	}
}

// What the caller does later with what it handed in isn't seen in the answers.
func TestNothingHandedInIsKept(t *testing.T) {
	for _, size := range fewSizes() {
		for _, n := range fewNumbers(size) {
			key, l := filled(1, 32), entries(n, size)
			want := plainPack(key, 3, l, size)
			got, _ := Pack(key, 3, l, size, math.MaxInt)
			record := copied(want)
			_, out, _ := Unpack(key, record)
			clear(key)
			for _, x := range l {
				clear(x.Data)
			}
			for _, b := range record {
				clear(b)
			}
			clear(l)
			clear(record)
			if !sameTexts(got, want) {
				t.Errorf("the record of %d entries was changed", n)
			}
			if !sameEntries(out, entries(n, size)) {
				t.Errorf("the %d entries were changed", n)
			}
		}
	}
}

// What is done to an answer, behind its end, too, changes neither another part of it, nor another answer, nor what was handed in.
func TestAnswersAreNew(t *testing.T) {
	for _, size := range fewSizes() {
		for _, n := range fewNumbers(size) {
			key, l := filled(1, 32), entries(n, size)
			want := plainPack(key, 3, l, size)
			first, _ := Pack(key, 3, l, size, math.MaxInt)
			second, _ := Pack(key, 3, l, size, math.MaxInt)
			for i := range first {
				spoil(first[i])
				for j := i + 1; j < len(first); j++ {
					if !bytes.Equal(first[j], want[j]) {
						t.Fatalf("sector %d hangs on sector %d", j, i)
					}
				}
			}
			if !sameTexts(second, want) || !sameEntries(l, entries(n, size)) {
				t.Fatalf("another answer, or what was handed in, hangs on a record of %d entries", n)
			}
			_, one, _ := Unpack(key, second)
			_, other, _ := Unpack(key, second)
			for i := range one {
				spoil(one[i].Data)
				one[i].Sector = -1
				if !sameEntries(one[i+1:], l[i+1:]) {
					t.Fatalf("entries hang on entry %d", i)
				}
			}
			if !sameEntries(other, l) || !sameTexts(second, want) {
				t.Fatalf("another answer, or what was handed in, hangs on %d entries", n)
			}
		}
	}
}

// spoil changes bytes, and those behind them, up to their room.
func spoil(b []byte) {
	whole := b[:cap(b)]
	for i := range whole {
		whole[i] ^= 255
	}
}

// Who writes on behind a sector or an entry's data writes into no other.
func TestRoom(t *testing.T) {
	for _, size := range rightSizes() {
		l := entries(size/4+1, size)
		record := packs(t, []byte("key"), 3, l, size)
		out := unpacks(t, []byte("key"), record, 3, l)
		for i := range record {
			_ = append(record[i], 1, 2, 3)
		}
		for i := range out {
			_ = append(out[i].Data, 1, 2, 3)
			if cap(out[i].Data) != size {
				t.Fatalf("the data of entry %d has room for %d", i, cap(out[i].Data))
			}
		}
		if !sameTexts(record, plainPack([]byte("key"), 3, l, size)) || !sameEntries(out, l) {
			t.Fatalf("what was written behind is within")
		}
	}
}

// What stands behind the bytes that are handed in isn't read.
func TestNothingBehind(t *testing.T) {
	size := 64
	key, l := filled(1, 40), entries(3, size)
	want := plainPack(key[:32], 3, l, size)
	for _, one := range []byte{0, 1, 255} {
		for i := range l {
			l[i].Data = append(l[i].Data[:size:size], one, one)[:size]
		}
		if got := packs(t, key[:32], 3, l, size); !sameTexts(got, want) {
			t.Errorf("with %d behind: %x", one, got)
		}
		record := copied(want)
		for i := range record {
			record[i] = append(record[i], bytes.Repeat([]byte{one}, 32)...)[:size]
		}
		record = append(record, bytes.Repeat([]byte{one}, 5))[:len(want)]
		unpacks(t, key[:32], record, 3, entries(3, size))
		for n := 1; n < len(record); n++ {
			noUnpack(t, key[:32], record[:n], api.ErrForm)
		}
		heads(t, record[0], 3, 3, true)
	}
}

// A sector that stands in the list twice, in one and the same memory, is two sectors.
func TestSharedSectors(t *testing.T) {
	size, data := 64, filled(1, 64)
	l := []api.Entry{{Sector: 1, Data: data}, {Sector: 2, Data: data}, {Sector: 1, Data: data}}
	record := packs(t, []byte("key"), 3, l, size)
	record[3], record[4] = record[2], record[2]
	out := unpacks(t, []byte("key"), record, 3, l)
	spoil(out[0].Data)
	if !bytes.Equal(out[1].Data, data) || !bytes.Equal(out[2].Data, data) || !bytes.Equal(record[2], data) {
		t.Errorf("entries of one sector share memory")
	}
}

// The chapter's example: a record of one entry, with sectors of 64 bytes: three sectors.
func TestExample(t *testing.T) {
	l, e := Pack([]byte("key"), 1, []api.Entry{{Sector: 1, Data: make([]byte, 64)}}, 64, 3)
	if e != api.OK || len(l) != 3 || len(l[0]) != 64 || len(l[1]) != 64 || len(l[2]) != 64 {
		t.Errorf("%x, %d", l, e)
	}
	sizes(t, 1, 64, 3, true)
}

func BenchmarkPackAndUnpack(b *testing.B) {
	l := entries(100, 64)
	for b.Loop() {
		record, _ := Pack([]byte("key"), 3, l, 64, 1000)
		Unpack([]byte("key"), record)
	}
}
