package hmac

import (
	"bytes"
	reference "crypto/hmac"
	"crypto/sha256"
	"encoding/binary"
	"encoding/hex"
	"math/rand"
	"slices"
	"strings"
	"testing"

	"chatelaine/sha"
)

// drawn is n bytes that are the same in each run.
func drawn(n int) []byte {
	b := make([]byte, n)
	rand.New(rand.NewSource(int64(n))).Read(b)
	return b
}

// expected is a tag, made by another program.
func expected(key []byte, parts ...[]byte) [32]byte {
	h := reference.New(sha256.New, key)
	for _, p := range parts {
		h.Write(p)
	}
	return [32]byte(h.Sum(nil))
}

// expectedChain is a chain by the chapter's words, of tags made by another program.
func expectedChain(key []byte, begin [32]byte, items ...[]byte) [][32]byte {
	var l [][32]byte
	for _, item := range items {
		text := binary.BigEndian.AppendUint64(bytes.Clone(begin[:]), uint64(len(item)))
		begin = expected(key, append(text, item...))
		l = append(l, begin)
	}
	return l
}

// keys is keys of every number of bytes up to 200: noughts, all bits, and drawn ones; and a long one.
func keys() [][]byte {
	l := [][]byte{nil, {}}
	for n := range 201 {
		l = append(l, make([]byte, n), bytes.Repeat([]byte{0xff}, n), drawn(n))
	}
	return append(l, drawn(100000))
}

// fewKeys is one key of each sort, and of those at the edges.
func fewKeys() [][]byte {
	l := [][]byte{nil}
	for _, n := range []int{1, 20, 32, 63, 64, 65, 128, 131} {
		l = append(l, drawn(n))
	}
	return l
}

// P6.1: printed tags.
func TestTagPrinted(t *testing.T) {
	rising := make([]byte, 25)
	for i := range rising {
		rising[i] = byte(i + 1)
	}
	for _, c := range []struct {
		key, text []byte
		want      string
	}{
		{nil, nil, "b613679a0814d9ec772f95d778c35fc5ff1697c493715653c6c712144292c5ad"},
		{bytes.Repeat([]byte{0x0b}, 20), []byte("Hi There"), "b0344c61d8db38535ca8afceaf0bf12b881dc200c9833da726e9376c2e32cff7"},
		{[]byte("Jefe"), []byte("what do ya want for nothing?"), "5bdcc146bf60754e6a042426089575c75a003f089d2739839dec58b964ec3843"},
		{bytes.Repeat([]byte{0xaa}, 20), bytes.Repeat([]byte{0xdd}, 50), "773ea91e36800e46854db8ebd09181a72959098b3ef8c122d9635514ced565fe"},
		{rising, bytes.Repeat([]byte{0xcd}, 50), "82558a389a443c0ea4cc819899f2083a85f0faa3e578f8077a2e3ff46729665b"},
		{bytes.Repeat([]byte{0x0c}, 20), []byte("Test With Truncation"), "a3b6167473100ee06e0c796c2955552b"},
		{bytes.Repeat([]byte{0xaa}, 131), []byte("Test Using Larger Than Block-Size Key - Hash Key First"), "60e431591ee0b67f0d8a26aacbf5b77f8e0bc6213728c5140546040f0ee37f54"},
		{bytes.Repeat([]byte{0xaa}, 131), []byte("This is a test using a larger than block-size key and a larger than block-size data. The key needs to be hashed before being used by the HMAC algorithm."), "9b09ffa71b942fcb27635fbcd5b0e944bfdc63644f0713938a7f51535c3a35e2"},
	} {
		tag := Tag(c.key, c.text)
		if got := hex.EncodeToString(tag[:]); !strings.HasPrefix(got, c.want) {
			t.Errorf("of %d bytes under %d: %s, not %s", len(c.text), len(c.key), got, c.want)
		}
	}
}

// P6.1: keys of every number of bytes, fewer than 64, 64 and more, with no parts, with one and with many.
func TestTagOfEveryKey(t *testing.T) {
	lists := [][][]byte{nil, {}, {nil}, {{}}, {drawn(1)}, {drawn(64)}, {drawn(200)}, {drawn(3), nil, drawn(70), {}, drawn(64)}}
	for _, key := range keys() {
		for _, parts := range lists {
			if got, want := Tag(key, parts...), expected(key, parts...); got != want {
				t.Fatalf("of %d parts under %d bytes: %x, not %x", len(parts), len(key), got, want)
			}
		}
		if Tag(key) != expected(key) {
			t.Fatalf("of no parts under %d bytes: another tag", len(key))
		}
	}
}

// P6.1: texts of every length over several pieces.
func TestTagOfEveryLength(t *testing.T) {
	for _, key := range fewKeys() {
		for n := range 200 {
			if text := drawn(n); Tag(key, text) != expected(key, text) {
				t.Fatalf("of %d bytes under %d: another tag", n, len(key))
			}
		}
	}
}

// P6.1: parts stand one behind the other: where they are cut makes no difference, their order does.
func TestTagOfCutText(t *testing.T) {
	text := drawn(150)
	var single [][]byte
	for i := range text {
		single = append(single, text[i:i+1])
	}
	for _, key := range fewKeys() {
		want := expected(key, text)
		for i := range text {
			if Tag(key, text[:i], text[i:]) != want || Tag(key, nil, text[:i], []byte{}, text[i:], nil) != want {
				t.Fatalf("under %d bytes, cut at %d: another tag", len(key), i)
			}
		}
		if Tag(key, single...) != want {
			t.Fatalf("under %d bytes, cut into bytes: another tag", len(key))
		}
		if Tag(key, text[:70], text[70:]) == Tag(key, text[70:], text[:70]) {
			t.Fatalf("under %d bytes: parts in another order have one tag", len(key))
		}
	}
}

// P6.1: each byte of a key, and of a text, makes a difference.
func TestTagTellsApart(t *testing.T) {
	seen := map[[32]byte]int{}
	for _, n := range []int{1, 63, 64, 65, 130} {
		b := bytes.Repeat([]byte{7}, n)
		for i := range b {
			b[i] ^= 1
			seen[Tag(b, []byte("text"))]++
			seen[Tag([]byte("key"), b)]++
			b[i] ^= 1
		}
	}
	if want := 2 * (1 + 63 + 64 + 65 + 130); len(seen) != want {
		t.Errorf("%d unlike keys and texts have %d tags", want, len(seen))
	}
}

// P6.1: the pads of keys of every number of bytes, each byte by the chapter's words.
func TestPads(t *testing.T) {
	for _, key := range keys() {
		whole := bytes.Clone(key)
		if len(key) > 64 {
			sum := sha256.Sum256(key)
			whole = sum[:]
		}
		for len(whole) < 64 {
			whole = append(whole, 0)
		}
		inner, outer := Pads(key)
		for i, b := range whole {
			if inner[i] != b^0x36 || outer[i] != b^0x5c {
				t.Fatalf("Pads of %d bytes, at %d: %02x and %02x", len(key), i, inner[i], outer[i])
			}
		}
	}
}

// P6.1: the pads at the edges by hand.
func TestPadsEdges(t *testing.T) {
	inner, outer := Pads(nil)
	if !bytes.Equal(inner[:], bytes.Repeat([]byte{0x36}, 64)) || !bytes.Equal(outer[:], bytes.Repeat([]byte{0x5c}, 64)) {
		t.Errorf("Pads of no bytes: %x and %x", inner, outer)
	}
	inner, outer = Pads(bytes.Repeat([]byte{0xff}, 64))
	if !bytes.Equal(inner[:], bytes.Repeat([]byte{0xc9}, 64)) || !bytes.Equal(outer[:], bytes.Repeat([]byte{0xa3}, 64)) {
		t.Errorf("Pads of 64 bytes: %x and %x", inner, outer)
	}
	inner, outer = Pads(make([]byte, 65))
	if inner[0] != 0x98^0x36 || outer[0] != 0x98^0x5c || inner[32] != 0x36 || outer[63] != 0x5c {
		t.Errorf("Pads of 65 noughts: %x and %x", inner, outer)
	}
}

// P6.1: a tag is the sum of the outer pad, and the sum of the inner one and the bytes.
func TestTagHasPads(t *testing.T) {
	text := drawn(90)
	for _, key := range keys() {
		inner, outer := Pads(key)
		inside := sha.Sum(inner[:], text)
		if Tag(key, text) != sha.Sum(outer[:], inside[:]) {
			t.Fatalf("under %d bytes: a tag of other pads", len(key))
		}
	}
}

// P6.1: a key of more than 64 bytes is its sum, one of 64 is not.
func TestLongKeyIsItsSum(t *testing.T) {
	text := []byte("text")
	for n := 60; n < 200; n++ {
		sum := sha.Sum(drawn(n))
		if like := Tag(drawn(n), text) == Tag(sum[:], text); like != (n > 64) {
			t.Errorf("a key of %d bytes, and its sum: %v", n, like)
		}
	}
}

// items is a list with items of no bytes, of few and of many.
func items() [][]byte {
	return [][]byte{drawn(5), nil, drawn(64), {}, nil, drawn(300), make([]byte, 8), drawn(70000), drawn(1)}
}

// P6.2: chains of no items, of one and of many, under keys of every sort, from several begins.
func TestChain(t *testing.T) {
	list := items()
	for _, key := range fewKeys() {
		for _, begin := range [][32]byte{{}, {31: 1}, [32]byte(drawn(32))} {
			for n := range len(list) + 1 {
				got, want := Chain(key, begin, list[:n]...), expectedChain(key, begin, list[:n]...)
				if !slices.Equal(got, want) {
					t.Fatalf("a chain of %d items under %d bytes: %x, not %x", n, len(key), got, want)
				}
			}
		}
	}
}

// P6.2: one item of each number of bytes around the places where the number takes another byte.
func TestChainHasNumbers(t *testing.T) {
	key, begin := drawn(16), [32]byte(drawn(32))
	for _, n := range []int{0, 1, 2, 255, 256, 257, 1<<16 - 1, 1 << 16, 1<<24 - 1, 1 << 24} {
		item := make([]byte, n)
		if got := Chain(key, begin, item); !slices.Equal(got, expectedChain(key, begin, item)) {
			t.Errorf("a chain of one item of %d bytes: %x", n, got)
		}
	}
}

// P6.2: no items, no tags.
func TestChainOfNothing(t *testing.T) {
	for _, list := range [][][]byte{nil, {}} {
		if got := Chain([]byte("key"), [32]byte{1}, list...); len(got) != 0 {
			t.Errorf("a chain of no items: %x", got)
		}
	}
	if got := Chain(nil, [32]byte{}); len(got) != 0 {
		t.Errorf("a chain of no items: %x", got)
	}
}

// P6.2: items without bytes have tags too, each another one, nil or empty the same.
func TestChainOfEmptyItems(t *testing.T) {
	a, b := Chain(nil, [32]byte{}, nil, nil, nil), Chain(nil, [32]byte{}, []byte{}, nil, []byte{})
	if !slices.Equal(a, b) || len(a) != 3 || a[0] == a[1] || a[1] == a[2] || a[0] == a[2] {
		t.Errorf("chains of three items without bytes: %x and %x", a, b)
	}
}

// P6.2: where items are cut, their order, the key and the begin make a difference.
func TestChainTellsApart(t *testing.T) {
	last := map[[32]byte]int{}
	for _, list := range [][][]byte{
		{[]byte("ab"), []byte("c")}, {[]byte("a"), []byte("bc")}, {[]byte("c"), []byte("ab")}, {[]byte("abc")},
		{[]byte("abc"), nil}, {nil, []byte("abc")}, {nil, []byte("abc"), nil},
	} {
		for _, begin := range [][32]byte{{}, {1}, {31: 1}} {
			for _, key := range []string{"", "k", "l"} {
				l := Chain([]byte(key), begin, list...)
				last[l[len(l)-1]]++
			}
		}
	}
	if want := 7 * 3 * 3; len(last) != want {
		t.Errorf("%d unlike chains have %d last tags", want, len(last))
	}
}

// P6.3: noughts behind a key, up to 64 bytes, change no tag, no pad and no chain.
func TestNoughtsBehindKey(t *testing.T) {
	text, begin := drawn(77), [32]byte(drawn(32))
	for n := range 65 {
		key := bytes.Repeat([]byte{0x5a}, n)
		tag, chain := Tag(key, text), Chain(key, begin, text, nil)
		inner, outer := Pads(key)
		for size := n; size <= 64; size++ {
			long := make([]byte, size)
			copy(long, key)
			in, out := Pads(long)
			if Tag(long, text) != tag || in != inner || out != outer || !slices.Equal(Chain(long, begin, text, nil), chain) {
				t.Fatalf("a key of %d bytes, with noughts up to %d: other tags", n, size)
			}
		}
	}
}

// P6.3: beyond 64 bytes a nought does make a difference, and so does one ahead of a key.
func TestNoughtsElsewhere(t *testing.T) {
	text := []byte("text")
	for n := range 64 {
		key := bytes.Repeat([]byte{0x5a}, n)
		long := append(bytes.Clone(key), make([]byte, 65-n)...)
		if Tag(key, text) == Tag(long, text) {
			t.Errorf("a key of %d bytes, and one with noughts up to 65, have one tag", n)
		}
		if n > 0 && Tag(key, text) == Tag(append([]byte{0}, key...), text) {
			t.Errorf("a key of %d bytes, and one with a nought ahead, have one tag", n)
		}
	}
}

// P6.3: a chain, cut in two at every place, is the first one's tags, and goes on from the last.
func TestChainOfTwoLists(t *testing.T) {
	list := items()
	for _, key := range fewKeys() {
		begin := [32]byte(drawn(32))
		whole := Chain(key, begin, list...)
		for i := range len(list) + 1 {
			first := Chain(key, begin, list[:i]...)
			from := begin
			if i > 0 {
				from = first[i-1]
			}
			if got := append(first, Chain(key, from, list[i:]...)...); !slices.Equal(got, whole) {
				t.Fatalf("under %d bytes, cut at %d: another chain", len(key), i)
			}
		}
	}
}

// What is handed in stays as it is: the bytes, what lies beyond their ends, and the lists.
func TestNothingIsChanged(t *testing.T) {
	whole := drawn(400)
	before := bytes.Clone(whole)
	list := make([][]byte, 2, 4)
	list[0], list[1] = whole[100:130], whole[130:131]
	for _, key := range [][]byte{whole[:10], whole[:64], whole[:90]} {
		Tag(key, list...)
		Pads(key)
		Chain(key, [32]byte{}, list...)
	}
	beyond := list[:4]
	if !bytes.Equal(whole, before) || &beyond[0][0] != &whole[100] || &beyond[1][0] != &whole[130] || beyond[2] != nil || beyond[3] != nil {
		t.Error("what was handed in was changed")
	}
}

// What is done to an answer, or to what was handed in, is seen in no other answer.
func TestAnswersAreNew(t *testing.T) {
	key, item := drawn(20), drawn(30)
	a := Chain(key, [32]byte{}, item, item)
	want := slices.Clone(a)
	b := Chain(key, [32]byte{}, item, item)
	a[0], a[1] = [32]byte{}, [32]byte{}
	key[0]++
	item[0]++
	if !slices.Equal(b, want) {
		t.Error("an answer of Chain was changed")
	}
}

// The chapter's example.
func TestExample(t *testing.T) {
	tag := Tag(bytes.Repeat([]byte{0x0b}, 20), []byte("Hi There"))
	if got := sha.Hex(tag); !strings.HasPrefix(got, "b0344c61") {
		t.Errorf("of Hi There: %s", got)
	}
}

func BenchmarkTag(b *testing.B) {
	key, text := drawn(32), drawn(64)
	for b.Loop() {
		Tag(key, text)
	}
}
