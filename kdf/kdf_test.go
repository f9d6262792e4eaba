package kdf

import (
	"bytes"
	reference "crypto/hmac"
	"crypto/sha256"
	"encoding/binary"
	"encoding/hex"
	"math"
	"math/rand"
	"slices"
	"strings"
	"testing"

	"chatelaine/api"
)

// drawn is n bytes that are the same in each run.
func drawn(n int) []byte {
	b := make([]byte, n)
	rand.New(rand.NewSource(int64(n))).Read(b)
	return b
}

// expected is a derived key by the chapter's words, of tags made by another program.
func expected(key []byte, label string, n int, contexts ...[]byte) []byte {
	var made []byte
	for i := 1; len(made) < n; i++ {
		text := append([]byte{byte(i)}, label...)
		text = append(text, 0)
		for _, c := range contexts {
			text = binary.BigEndian.AppendUint64(text, uint64(len(c)))
			text = append(text, c...)
		}
		text = binary.BigEndian.AppendUint16(text, uint16(n))
		h := reference.New(sha256.New, key)
		h.Write(text)
		made = h.Sum(made)
	}
	return made[:n]
}

// keys is keys of one byte, of few and of many, around the 64 bytes at which a tag's key is its sum; noughts among them.
func keys() [][]byte {
	l := [][]byte{{0}, {0xff}, make([]byte, 32)}
	for _, n := range []int{1, 5, 16, 32, 63, 64, 65, 128, 1000} {
		l = append(l, drawn(n))
	}
	return l
}

// labels is labels that are allowed: none, one byte, each byte but 0, and as many as there may be.
func labels() []string {
	l := []string{"", "a", "leaf", "\x01", "\xff", "a label with spaces", "Größe", strings.Repeat("l", 63), strings.Repeat("m", 64), strings.Repeat("\xff", 64)}
	all := make([]byte, 255)
	for i := range all {
		all[i] = byte(i + 1)
	}
	for part := range slices.Chunk(all, 64) {
		l = append(l, string(part))
	}
	return l
}

// lists is lists of contexts: none, one, many, with empty ones at the begin, between and at the end.
func lists() [][][]byte {
	many := make([][]byte, 300)
	for i := range many {
		many[i] = drawn(i)
	}
	return [][][]byte{
		nil, {}, {nil}, {{}}, {nil, {}, nil}, {{7}}, {{0}}, {drawn(32)}, {drawn(255)}, {drawn(256)}, {drawn(70000)},
		{drawn(3), nil, drawn(70), {}, drawn(64)}, {nil, drawn(8)}, {drawn(8), nil}, many,
	}
}

// allowed is Derive's answer, which must be none of an error.
func allowed(t *testing.T, key []byte, label string, n int, contexts ...[]byte) []byte {
	t.Helper()
	b, e := Derive(key, label, n, contexts...)
	if e != api.OK || len(b) != n {
		t.Fatalf("%d bytes under %d, for %q and %d contexts: %d bytes, %d", n, len(key), label, len(contexts), len(b), e)
	}
	return b
}

// P8.1: each number of bytes from 1 to 128.
func TestDeriveOfEachNumber(t *testing.T) {
	for n := 1; n <= 128; n++ {
		for _, key := range [][]byte{drawn(1), drawn(32), drawn(100)} {
			for _, contexts := range [][][]byte{nil, {drawn(9)}, {nil, drawn(70), nil}} {
				if got, want := allowed(t, key, "label", n, contexts...), expected(key, "label", n, contexts...); !bytes.Equal(got, want) {
					t.Fatalf("%d bytes under %d, with %d contexts: %x, not %x", n, len(key), len(contexts), got, want)
				}
			}
		}
	}
}

// P8.1: each key with each label and each list of contexts.
func TestDeriveOfEachSort(t *testing.T) {
	for _, contexts := range lists() {
		for _, label := range labels() {
			for _, key := range keys() {
				n := 1 + (len(key)+len(label)+len(contexts))%128
				if got, want := allowed(t, key, label, n, contexts...), expected(key, label, n, contexts...); !bytes.Equal(got, want) {
					t.Fatalf("%d bytes under %d, for %q and %d contexts: %x, not %x", n, len(key), label, len(contexts), got, want)
				}
			}
		}
	}
}

// P8.1: contexts at the places where the number of their bytes takes another byte.
func TestDeriveHasNumbers(t *testing.T) {
	for _, n := range []int{0, 1, 255, 256, 257, 1<<16 - 1, 1 << 16, 1<<24 - 1, 1 << 24} {
		context := make([]byte, n)
		if got := allowed(t, []byte("key"), "label", 33, context); !bytes.Equal(got, expected([]byte("key"), "label", 33, context)) {
			t.Errorf("with a context of %d noughts: %x", n, got)
		}
	}
}

// P8.1: more contexts than a byte can number.
func TestDeriveOfManyContexts(t *testing.T) {
	for _, n := range []int{255, 256, 257, 70000} {
		contexts := make([][]byte, n)
		contexts[n-1] = []byte{1}
		if got := allowed(t, []byte("key"), "label", 128, contexts...); !bytes.Equal(got, expected([]byte("key"), "label", 128, contexts...)) {
			t.Errorf("with %d contexts: %x", n, got)
		}
	}
}

// P8.1: written out: what is tagged, byte by byte, for the first tag and the second.
func TestDeriveWrittenOut(t *testing.T) {
	tag := func(text string) []byte {
		h := reference.New(sha256.New, []byte("key"))
		h.Write([]byte(text))
		return h.Sum(nil)
	}
	for _, c := range []struct {
		got  []byte
		text string
	}{
		{allowed(t, []byte("key"), "", 32), "\x01\x00\x00\x20"},
		{allowed(t, []byte("key"), "ab", 32), "\x01ab\x00\x00\x20"},
		{allowed(t, []byte("key"), "ab", 32, nil), "\x01ab\x00\x00\x00\x00\x00\x00\x00\x00\x00\x00\x20"},
		{allowed(t, []byte("key"), "ab", 64)[:32], "\x01ab\x00\x00\x40"},
		{allowed(t, []byte("key"), "ab", 64)[32:], "\x02ab\x00\x00\x40"},
		{allowed(t, []byte("key"), "ab", 128, []byte("xyz"))[96:], "\x04ab\x00\x00\x00\x00\x00\x00\x00\x00\x03xyz\x00\x80"},
	} {
		if want := tag(c.text); !bytes.Equal(c.got, want) {
			t.Errorf("of %q: %x, not %x", c.text, c.got, want)
		}
	}
}

// P8.1: printed keys, so that a change of all at once is told.
func TestDerivePrinted(t *testing.T) {
	for _, c := range []struct {
		n        int
		contexts [][]byte
		want     string
	}{
		{1, nil, "ec"},
		{32, [][]byte{{7}}, "a316f5c9ea7d7c8884e59ae67c396285cdde8f1adc7a02141fd040b6bf8ed002"},
		{48, [][]byte{nil, []byte("ab")}, "d00f548f28c0c933c48980102978f63bc59c839d619422a775ffcd86d5ae43060d9c2faa2f1adf76cc0694434b9f4b7c"},
		{128, [][]byte{[]byte("one"), {}, []byte("three")}, "1896f7fe166f3d0aabb1ec2269cdb2a54818636733593a69ddd546a1566d1a8a3b38694b9c1dfd817327bf056bbed2d1c29a6ae504b65c8b5731293b64d9f2f270a776cf5a0414b9ada039a262e9974ae38051b5cbee5c6ea392a6c2c19a2771d90cba6b80aeb3231896ac190bf96e0d425492284ab863ffd25cbc08fed75281"},
	} {
		if got := hex.EncodeToString(allowed(t, []byte("a key"), "leaf", c.n, c.contexts...)); got != c.want {
			t.Errorf("%d bytes with %d contexts: %s, not %s", c.n, len(c.contexts), got, c.want)
		}
	}
}

// P8.1: a key without bytes; one byte is enough.
func TestDeriveErrKey(t *testing.T) {
	for _, key := range [][]byte{nil, {}, drawn(8)[:0]} {
		for _, n := range []int{1, 64, 128} {
			if b, e := Derive(key, "label", n, []byte("context")); e != api.ErrKey || len(b) != 0 {
				t.Errorf("%d bytes under none: %x, %d", n, b, e)
			}
		}
	}
	allowed(t, []byte{0}, "label", 1)
}

// P8.1: numbers of bytes beyond both edges, and where fewer bits would hold one that is allowed.
func TestDeriveErrArg(t *testing.T) {
	for _, n := range []int{0, -1, -128, 129, 130, 255, 256, 257, 320, 1 << 16, 1<<16 + 1, 1<<32 + 1, -1 << 32, math.MaxInt, math.MinInt, math.MinInt + 1} {
		if b, e := Derive([]byte("key"), "label", n, []byte("context")); e != api.ErrArg || len(b) != 0 {
			t.Errorf("%d bytes: %x, %d", n, b, e)
		}
	}
	allowed(t, []byte("key"), "label", 1)
	allowed(t, []byte("key"), "label", 128)
}

// P8.1: labels of more than 64 bytes (bytes, not letters), and a byte 0 at each place.
func TestDeriveErrLimit(t *testing.T) {
	wrong := []string{strings.Repeat("a", 65), strings.Repeat("a", 256), strings.Repeat("a", 1<<16), strings.Repeat("ü", 33), strings.Repeat("\x00", 65), strings.Repeat("a", 64) + "\x00"}
	for n := 1; n <= 64; n++ {
		for i := range n {
			wrong = append(wrong, strings.Repeat("a", i)+"\x00"+strings.Repeat("a", n-1-i))
		}
	}
	for _, label := range wrong {
		if b, e := Derive([]byte("key"), label, 32, []byte("context")); e != api.ErrLimit || len(b) != 0 {
			t.Errorf("for %q: %x, %d", label, b, e)
		}
	}
	allowed(t, []byte("key"), strings.Repeat("a", 64), 32)
	allowed(t, []byte("key"), strings.Repeat("ü", 32), 32)
	allowed(t, []byte("key"), "", 32)
}

// P8.1: of several errors the first one that the chapter names.
func TestDeriveErrorsInOrder(t *testing.T) {
	for _, label := range []string{"label", "a\x00", strings.Repeat("a", 65)} {
		for _, n := range []int{0, 129, math.MinInt} {
			if b, e := Derive(nil, label, n); e != api.ErrKey || len(b) != 0 {
				t.Errorf("under no bytes, for %q, %d bytes: %x, %d", label, n, b, e)
			}
			if b, e := Derive([]byte{1}, label, n); e != api.ErrArg || len(b) != 0 {
				t.Errorf("for %q, %d bytes: %x, %d", label, n, b, e)
			}
		}
		if b, e := Derive(nil, label, 32); e != api.ErrKey || len(b) != 0 {
			t.Errorf("under no bytes, for %q: %x, %d", label, b, e)
		}
	}
}

// P8.1: a pair is the two halves of one of 64 bytes.
func TestPair(t *testing.T) {
	for _, contexts := range lists() {
		for _, label := range labels() {
			for _, key := range keys() {
				first, second, e := Pair(key, label, contexts...)
				whole := expected(key, label, 64, contexts...)
				if e != api.OK || !bytes.Equal(first, whole[:32]) || !bytes.Equal(second, whole[32:]) {
					t.Fatalf("under %d bytes, for %q and %d contexts: %x and %x, %d, not %x", len(key), label, len(contexts), first, second, e, whole)
				}
				if both := allowed(t, key, label, 64, contexts...); !bytes.Equal(both, slices.Concat(first, second)) {
					t.Fatalf("under %d bytes, for %q and %d contexts: not Derive's", len(key), label, len(contexts))
				}
			}
		}
	}
}

// P8.1: a pair's errors are Derive's, in Derive's order.
func TestPairErrors(t *testing.T) {
	long := strings.Repeat("a", 65)
	for _, c := range []struct {
		key   []byte
		label string
		want  api.Errno
	}{
		{nil, "label", api.ErrKey}, {[]byte{}, "label", api.ErrKey}, {nil, long, api.ErrKey}, {nil, "\x00", api.ErrKey},
		{[]byte{1}, long, api.ErrLimit}, {[]byte{1}, "\x00", api.ErrLimit}, {[]byte{1}, "a\x00b", api.ErrLimit},
	} {
		first, second, e := Pair(c.key, c.label, []byte("context"))
		if e != c.want || len(first) != 0 || len(second) != 0 {
			t.Errorf("under %d bytes, for %q: %x and %x, %d, not %d", len(c.key), c.label, first, second, e, c.want)
		}
	}
	if _, _, e := Pair([]byte{1}, strings.Repeat("a", 64)); e != api.OK {
		t.Errorf("for a label of 64 bytes: %d", e)
	}
}

// P8.2: numbers at both ends, and where one takes another byte.
func TestNumber(t *testing.T) {
	l := []int{0, 1, 2, 258, 1 << 62, 1<<62 - 1}
	for bit := range 62 {
		l = append(l, 1<<bit-1, 1<<bit, 1<<bit+1)
	}
	for _, n := range l {
		if got := Number(n); !bytes.Equal(got, binary.BigEndian.AppendUint64(nil, uint64(n))) {
			t.Errorf("%d: %x", n, got)
		}
	}
	if got := Number(0); !bytes.Equal(got, make([]byte, 8)) {
		t.Errorf("0: %x", got)
	}
	if got := Number(1 << 62); !bytes.Equal(got, []byte{0x40, 0, 0, 0, 0, 0, 0, 0}) {
		t.Errorf("2^62: %x", got)
	}
}

// P8.2: nothing of numbers beyond the ends.
func TestNumberBeyond(t *testing.T) {
	for _, n := range []int{-1, -2, -256, -1 << 31, -1 << 62, math.MinInt, math.MinInt + 1, 1<<62 + 1, 1<<62 + 1<<61, math.MaxInt - 1, math.MaxInt} {
		if got := Number(n); len(got) != 0 {
			t.Errorf("%d: %x", n, got)
		}
	}
}

// P8.3: a derived key of fewer bytes is not the begin of one of more; of eight bytes and more no chance makes it so.
func TestFewerAreNoBegin(t *testing.T) {
	for _, contexts := range [][][]byte{nil, {nil}, {drawn(8)}, {drawn(8), drawn(8)}} {
		for more := 9; more <= 128; more++ {
			long := allowed(t, []byte("key"), "label", more, contexts...)
			for fewer := 8; fewer < more; fewer++ {
				if bytes.HasPrefix(long, allowed(t, []byte("key"), "label", fewer, contexts...)) {
					t.Fatalf("%d bytes are the begin of %d", fewer, more)
				}
			}
		}
	}
}

// P8.3: of fewer than eight bytes chance makes it so, as often as chance does.
func TestFewestAreSeldomBegin(t *testing.T) {
	const tries = 2560
	for fewer := 1; fewer < 8; fewer++ {
		alike := 0
		for i := range tries {
			context := Number(i)
			if bytes.HasPrefix(allowed(t, []byte("key"), "label", fewer+1, context), allowed(t, []byte("key"), "label", fewer, context)) {
				alike++
			}
		}
		if alike > 3*tries/256 {
			t.Errorf("%d bytes are the begin of one more, %d times of %d", fewer, alike, tries)
		}
	}
}

// P8.3: the same again is the same, whatever was derived between.
func TestSameAgain(t *testing.T) {
	for _, contexts := range lists() {
		for _, n := range []int{1, 31, 32, 33, 64, 100, 128} {
			b := allowed(t, []byte("key"), "label", n, contexts...)
			first, second, _ := Pair([]byte("key"), "label", contexts...)
			Derive(nil, "label", n)
			allowed(t, []byte("other"), "label", 128-n+1, contexts...)
			again, other, _ := Pair(bytes.Clone([]byte("key")), "label", contexts...)
			if !bytes.Equal(b, allowed(t, bytes.Clone([]byte("key")), "label", n, contexts...)) || !bytes.Equal(first, again) || !bytes.Equal(second, other) {
				t.Fatalf("%d bytes with %d contexts, again: others", n, len(contexts))
			}
		}
	}
}

// P8.1: a context that is nil and one that is empty are the same; a list that is nil and one that is empty, too.
func TestNilAndEmpty(t *testing.T) {
	if !bytes.Equal(allowed(t, []byte("key"), "label", 32, nil, []byte{}), allowed(t, []byte("key"), "label", 32, []byte{}, nil)) {
		t.Error("nil and empty contexts differ")
	}
	if !bytes.Equal(allowed(t, []byte("key"), "label", 32), allowed(t, []byte("key"), "label", 32, [][]byte{}...)) {
		t.Error("nil and empty lists differ")
	}
}

// P8.1: key, label, where the label ends, contexts, where they are cut and their order make a difference.
func TestTellsApart(t *testing.T) {
	seen := map[string]int{}
	for _, key := range []string{"key", "kez", "k"} {
		for _, label := range []string{"", "a", "b", "ab", "a\x01"} {
			for _, contexts := range [][][]byte{
				nil, {nil}, {nil, nil}, {[]byte("a")}, {[]byte("abc")}, {[]byte("ab"), []byte("c")}, {[]byte("a"), []byte("bc")},
				{[]byte("c"), []byte("ab")}, {[]byte("abc"), nil}, {nil, []byte("abc")}, {make([]byte, 8)}, {make([]byte, 16)},
			} {
				seen[string(allowed(t, []byte(key), label, 32, contexts...))]++
			}
		}
	}
	if want := 3 * 5 * 12; len(seen) != want {
		t.Errorf("%d unlike askings have %d keys", want, len(seen))
	}
}

// What is handed in stays as it is: the bytes, what lies beyond their ends, and the list.
func TestNothingIsChanged(t *testing.T) {
	whole := drawn(400)
	before := bytes.Clone(whole)
	list := make([][]byte, 2, 6)
	list[0], list[1] = whole[100:130], whole[130:131]
	for _, key := range [][]byte{whole[:10], whole[:64], whole[:90]} {
		allowed(t, key, "label", 128, list...)
		Pair(key, "label", list...)
	}
	beyond := list[:6]
	if !bytes.Equal(whole, before) || &beyond[0][0] != &whole[100] || &beyond[1][0] != &whole[130] || beyond[2] != nil || beyond[3] != nil || beyond[4] != nil || beyond[5] != nil {
		t.Error("what was handed in was changed")
	}
}

// What is done to an answer, beyond its end too, or to what was handed in, is seen in no other answer.
func TestAnswersAreNew(t *testing.T) {
	key, context := drawn(20), drawn(30)
	first, second, _ := Pair(key, "label", context)
	want := bytes.Clone(second)
	for i := range first[:cap(first)] {
		first[:cap(first)][i] = 0
	}
	if !bytes.Equal(second, want) {
		t.Error("a pair's first key reaches the second")
	}
	b := allowed(t, key, "label", 33, context)
	if beyond := b[len(b):cap(b)]; !bytes.Equal(beyond, make([]byte, len(beyond))) {
		t.Errorf("behind a key's end stands more: %x", beyond)
	}
	want = bytes.Clone(b)
	allowed(t, key, "label", 33, context)[0]++
	Number(5)[7] = 9
	key[0]++
	context[0]++
	if !bytes.Equal(b, want) || Number(5)[7] != 5 {
		t.Error("an answer was changed")
	}
}

// The chapter's example.
func TestExample(t *testing.T) {
	for n := 1; n <= 128; n++ {
		if b, e := Derive([]byte{0}, "", n); e != api.OK || len(b) != n {
			t.Errorf("%d bytes: %d, %d", n, len(b), e)
		}
	}
}

func BenchmarkDerive(b *testing.B) {
	key, context := drawn(32), Number(7)
	for b.Loop() {
		Derive(key, "node", 32, context, context)
	}
}
