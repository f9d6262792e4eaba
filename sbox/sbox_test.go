package sbox

import (
	"math/rand"
	"testing"
)

// published is the box as it is printed in the standard of the cipher.
const published = "" +
	"\x63\x7c\x77\x7b\xf2\x6b\x6f\xc5\x30\x01\x67\x2b\xfe\xd7\xab\x76" +
	"\xca\x82\xc9\x7d\xfa\x59\x47\xf0\xad\xd4\xa2\xaf\x9c\xa4\x72\xc0" +
	"\xb7\xfd\x93\x26\x36\x3f\xf7\xcc\x34\xa5\xe5\xf1\x71\xd8\x31\x15" +
	"\x04\xc7\x23\xc3\x18\x96\x05\x9a\x07\x12\x80\xe2\xeb\x27\xb2\x75" +
	"\x09\x83\x2c\x1a\x1b\x6e\x5a\xa0\x52\x3b\xd6\xb3\x29\xe3\x2f\x84" +
	"\x53\xd1\x00\xed\x20\xfc\xb1\x5b\x6a\xcb\xbe\x39\x4a\x4c\x58\xcf" +
	"\xd0\xef\xaa\xfb\x43\x4d\x33\x85\x45\xf9\x02\x7f\x50\x3c\x9f\xa8" +
	"\x51\xa3\x40\x8f\x92\x9d\x38\xf5\xbc\xb6\xda\x21\x10\xff\xf3\xd2" +
	"\xcd\x0c\x13\xec\x5f\x97\x44\x17\xc4\xa7\x7e\x3d\x64\x5d\x19\x73" +
	"\x60\x81\x4f\xdc\x22\x2a\x90\x88\x46\xee\xb8\x14\xde\x5e\x0b\xdb" +
	"\xe0\x32\x3a\x0a\x49\x06\x24\x5c\xc2\xd3\xac\x62\x91\x95\xe4\x79" +
	"\xe7\xc8\x37\x6d\x8d\xd5\x4e\xa9\x6c\x56\xf4\xea\x65\x7a\xae\x08" +
	"\xba\x78\x25\x2e\x1c\xa6\xb4\xc6\xe8\xdd\x74\x1f\x4b\xbd\x8b\x8a" +
	"\x70\x3e\xb5\x66\x48\x03\xf6\x0e\x61\x35\x57\xb9\x86\xc1\x1d\x9e" +
	"\xe1\xf8\x98\x11\x69\xd9\x8e\x94\x9b\x1e\x87\xe9\xce\x55\x28\xdf" +
	"\x8c\xa1\x89\x0d\xbf\xe6\x42\x68\x41\x99\x2d\x0f\xb0\x54\xbb\x16"

// product is that of two elements, by polynomials alone.
func product(a, b byte) byte {
	whole := 0
	for i := range 8 {
		for j := range 8 {
			whole ^= int(a>>i&1) * int(b>>j&1) << (i + j)
		}
	}
	for bit := 14; bit >= 8; bit-- {
		if whole>>bit&1 == 1 {
			whole ^= 0x11b << (bit - 8)
		}
	}
	return byte(whole)
}

// inverse is looked for among all bytes.
func inverse(a byte) byte {
	for b := range 256 {
		if product(a, byte(b)) == 1 {
			return byte(b)
		}
	}
	return 0
}

// worded is what the box has, bit by bit, as the chapter's words say it.
func worded(a byte) byte {
	of := inverse(a)
	var out byte
	for i := range 8 {
		bit := byte(0x63) >> i & 1
		for _, ahead := range []int{0, 4, 5, 6, 7} {
			bit ^= of >> ((i + ahead) % 8) & 1
		}
		out |= bit << i
	}
	return out
}

// straight has each byte at its own place.
func straight() [256]byte {
	var l [256]byte
	for i := range l {
		l[i] = byte(i)
	}
	return l
}

// P3.1: what the box has for every byte, by the chapter's words and as it is printed.
func TestOfEveryByte(t *testing.T) {
	for a := range 256 {
		got := Of(byte(a))
		if got != worded(byte(a)) || got != published[a] {
			t.Errorf("Of(%x) = %x, want %x, printed %x", a, got, worded(byte(a)), published[a])
		}
	}
}

// P3.1
func TestBox(t *testing.T) {
	box := Box()
	for a, got := range box {
		if got != published[a] || got != Of(byte(a)) {
			t.Errorf("Box()[%x] = %x, want %x", a, got, published[a])
		}
	}
	if box[0] != 0x63 {
		t.Errorf("the box has %x for 0", box[0])
	}
}

// P3.1
func TestBack(t *testing.T) {
	back := Back()
	for a := range 256 {
		if got := back[published[a]]; got != byte(a) {
			t.Errorf("Back()[%x] = %x, want %x", published[a], got, a)
		}
	}
}

// P3.1: boxes are handed out anew, so writing into one is told to nobody.
func TestBoxesStay(t *testing.T) {
	box, back := Box(), Back()
	for i := range box {
		box[i], back[i] = 0, 0
	}
	if again := Box(); string(again[:]) != published {
		t.Error("the box was changed")
	}
	if again := Back(); again[0x63] != 0 || again[0x7c] != 1 {
		t.Error("the box back was changed")
	}
}

// P3.1: lists that have each byte once.
func TestSwapEachOnce(t *testing.T) {
	turned := straight()
	for i := range turned {
		turned[i] = byte(i + 1)
	}
	falling := straight()
	for i := range falling {
		falling[i] = byte(255 - i)
	}
	lists := [][256]byte{straight(), turned, falling, Box(), Back()}
	draw := rand.New(rand.NewSource(3))
	for range 50 {
		l := straight()
		draw.Shuffle(256, func(i, j int) { l[i], l[j] = l[j], l[i] })
		lists = append(lists, l)
	}
	for n, l := range lists {
		kept := l
		got, ok := Swap(l)
		if !ok {
			t.Fatalf("list %d was not swapped", n)
		}
		for place, b := range l {
			if got[b] != byte(place) {
				t.Fatalf("list %d: %x stands at %x, not at %x", n, b, place, got[b])
			}
		}
		if again, ok := Swap(got); !ok || again != l {
			t.Fatalf("list %d, swapped twice, is another", n)
		}
		if l != kept {
			t.Fatalf("list %d was changed", n)
		}
	}
	if got, ok := Swap(turned); !ok || got[0] != 255 || got[1] != 0 || got[255] != 254 {
		t.Errorf("each byte one on: %x", got)
	}
}

// P3.1: a byte twice, whichever two places have it, leaves nothing.
func TestSwapTwice(t *testing.T) {
	none := [256]byte{}
	bases := [][256]byte{straight(), Box()}
	for _, base := range bases {
		for i := range 256 {
			for j := range 256 {
				if i == j {
					continue
				}
				l := base
				l[i] = l[j]
				if got, ok := Swap(l); ok || got != none {
					t.Fatalf("%x at both %x and %x: %v", l[j], i, j, ok)
				}
			}
		}
	}
	for b := range 256 {
		var l [256]byte
		for i := range l {
			l[i] = byte(b)
		}
		if got, ok := Swap(l); ok || got != none {
			t.Fatalf("%x everywhere: %v", b, ok)
		}
	}
}

// P3.1: the box back is the box swapped, and the other way round.
func TestBoxSwapped(t *testing.T) {
	if got, ok := Swap(Box()); !ok || got != Back() {
		t.Error("the box, swapped, is not the box back")
	}
	if got, ok := Swap(Back()); !ok || got != Box() {
		t.Error("the box back, swapped, is not the box")
	}
}

// P3.2
func TestNoByteForItself(t *testing.T) {
	box := Box()
	for a := range 256 {
		for _, got := range []byte{box[a], Of(byte(a))} {
			if got == byte(a) {
				t.Errorf("%x stands for itself", a)
			}
			if got == ^byte(a) {
				t.Errorf("%x stands for its opposite", a)
			}
		}
	}
}

// P3.2
func TestOneBehindTheOther(t *testing.T) {
	box, back := Box(), Back()
	for a := range 256 {
		if got := back[box[a]]; got != byte(a) {
			t.Errorf("the box, then the one back: %x for %x", got, a)
		}
		if got := box[back[a]]; got != byte(a) {
			t.Errorf("the box back, then the box: %x for %x", got, a)
		}
		if got := back[Of(byte(a))]; got != byte(a) {
			t.Errorf("Of, then the box back: %x for %x", got, a)
		}
	}
}
