package sum

import (
	"bytes"
	"hash/crc32"
	"math"
	"math/rand"
	"slices"
	"testing"
)

// wantSum goes by the words of the chapter, a bit at a time.
func wantSum(s uint32, b []byte) uint32 {
	register := s ^ 0xffffffff // all ones, where nothing precedes
	for _, x := range b {
		for bit := range 8 {
			odd := register&1 != uint32(x>>bit)&1
			register >>= 1
			if odd {
				register ^= 0xedb88320
			}
		}
	}
	return register ^ 0xffffffff
}

// preceding are checksums of preceding bytes: 0, 1, the greatest, each single
// bit, each number of low and of high ones, and a few others.
func preceding() []uint32 {
	all := []uint32{
		0, 1, 2, math.MaxUint32 - 1, math.MaxUint32, 0xcbf43926, 0xedb88320, 0x04c11db7,
		0xdebb20e3, 0x2144df1c, 0x12345678, 0x80000001, 0x7ffffffe, 0x00ff00ff, 0xaaaaaaaa, 0x55555555,
	}
	for bit := range 32 {
		all = append(all, 1<<bit, ^uint32(1<<bit), 1<<bit-1, ^uint32(1<<bit-1))
	}
	return all
}

// few are some of them, for what takes long.
func few() []uint32 {
	return []uint32{0, 1, 7, 0x80000000, 0xcbf43926, math.MaxUint32 - 1, math.MaxUint32}
}

func alike(length int, x byte) []byte {
	return bytes.Repeat([]byte{x}, length)
}

func steps(length, from, by int) []byte {
	b := make([]byte, length)
	for i := range b {
		b[i] = byte(from + i*by)
	}
	return b
}

func squares(length int) []byte {
	b := make([]byte, length)
	for i := range b {
		b[i] = byte(i*i + i>>8)
	}
	return b
}

// inputs are bytes of that length, of many kinds.
func inputs(length int) [][]byte {
	return [][]byte{
		alike(length, 0), alike(length, 0xff), alike(length, 0x55), alike(length, 'a'),
		steps(length, 0, 1), steps(length, 255, -1), squares(length),
	}
}

// long is longer than any table of this or another size, and no power of two.
func long() []byte {
	return squares(1<<20 + 5)
}

// changed is b but for one bit of the byte at the place i.
func changed(b []byte, i, bit int) []byte {
	b = slices.Clone(b)
	b[i] ^= 1 << bit
	return b
}

// sumOf hands out a copy of b with bytes ahead of it and room behind it, and
// asks that none of them was written to.
func sumOf(t *testing.T, s uint32, b []byte) uint32 {
	t.Helper()
	guard := []byte{0xfa, 0x00, 0xff}
	whole := slices.Concat(guard, b, guard)
	got := Sum(s, whole[len(guard):len(guard)+len(b)])
	if !bytes.Equal(whole, slices.Concat(guard, b, guard)) {
		t.Errorf("Sum(%#x, %d bytes) wrote to what was handed in, or beside it", s, len(b))
	}
	return got
}

// judge holds Sum against the chapter's words.
func judge(t *testing.T, s uint32, b []byte) {
	t.Helper()
	if got, want := sumOf(t, s, b), wantSum(s, b); got != want {
		t.Fatalf("Sum(%#x, %v): %#x, want %#x", s, shown(b), got, want)
	}
}

// shown keeps what is told of a fault short.
func shown(b []byte) []byte {
	return b[:min(len(b), 40)]
}

// P12.1: known checksums, that of the chapter's example first.
func TestKnown(t *testing.T) {
	for _, c := range []struct {
		name string
		b    []byte
		want uint32
	}{
		{"the example", []byte("123456789"), 0xcbf43926},
		{"no byte", []byte(""), 0},
		{"a letter", []byte("a"), 0xe8b7be43},
		{"three letters", []byte("abc"), 0x352441c2},
		{"two words", []byte("message digest"), 0x20159d7f},
		{"all letters", []byte("abcdefghijklmnopqrstuvwxyz"), 0x4c2750bd},
		{"a sentence", []byte("The quick brown fox jumps over the lazy dog"), 0x414fa339},
		{"digits", []byte("12345678901234567890123456789012345678901234567890123456789012345678901234567890"), 0x7ca94a72},
		{"the byte 0", []byte{0}, 0xd202ef8d},
		{"the byte 255", []byte{255}, 0xff000000},
		{"four bytes 0", alike(4, 0), 0x2144df1c},
		{"four bytes 255", alike(4, 255), 0xffffffff},
		{"32 bytes 0", alike(32, 0), 0x190a55ad},
		{"32 bytes 255", alike(32, 255), 0xff6cab0b},
		{"32 bytes that rise", steps(32, 0, 1), 0x91267e8a},
		{"32 bytes that fall", steps(32, 31, -1), 0x9ab0ef72},
	} {
		if got := sumOf(t, 0, c.b); got != c.want {
			t.Errorf("%s: %#x, want %#x", c.name, got, c.want)
		}
		if got := wantSum(0, c.b); got != c.want {
			t.Errorf("%s: the words of the chapter, as the tests take them: %#x, want %#x", c.name, got, c.want)
		}
	}
}

// P12.1: checksums of preceding bytes, with what follows, written out.
func TestKnownPreceding(t *testing.T) {
	for _, c := range []struct {
		s    uint32
		b    string
		want uint32
	}{
		{0xe8b7be43, "", 0xe8b7be43},     // "a", then nothing
		{0xe8b7be43, "bc", 0x352441c2},   // "a", then "bc"
		{0x352441c2, "", 0x352441c2},     // "abc", then nothing
		{0xffffffff, "\x00", 0xffffffff}, // a register of zeros stays so
		{0xffffffff, "\x00\x00\x00", 0xffffffff},
		{0xd202ef8d, "\x00\x00\x00", 0x2144df1c}, // a byte 0, then three
		{0xff000000, "\xff\xff\xff", 0xffffffff}, // a byte 255, then three
		{0, "\x00\x00\x00\x00", 0x2144df1c},
	} {
		if got := sumOf(t, c.s, []byte(c.b)); got != c.want {
			t.Errorf("Sum(%#x, %q): %#x, want %#x", c.s, c.b, got, c.want)
		}
	}
}

// P12.1: no byte: the checksum of what precedes, with no list, an empty one, and one that has room.
func TestNoByte(t *testing.T) {
	room := []byte("abc")
	for _, s := range preceding() {
		for _, b := range [][]byte{nil, {}, make([]byte, 0, 8), room[:0], room[1:1], room[3:], room[0:0:0]} {
			if got := Sum(s, b); got != s {
				t.Errorf("Sum(%#x, no byte): %#x", s, got)
			}
		}
	}
	if string(room) != "abc" {
		t.Errorf("the room was written to: %q", room)
	}
}

// P12.1: one byte, of each value, after each of the preceding.
func TestOneByte(t *testing.T) {
	for _, s := range preceding() {
		for x := range 256 {
			judge(t, s, []byte{byte(x)})
		}
	}
}

// P12.1: two bytes, of each two values.
func TestTwoBytes(t *testing.T) {
	for x := range 1 << 16 {
		for _, s := range []uint32{0, 1, math.MaxUint32} {
			judge(t, s, []byte{byte(x >> 8), byte(x)})
		}
	}
}

// P12.1: each byte at each place among others.
func TestEachByteAtEachPlace(t *testing.T) {
	for length := 1; length <= 9; length++ {
		for i := range length {
			for x := range 256 {
				for _, b := range inputs(length) {
					b[i] = byte(x)
					judge(t, 0, b)
					judge(t, 0xcbf43926, b)
				}
			}
		}
	}
}

// P12.1: inputs of each length, and around the powers of two, after several checksums.
func TestLengths(t *testing.T) {
	var lengths []int
	for length := range 300 {
		lengths = append(lengths, length)
	}
	for power := 9; power <= 17; power++ {
		lengths = append(lengths, 1<<power-1, 1<<power, 1<<power+1)
	}
	for _, length := range lengths {
		for _, b := range inputs(length) {
			for _, s := range few() {
				if length > 1<<13 && s > 1 && s < math.MaxUint32 {
					continue
				}
				judge(t, s, b)
			}
		}
	}
}

// P12.1: a long input, held against the checksum of Go's library too.
func TestLong(t *testing.T) {
	for _, b := range [][]byte{long(), alike(1<<22, 0), alike(1<<22+1, 0xff), steps(1<<22+3, 7, 11)} {
		for _, s := range few() {
			if got, want := sumOf(t, s, b), crc32.Update(s, crc32.IEEETable, b); got != want {
				t.Errorf("Sum(%#x, %d bytes): %#x, want %#x", s, len(b), got, want)
			}
		}
		judge(t, 0, b)
	}
}

// P12.1: random bytes after random checksums.
func TestRandom(t *testing.T) {
	r := rand.New(rand.NewSource(12))
	for range 20000 {
		b := make([]byte, r.Intn(1<<r.Intn(9)))
		r.Read(b)
		s := r.Uint32()
		judge(t, s, b)
		if got, want := Sum(s, b), crc32.Update(s, crc32.IEEETable, b); got != want {
			t.Fatalf("Sum(%#x, %v): %#x, want %#x", s, b, got, want)
		}
	}
}

// P12.1: a checksum tells the bytes that are there when it is asked for, and
// nothing of earlier calls.
func TestNothingIsKept(t *testing.T) {
	b := []byte("123456789")
	for range 3 {
		judge(t, 0, b)
		b[4] = 'x'
		judge(t, 0, b)
		judge(t, 1, b[:3])
		judge(t, 0, []byte("abc"))
		judge(t, math.MaxUint32, nil)
		b[4] = '5'
		if got := Sum(0, b); got != 0xcbf43926 {
			t.Fatalf("%#x", got)
		}
	}
}

// P12.1: what lies behind the bytes, or ahead of them, has no weight, and is left as it was.
func TestRoom(t *testing.T) {
	for length := range 20 {
		for x := range 256 {
			whole := slices.Concat(alike(2, byte(x)), steps(length, 5, 3), alike(9, byte(x)))
			before := slices.Clone(whole)
			for _, b := range [][]byte{whole[2 : 2+length], whole[2 : 2+length : 2+length], whole[2 : 2+length : 4+length]} {
				if got, want := Sum(7, b), wantSum(7, steps(length, 5, 3)); got != want {
					t.Fatalf("%d bytes with %d beside them: %#x, want %#x", length, x, got, want)
				}
			}
			if !bytes.Equal(whole, before) {
				t.Fatalf("%v became %v", before, whole)
			}
		}
	}
}

// parted is the checksum of b, taken up to each of the places, one after another.
func parted(t *testing.T, s uint32, b []byte, places ...int) uint32 {
	t.Helper()
	from := 0
	for _, to := range append(places, len(b)) {
		s = sumOf(t, s, b[from:to])
		from = to
	}
	return s
}

// P12.2: an input in two parts, at each place, the ends among them, and with
// an empty part in between, handed in as nil and as an empty list.
func TestTwoParts(t *testing.T) {
	for _, length := range []int{0, 1, 2, 3, 4, 5, 8, 9, 16, 31, 32, 33, 255, 256, 257} {
		for _, b := range inputs(length) {
			for _, s := range few() {
				whole := Sum(s, b)
				for i := range length + 1 {
					if got := parted(t, s, b, i); got != whole {
						t.Fatalf("%#x, %v, parted at %d: %#x, but whole %#x", s, b, i, got, whole)
					}
					if got := parted(t, s, b, i, i); got != whole {
						t.Fatalf("%#x, %v, parted twice at %d: %#x, but whole %#x", s, b, i, got, whole)
					}
					if got := Sum(Sum(Sum(s, b[:i]), nil), b[i:]); got != whole {
						t.Fatalf("%#x, %v, with nil at %d: %#x, but whole %#x", s, b, i, got, whole)
					}
				}
			}
		}
	}
}

// P12.2: the two parts lie in memory of their own, and the whole is made of them.
func TestTwoPartsOfTheirOwn(t *testing.T) {
	for i := range 20 {
		for j := range 20 {
			for _, a := range inputs(i) {
				for _, b := range inputs(j) {
					whole := slices.Concat(a, b)
					if got, want := Sum(Sum(0, a), b), Sum(0, whole); got != want {
						t.Fatalf("%v and %v: %#x, but whole %#x", a, b, got, want)
					}
				}
			}
		}
	}
}

// P12.2: an input in three parts, at each two places.
func TestThreeParts(t *testing.T) {
	for length := range 24 {
		for _, b := range inputs(length) {
			whole := Sum(0, b)
			for j := range length + 1 {
				for i := range j + 1 {
					if got := parted(t, 0, b, i, j); got != whole {
						t.Fatalf("%v, parted at %d and %d: %#x, but whole %#x", b, i, j, got, whole)
					}
				}
			}
		}
	}
}

// P12.2: an input in parts of each length, single bytes among them, with and without empty parts in between.
func TestManyParts(t *testing.T) {
	for _, b := range append(inputs(300), inputs(256)...) {
		whole := Sum(0, b)
		for step := 1; step <= len(b); step++ {
			var places, doubled []int
			for i := 0; i <= len(b); i += step {
				places = append(places, i)
				doubled = append(doubled, i, i)
			}
			if got := parted(t, 0, b, places...); got != whole {
				t.Fatalf("%v in parts of %d: %#x, but whole %#x", b, step, got, whole)
			}
			if got := parted(t, 0, b, doubled...); got != whole {
				t.Fatalf("%v in parts of %d, with empty ones: %#x, but whole %#x", b, step, got, whole)
			}
		}
	}
}

// P12.2: a long input in parts, few and many.
func TestLongParts(t *testing.T) {
	b := long()
	whole := Sum(0, b)
	for _, i := range []int{0, 1, 2, 255, 256, 1 << 16, len(b) / 2, 1 << 20, len(b) - 1, len(b)} {
		if got := parted(t, 0, b, i); got != whole {
			t.Fatalf("parted at %d: %#x, but whole %#x", i, got, whole)
		}
	}
	s := uint32(0)
	for i := range b {
		s = Sum(s, b[i:i+1])
	}
	if s != whole {
		t.Fatalf("byte by byte: %#x, but whole %#x", s, whole)
	}
}

// P12.2: random inputs in random parts.
func TestRandomParts(t *testing.T) {
	r := rand.New(rand.NewSource(21))
	for range 3000 {
		b := make([]byte, r.Intn(400))
		r.Read(b)
		s := r.Uint32()
		places := make([]int, r.Intn(12))
		for i := range places {
			places[i] = r.Intn(len(b) + 1)
		}
		slices.Sort(places)
		if got, whole := parted(t, s, b, places...), Sum(s, b); got != whole {
			t.Fatalf("%#x, %v, parted at %v: %#x, but whole %#x", s, b, places, got, whole)
		}
	}
}

// P12.2: one bit changed, each one at each place of inputs of many lengths.
func TestChangedBits(t *testing.T) {
	for _, length := range []int{1, 2, 3, 4, 5, 7, 8, 9, 16, 33, 100, 256, 300} {
		for _, b := range inputs(length) {
			for _, s := range few() {
				whole := Sum(s, b)
				for i := range length {
					for bit := range 8 {
						if got := Sum(s, changed(b, i, bit)); got == whole {
							t.Fatalf("%#x, %v: the bit %d at %d changed, and still %#x", s, b, bit, i, got)
						}
					}
				}
			}
		}
	}
}

// P12.2: one bit changed in either of two parts.
func TestChangedBitsOfParts(t *testing.T) {
	for _, b := range inputs(40) {
		whole := Sum(0, b)
		for at := range len(b) + 1 {
			for i := range b {
				for bit := range 8 {
					if got := parted(t, 0, changed(b, i, bit), at); got == whole {
						t.Fatalf("%v, parted at %d: the bit %d at %d changed, and still %#x", b, at, bit, i, got)
					}
				}
			}
		}
	}
}

// P12.2: one bit changed at the beginning, in the midst and at the end of a long input.
func TestChangedBitsOfLong(t *testing.T) {
	b := long()
	whole := Sum(0, b)
	for _, i := range []int{0, 1, 255, 256, 1 << 16, len(b)/2 - 1, len(b) / 2, 1 << 19, 1 << 20, len(b) - 2, len(b) - 1} {
		for bit := range 8 {
			b[i] ^= 1 << bit
			if got := Sum(0, b); got == whole {
				t.Fatalf("the bit %d at %d changed, and still %#x", bit, i, got)
			}
			b[i] ^= 1 << bit
		}
	}
	if got := Sum(0, b); got != whole {
		t.Fatalf("all bits as they were: %#x, not %#x", got, whole)
	}
}

// P12.2: random inputs, one bit of each changed.
func TestRandomChangedBits(t *testing.T) {
	r := rand.New(rand.NewSource(22))
	for range 20000 {
		b := make([]byte, 1+r.Intn(200))
		r.Read(b)
		s, i, bit := r.Uint32(), r.Intn(len(b)), r.Intn(8)
		if got := Sum(s, changed(b, i, bit)); got == Sum(s, b) {
			t.Fatalf("%#x, %v: the bit %d at %d changed, and still %#x", s, b, bit, i, got)
		}
	}
}
