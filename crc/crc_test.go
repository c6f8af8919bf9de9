package crc_test

import (
	"bytes"
	"hash/crc32"
	"math"
	"slices"
	"testing"

	"viaticum/crc"
)

// plain is the checksum bit by bit, as the document says it.
func plain(b []byte) uint32 {
	register := uint32(math.MaxUint32)
	for _, c := range b {
		for k := range 8 {
			one := uint32(c>>k)&1 ^ register&1
			register >>= 1
			if one == 1 {
				register ^= 0xedb88320
			}
		}
	}
	return ^register
}

// noise is count bytes that are spread over all values, the same ones for the same seed.
func noise(seed uint64, count int) []byte {
	x := seed*2654435761 + 88172645463325252
	var out []byte
	for range count {
		x ^= x << 13
		x ^= x >> 7
		x ^= x << 17
		out = append(out, byte(x>>32))
	}
	return out
}

// values is all 256 values of a byte.
func values() []byte {
	var out []byte
	for c := range 256 {
		out = append(out, byte(c))
	}
	return out
}

// texts is bytes of many kinds and lengths.
func texts() [][]byte {
	out := [][]byte{
		nil, {}, {0}, {0xff}, {0, 0}, {0xff, 0xff, 0xff, 0xff}, {0, 0, 0, 0},
		[]byte("a"), []byte("abc"), []byte("123456789"),
		values(), bytes.Repeat([]byte{0}, 300), bytes.Repeat([]byte{0xff}, 300),
		noise(1, 1<<16),
	}
	for k := range 70 {
		out = append(out, noise(uint64(k), k))
	}
	return out
}

// P2.1: checksums that are known.
func TestSumGivesTheChecksum(t *testing.T) {
	for _, c := range []struct {
		b   []byte
		sum uint32
	}{
		{nil, 0},
		{[]byte{}, 0},
		{[]byte("123456789"), 0xcbf43926},
		{[]byte("a"), 0xe8b7be43},
		{[]byte("abc"), 0x352441c2},
		{[]byte("The quick brown fox jumps over the lazy dog"), 0x414fa339},
		{[]byte{0}, 0xd202ef8d},
		{[]byte{0xff}, 0xff000000},
		{[]byte{0, 0, 0, 0}, 0x2144df1c},
		{[]byte{0xff, 0xff, 0xff, 0xff}, 0xffffffff},
		{bytes.Repeat([]byte{0}, 32), 0x190a55ad},
		{bytes.Repeat([]byte{0xff}, 32), 0xff6cab0b},
		{values(), 0x29058c73},
		{values()[:32], 0x91267e8a},
	} {
		if sum := crc.Sum(c.b); sum != c.sum {
			t.Errorf("Sum(% x) = %08x, want %08x", c.b, sum, c.sum)
		}
	}
}

// P2.1: each value of a byte alone, behind another byte, and ahead of one.
func TestSumOfEachByte(t *testing.T) {
	for one := range 256 {
		b := []byte{byte(one)}
		if sum := crc.Sum(b); sum != plain(b) {
			t.Errorf("Sum(% x) = %08x, want %08x", b, sum, plain(b))
		}
		for two := range 256 {
			b := []byte{byte(one), byte(two)}
			if sum := crc.Sum(b); sum != plain(b) {
				t.Fatalf("Sum(% x) = %08x, want %08x", b, sum, plain(b))
			}
		}
	}
}

// P2.1: Sum does what the document says bit by bit, and is what all others call CRC-32.
func TestSumBitByBit(t *testing.T) {
	for _, b := range texts() {
		before := slices.Clone(b)
		sum := crc.Sum(b)
		if sum != plain(b) || sum != crc32.ChecksumIEEE(b) {
			t.Errorf("Sum of %d bytes = %08x, want %08x", len(b), sum, plain(b))
		}
		if !bytes.Equal(b, before) {
			t.Errorf("Sum changed its %d bytes", len(b))
		}
		if again := crc.Sum(b); again != sum {
			t.Errorf("Sum of %d bytes = %08x at first, then %08x", len(b), sum, again)
		}
	}
}

// P2.1: bytes behind the end of the slice are not its own.
func TestSumStopsAtTheEnd(t *testing.T) {
	b := []byte("123456789xyz")
	if sum := crc.Sum(b[:9]); sum != 0xcbf43926 {
		t.Errorf("Sum = %08x, want cbf43926", sum)
	}
	if sum := crc.Sum(b[:0]); sum != 0 {
		t.Errorf("Sum of no bytes = %08x, want 0", sum)
	}
	if sum := crc.More(7, b[:0]); sum != 7 {
		t.Errorf("More of no bytes = %08x, want 7", sum)
	}
}

// sums is checksums at the edges, and with each single bit.
func sums() []uint32 {
	out := []uint32{0, 1, 0x01020304, 0xcbf43926, 0xedb88320, math.MaxInt32, math.MaxUint32 - 1, math.MaxUint32}
	for k := range 32 {
		out = append(out, 1<<k, ^uint32(1<<k))
	}
	return out
}

// P2.1: More with no bytes leaves each checksum as it is.
func TestMoreWithNoBytes(t *testing.T) {
	for _, sum := range sums() {
		if got := crc.More(sum, nil); got != sum {
			t.Errorf("More(%08x, nil) = %08x", sum, got)
		}
		if got := crc.More(sum, []byte{}); got != sum {
			t.Errorf("More(%08x, empty) = %08x", sum, got)
		}
	}
}

// P2.1: More of the checksum of no bytes is the checksum.
func TestMoreOfNoBytes(t *testing.T) {
	for _, b := range texts() {
		for _, none := range []uint32{0, crc.Sum(nil), crc.Sum([]byte{})} {
			if got := crc.More(none, b); got != plain(b) {
				t.Errorf("More(%08x, %d bytes) = %08x, want %08x", none, len(b), got, plain(b))
			}
		}
	}
}

// P2.1: every number is a checksum that can go on.
func TestMoreOfAnyChecksum(t *testing.T) {
	for _, sum := range sums() {
		for _, b := range [][]byte{{0}, {1}, {0x80}, {0xff}, []byte("56789"), values()} {
			before := slices.Clone(b)
			if got, want := crc.More(sum, b), crc32.Update(sum, crc32.IEEETable, b); got != want {
				t.Errorf("More(%08x, % x) = %08x, want %08x", sum, b, got, want)
			}
			if !bytes.Equal(b, before) {
				t.Errorf("More changed % x to % x", before, b)
			}
		}
	}
}

// P2.2: two pieces, cut at every place.
func TestTwoPieces(t *testing.T) {
	for _, b := range [][]byte{[]byte("123456789"), values(), noise(3, 100), bytes.Repeat([]byte{0}, 50)} {
		for k := range len(b) + 1 {
			if got := crc.More(crc.Sum(b[:k]), b[k:]); got != plain(b) {
				t.Fatalf("%d bytes cut at %d: %08x, want %08x", len(b), k, got, plain(b))
			}
		}
	}
}

// P2.2: three pieces, cut at every two places, empty ones among them.
func TestThreePieces(t *testing.T) {
	b := noise(5, 40)
	for j := range len(b) + 1 {
		for i := range j + 1 {
			if got := crc.More(crc.More(crc.Sum(b[:i]), b[i:j]), b[j:]); got != plain(b) {
				t.Fatalf("cut at %d and %d: %08x, want %08x", i, j, got, plain(b))
			}
		}
	}
}

// P2.2: pieces of one length, from single bytes on.
func TestManyPieces(t *testing.T) {
	b := noise(7, 2000)
	for size := 1; size <= 70; size++ {
		sum := crc.Sum(nil)
		for piece := range slices.Chunk(b, size) {
			sum = crc.More(sum, piece)
		}
		if sum != plain(b) {
			t.Fatalf("pieces of %d bytes: %08x, want %08x", size, sum, plain(b))
		}
	}
}

// turned asks that bytes have another checksum, whatever else one of them is turned to.
func turned(t *testing.T, b []byte, at int) {
	t.Helper()
	sum := crc.Sum(b)
	other := slices.Clone(b)
	for c := range 256 {
		other[at] = byte(c)
		if same := other[at] == b[at]; (crc.Sum(other) == sum) != same {
			t.Fatalf("%d bytes with byte %d as %02x instead of %02x: the same checksum %08x", len(b), at, c, b[at], sum)
		}
	}
}

// P2.2: one byte turned, at the first, a middle, and the last place.
func TestOneByteTurned(t *testing.T) {
	for _, b := range [][]byte{{0}, {0xff}, []byte("ab"), []byte("123456789"), values(), noise(9, 5000), bytes.Repeat([]byte{0}, 5000)} {
		turned(t, b, 0)
		turned(t, b, len(b)/2)
		turned(t, b, len(b)-1)
	}
	b := noise(11, 64)
	for at := range b {
		turned(t, b, at)
	}
}

// P2.2: one byte turned, in a piece that another piece follows.
func TestOneByteTurnedInAPiece(t *testing.T) {
	b := []byte("123456789")
	for at := range b {
		other := slices.Clone(b)
		other[at] ^= 0x10
		for k := range len(b) + 1 {
			if crc.More(crc.Sum(other[:k]), other[k:]) == crc.Sum(b) {
				t.Errorf("byte %d turned, cut at %d: the same checksum", at, k)
			}
		}
	}
}

// P2.1: the four bytes of a checksum, the least significant one first.
func TestBytesGivesTheBytes(t *testing.T) {
	for _, c := range []struct {
		sum uint32
		b   []byte
	}{
		{0, []byte{0, 0, 0, 0}},
		{1, []byte{1, 0, 0, 0}},
		{0x80, []byte{0x80, 0, 0, 0}},
		{0x100, []byte{0, 1, 0, 0}},
		{0x10000, []byte{0, 0, 1, 0}},
		{0x1000000, []byte{0, 0, 0, 1}},
		{0x01020304, []byte{4, 3, 2, 1}},
		{0xcbf43926, []byte{0x26, 0x39, 0xf4, 0xcb}},
		{1 << 31, []byte{0, 0, 0, 0x80}},
		{math.MaxInt32, []byte{0xff, 0xff, 0xff, 0x7f}},
		{math.MaxUint32 - 1, []byte{0xfe, 0xff, 0xff, 0xff}},
		{math.MaxUint32, []byte{0xff, 0xff, 0xff, 0xff}},
	} {
		if b := crc.Bytes(c.sum); !bytes.Equal(b, c.b) {
			t.Errorf("Bytes(%08x) = % x, want % x", c.sum, b, c.b)
		}
	}
}

// P2.1: no two checksums have the same bytes.
func TestBytesTellsTheChecksum(t *testing.T) {
	for _, sum := range sums() {
		b := crc.Bytes(sum)
		if len(b) != 4 {
			t.Fatalf("Bytes(%08x) = % x", sum, b)
		}
		back := uint32(0)
		for i, c := range b {
			back += uint32(c) << (8 * i)
		}
		if back != sum {
			t.Errorf("Bytes(%08x) = % x, which is %08x", sum, b, back)
		}
	}
}

// Bytes that are followed by their checksum's bytes have one and the same checksum: register and bytes then end in step.
func TestBytesBehindTheirOwn(t *testing.T) {
	for _, b := range texts() {
		if got := crc.Sum(slices.Concat(b, crc.Bytes(crc.Sum(b)))); got != 0x2144df1c {
			t.Errorf("%d bytes and their checksum: %08x, want 2144df1c", len(b), got)
		}
	}
}

// Each answer is memory of its own.
func TestBytesGivesNewMemory(t *testing.T) {
	one, two := crc.Bytes(0x01020304), crc.Bytes(0x01020304)
	clear(one)
	if want := []byte{4, 3, 2, 1}; !bytes.Equal(two, want) || !bytes.Equal(crc.Bytes(0x01020304), want) {
		t.Error("Bytes gave out bytes that another answer has")
	}
}

// P2.1 and P2.2 for bytes of any kind.
func FuzzSum(f *testing.F) {
	f.Add([]byte("123456789"), 4, byte(1))
	f.Add([]byte{}, 0, byte(0))
	f.Add(values(), 128, byte(0xff))
	f.Fuzz(func(t *testing.T, b []byte, at int, flip byte) {
		sum := crc.Sum(b)
		if sum != plain(b) {
			t.Fatalf("Sum(% x) = %08x, want %08x", b, sum, plain(b))
		}
		if at < 0 || at >= len(b) {
			return
		}
		if got := crc.More(crc.Sum(b[:at]), b[at:]); got != sum {
			t.Fatalf("% x cut at %d: %08x, want %08x", b, at, got, sum)
		}
		other := slices.Clone(b)
		other[at] ^= flip
		if (crc.Sum(other) == sum) != (flip == 0) {
			t.Fatalf("% x with byte %d combined with %02x: %08x", b, at, flip, crc.Sum(other))
		}
	})
}
