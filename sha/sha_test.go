package sha_test

import (
	"bytes"
	"crypto/sha256"
	"encoding/hex"
	"math/big"
	"math/bits"
	"slices"
	"strings"
	"testing"
	"time"

	"viaticum/sha"
)

// fraction is the first 32 bits of the fractional part of a prime's root of that degree.
func fraction(prime, degree int64) uint32 {
	// The root of prime * 2^(32*degree) is the prime's root * 2^32: the greatest whole number whose power is no greater.
	goal := new(big.Int).Lsh(big.NewInt(prime), uint(32*degree))
	root := new(big.Int)
	for k := 40; k >= 0; k-- {
		more := new(big.Int).SetBit(root, k, 1)
		if new(big.Int).Exp(more, big.NewInt(degree), nil).Cmp(goal) <= 0 {
			root = more
		}
	}
	return uint32(root.Uint64())
}

// fractions is those of the first count primes.
func fractions(count int, degree int64) []uint32 {
	var out []uint32
	for n := int64(2); len(out) < count; n++ {
		if big.NewInt(n).ProbablyPrime(0) {
			out = append(out, fraction(n, degree))
		}
	}
	return out
}

// blocks is the bytes with what follows them, as numbers of bits are written by a library of unbounded numbers.
func blocks(b []byte) []byte {
	out := append(slices.Clone(b), 0x80)
	for len(out)%64 != 56 {
		out = append(out, 0)
	}
	return append(out, new(big.Int).Mul(big.NewInt(int64(len(b))), big.NewInt(8)).FillBytes(make([]byte, 8))...)
}

// rotated by n to the right.
func rotated(w uint32, n int) uint32 {
	return w>>n | w<<(32-n)
}

// majority of three words, bit by bit.
func majority(a, b, c uint32) uint32 {
	out := uint32(0)
	for k := range 32 {
		if bits.OnesCount32(a>>k&1|b>>k&1<<1|c>>k&1<<2) >= 2 {
			out |= 1 << k
		}
	}
	return out
}

var (
	cubes   = fractions(64, 3)
	squares = fractions(8, 2)
)

// plain is the hash value as the document says it, block by block.
func plain(b []byte) []byte {
	v := slices.Clone(squares)
	for block := range slices.Chunk(blocks(b), 64) {
		var w []uint32
		for four := range slices.Chunk(block, 4) {
			w = append(w, uint32(new(big.Int).SetBytes(four).Uint64()))
		}
		for t := 16; t < 64; t++ {
			x, y := w[t-15], w[t-2]
			w = append(w, w[t-16]+w[t-7]+(rotated(x, 7)^rotated(x, 18)^x>>3)+(rotated(y, 17)^rotated(y, 19)^y>>10))
		}
		before := v
		for t := range 64 {
			a, e := v[0], v[4]
			one := v[7] + (rotated(e, 6) ^ rotated(e, 11) ^ rotated(e, 25)) + (e&v[5] | ^e&v[6]) + cubes[t] + w[t]
			two := (rotated(a, 2) ^ rotated(a, 13) ^ rotated(a, 22)) + majority(a, v[1], v[2])
			v = []uint32{one + two, a, v[1], v[2], v[3] + one, e, v[5], v[6]}
		}
		for i := range v {
			v[i] += before[i]
		}
	}
	var out []byte
	for _, w := range v {
		out = append(out, byte(w>>24), byte(w>>16), byte(w>>8), byte(w))
	}
	return out
}

// noise is count bytes that are spread over all values, the same ones for the same seed.
func noise(seed uint64, count int) []byte {
	x := seed*2654435761 + 88172645463325252
	var out []byte
	for range count {
		x ^= x << 13
		x ^= x >> 7
		x ^= x << 17
		out = append(out, byte(x>>32))
	}
	return out
}

// values is all 256 values of a byte.
func values() []byte {
	var out []byte
	for c := range 256 {
		out = append(out, byte(c))
	}
	return out
}

// edges is the numbers of bytes at which what follows them fits in a block just so, or takes one more.
func edges() []int {
	return []int{0, 1, 2, 3, 4, 31, 32, 54, 55, 56, 57, 62, 63, 64, 65, 118, 119, 120, 121, 127, 128, 129, 183, 184, 191, 192, 193, 4095, 4096, 4097, 5000, 8183, 8184}
}

// P7.1: hash values that are known.
func TestSumGivesTheHashValue(t *testing.T) {
	for _, c := range []struct {
		text string
		want string
	}{
		{"", "e3b0c44298fc1c149afbf4c8996fb92427ae41e4649b934ca495991b7852b855"},
		{"a", "ca978112ca1bbdcafac231b39a23dc4da786eff8147c4e72b9807785afee48bb"},
		{"abc", "ba7816bf8f01cfea414140de5dae2223b00361a396177a9cb410ff61f20015ad"},
		{"abcdbcdecdefdefgefghfghighijhijkijkljklmklmnlmnomnopnopq", "248d6a61d20638b8e5c026930c3e6039a33ce45964ff2167f6ecedd419db06c1"},
		{"abcdefghbcdefghicdefghijdefghijkefghijklfghijklmghijklmnhijklmnoijklmnopjklmnopqklmnopqrlmnopqrsmnopqrstnopqrstu", "cf5b16a778af8380036ce59e7b0492370b249b11e8f07a51afac45037afee9d1"},
		{"The quick brown fox jumps over the lazy dog", "d7a8fbb307d7809469ca9abcb0082e4f8d5651e46d3cdb762d02d0bf37c9e592"},
		{"\xbd", "68325720aabd7c82f30f554b313d0570c95accbb7dc4b5aae11204c08ffe732b"},
		{"\xc9\x8c\x8e\x55", "7abc22c0ae5af26ce93dbb94433a0e0b2e119d014f8e7f65bd56c61ccccd9504"},
		{strings.Repeat("\x00", 55), "02779466cdec163811d078815c633f21901413081449002f24aa3e80f0b88ef7"},
		{strings.Repeat("\x00", 56), "d4817aa5497628e7c77e6b606107042bbba3130888c5f47a375e6179be789fbb"},
		{strings.Repeat("\x00", 57), "65a16cb7861335d5ace3c60718b5052e44660726da4cd13bb745381b235a1785"},
		{strings.Repeat("\x00", 64), "f5a5fd42d16a20302798ef6ed309979b43003d2320d9f0e8ea9831a92759fb4b"},
		{strings.Repeat("\x00", 1000), "541b3e9daa09b20bf85fa273e5cbd3e80185aa4ec298e765db87742b70138a53"},
		{strings.Repeat("A", 1000), "c2e686823489ced2017f6059b8b239318b6364f6dcd835d0a519105a1eadd6e4"},
		{strings.Repeat("a", 1000000), "cdc76e5c9914fb9281a1c7e284d73e67f1809a48a497200e046d39ccc7112cd0"},
	} {
		if got := hex.EncodeToString(sha.Sum([]byte(c.text))); got != c.want {
			t.Errorf("Sum of %d bytes %.10q = %s, want %s", len(c.text), c.text, got, c.want)
		}
	}
}

// P7.1: nil and empty are no byte.
func TestSumOfNoByte(t *testing.T) {
	want := plain(nil)
	for _, b := range [][]byte{nil, {}, values()[:0]} {
		if got := sha.Sum(b); !bytes.Equal(got, want) {
			t.Errorf("Sum(%v) = % x, want % x", b, got, want)
		}
	}
}

// P7.1: the hash values as the document says them, at the edges of blocks.
func TestSumAtTheEdges(t *testing.T) {
	for _, n := range edges() {
		for _, b := range [][]byte{noise(uint64(n), n), make([]byte, n), bytes.Repeat([]byte{0xff}, n), bytes.Repeat([]byte{0x80}, n)} {
			if got := sha.Sum(b); !bytes.Equal(got, plain(b)) {
				t.Errorf("Sum of %d bytes = % x, want % x", n, got, plain(b))
			}
		}
	}
}

// P7.1: every number of bytes, up to some blocks; 32 bytes each time.
func TestSumOfEachLength(t *testing.T) {
	b := noise(1, 600)
	for n := range len(b) + 1 {
		want := sha256.Sum256(b[:n])
		if got := sha.Sum(b[:n]); len(got) != 32 || !bytes.Equal(got, want[:]) {
			t.Fatalf("Sum of %d bytes = % x, want % x", n, got, want)
		}
	}
}

// P7.1: so many bytes that their number of bits takes two, three, and four bytes.
func TestSumOfManyBytes(t *testing.T) {
	b := noise(2, 1<<21)
	for _, n := range []int{1<<13 - 1, 1 << 13, 1<<13 + 1, 1<<16 - 9, 1<<21 - 1, 1 << 21} {
		want := sha256.Sum256(b[:n])
		if got := sha.Sum(b[:n]); !bytes.Equal(got, want[:]) {
			t.Errorf("Sum of %d bytes = % x, want % x", n, got, want)
		}
	}
}

// P7.1: each value of a byte, alone and within a block, and all of them together.
func TestSumOfEachByte(t *testing.T) {
	seen := map[string]int{}
	for c := range 256 {
		one, some := []byte{byte(c)}, bytes.Repeat([]byte{byte(c)}, 70)
		for _, b := range [][]byte{one, some} {
			if got := sha.Sum(b); !bytes.Equal(got, plain(b)) {
				t.Errorf("Sum of %d bytes %02x = % x, want % x", len(b), c, got, plain(b))
			}
		}
		seen[string(sha.Sum(one))]++
	}
	if len(seen) != 256 {
		t.Errorf("%d hash values of 256 bytes", len(seen))
	}
	if got, want := hex.EncodeToString(sha.Sum(values())), "40aff2e9d2d8922e47afd4648e6967497158785fbd1da870e7110266bf944880"; got != want {
		t.Errorf("Sum of all values = %s, want %s", got, want)
	}
}

// P7.1: each bit counts, and each place.
func TestSumOfEachBit(t *testing.T) {
	b := noise(3, 130)
	whole := sha.Sum(b)
	for at := range b {
		for k := range 8 {
			other := slices.Clone(b)
			other[at] ^= 1 << k
			if got := sha.Sum(other); bytes.Equal(got, whole) || !bytes.Equal(got, plain(other)) {
				t.Fatalf("bit %d of byte %d turned: % x, want % x", k, at, got, plain(other))
			}
		}
	}
}

// P7.1: bytes behind the end of the slice are not its own.
func TestSumStopsAtTheEnd(t *testing.T) {
	b := []byte("abcdef")
	if got, want := sha.Sum(b[:3]), plain([]byte("abc")); !bytes.Equal(got, want) {
		t.Errorf("Sum = % x, want % x", got, want)
	}
	if got, want := sha.Parts(b[:1], b[1:3]), plain([]byte("abc")); !bytes.Equal(got, want) {
		t.Errorf("Parts = % x, want % x", got, want)
	}
	if string(b) != "abcdef" {
		t.Errorf("the bytes were changed to %q", b)
	}
}

// P7.1: no part at all is no byte.
func TestNoPart(t *testing.T) {
	want := plain(nil)
	for _, parts := range [][][]byte{nil, {}, {nil}, {{}}, {nil, nil}, {{}, nil, {}}} {
		if got := sha.Parts(parts...); !bytes.Equal(got, want) {
			t.Errorf("Parts of %d without a byte = % x, want % x", len(parts), got, want)
		}
	}
	if got := sha.Parts(); !bytes.Equal(got, want) {
		t.Errorf("Parts() = % x, want % x", got, want)
	}
}

// P7.1: one part alone.
func TestOnePart(t *testing.T) {
	for _, n := range edges() {
		b := noise(uint64(n)+9, n)
		if got := sha.Parts(b); !bytes.Equal(got, plain(b)) || !bytes.Equal(got, sha.Sum(b)) {
			t.Errorf("Parts of %d bytes = % x, want % x", n, got, plain(b))
		}
	}
}

// P7.1: the parts in their order.
func TestPartsInOrder(t *testing.T) {
	a, b, c := []byte("abc"), []byte("defgh"), noise(4, 64)
	if got, want := sha.Parts(a, b, c), plain(slices.Concat(a, b, c)); !bytes.Equal(got, want) {
		t.Errorf("Parts(a, b, c) = % x, want % x", got, want)
	}
	if got, want := sha.Parts(c, b, a), plain(slices.Concat(c, b, a)); !bytes.Equal(got, want) {
		t.Errorf("Parts(c, b, a) = % x, want % x", got, want)
	}
	if got, want := sha.Parts(a, a, a), plain([]byte("abcabcabc")); !bytes.Equal(got, want) {
		t.Errorf("Parts(a, a, a) = % x, want % x", got, want)
	}
}

// P7.2: two parts, cut at every place, within blocks and at their edges.
func TestTwoParts(t *testing.T) {
	for _, n := range edges() {
		b := noise(uint64(n), n)
		want := plain(b)
		for k := 0; k <= n; k += 1 + n/1000 {
			if got := sha.Parts(b[:k], b[k:]); !bytes.Equal(got, want) {
				t.Fatalf("%d bytes cut at %d: % x, want % x", n, k, got, want)
			}
		}
	}
}

// P7.2: three parts, cut at every two places.
func TestThreeParts(t *testing.T) {
	b := noise(5, 140)
	want := plain(b)
	for j := range len(b) + 1 {
		for i := range j + 1 {
			if got := sha.Parts(b[:i], b[i:j], b[j:]); !bytes.Equal(got, want) {
				t.Fatalf("cut at %d and %d: % x, want % x", i, j, got, want)
			}
		}
	}
}

// P7.2: parts of one length, from single bytes on.
func TestManyParts(t *testing.T) {
	b := noise(6, 2000)
	want := plain(b)
	for size := 1; size <= 200; size++ {
		if got := sha.Parts(slices.Collect(slices.Chunk(b, size))...); !bytes.Equal(got, want) {
			t.Fatalf("parts of %d bytes: % x, want % x", size, got, want)
		}
	}
}

// P7.2: empty parts and nil at the beginning, between and at the end.
func TestEmptyParts(t *testing.T) {
	for _, n := range []int{0, 1, 55, 56, 63, 64, 65, 128, 200} {
		b := noise(uint64(n), n)
		want := plain(b)
		for _, none := range [][]byte{nil, {}, b[:0]} {
			for k := range n + 1 {
				head, tail := b[:k], b[k:]
				for _, parts := range [][][]byte{
					{none, head, tail},
					{head, none, tail},
					{head, tail, none},
					{none, nil, head, none, nil, {}, tail, {}, none},
				} {
					if got := sha.Parts(parts...); !bytes.Equal(got, want) {
						t.Fatalf("%d bytes cut at %d, empty parts among %d: % x, want % x", n, k, len(parts), got, want)
					}
				}
			}
		}
	}
}

// P7.2: parts that lie on each other in memory.
func TestPartsOfOneMemory(t *testing.T) {
	b := noise(7, 100)
	before := slices.Clone(b)
	parts := [][]byte{b[10:90], b[:50], b[40:], b, b[:1]}
	if got, want := sha.Parts(parts...), plain(slices.Concat(parts...)); !bytes.Equal(got, want) {
		t.Errorf("Parts = % x, want % x", got, want)
	}
	if !bytes.Equal(b, before) {
		t.Error("Parts changed its bytes")
	}
	if len(parts) != 5 || len(parts[0]) != 80 || len(parts[4]) != 1 {
		t.Error("Parts changed its list")
	}
}

// Each answer is memory of its own, and no call leaves anything for the next one.
func TestSumGivesNewMemory(t *testing.T) {
	b := []byte("abc")
	one, two := sha.Sum(b), sha.Sum(b)
	clear(one)
	if want := plain(b); !bytes.Equal(two, want) || !bytes.Equal(sha.Sum(b), want) || !bytes.Equal(sha.Parts(b), want) {
		t.Error("Sum gave out bytes that another answer has")
	}
	if string(b) != "abc" {
		t.Errorf("Sum changed its bytes to %q", b)
	}
}

// P7.1: lists that are equal.
func TestSameIfEqual(t *testing.T) {
	for _, n := range []int{0, 1, 2, 31, 32, 33, 64, 1000} {
		for _, b := range [][]byte{noise(uint64(n), n), make([]byte, n), bytes.Repeat([]byte{0xff}, n)} {
			before := slices.Clone(b)
			if !sha.Same(b, before) || !sha.Same(b, b) {
				t.Errorf("Same: false for %d bytes and the same ones", n)
			}
			if !bytes.Equal(b, before) {
				t.Errorf("Same changed its %d bytes", n)
			}
		}
	}
}

// P7.1: nil and empty are equal, and are equal to nothing else.
func TestSameOfNoByte(t *testing.T) {
	none := [][]byte{nil, {}, values()[:0]}
	for _, a := range none {
		for _, b := range none {
			if !sha.Same(a, b) {
				t.Errorf("Same(%v, %v) = false", a, b)
			}
		}
		for _, b := range [][]byte{{0}, {1}, {0xff}, {0, 0}, make([]byte, 32), make([]byte, 256)} {
			apart(t, a, b)
		}
	}
}

// apart asks that two lists are told not to be equal, either way round.
func apart(t *testing.T, a, b []byte) {
	t.Helper()
	if sha.Same(a, b) || sha.Same(b, a) {
		t.Errorf("Same: true for % x and % x", a, b)
	}
}

// P7.1: lists that differ in one bit, at the first, the last and each other place.
func TestSameOfOneBit(t *testing.T) {
	for _, b := range [][]byte{{0}, {0xff}, []byte("ab"), noise(8, 32), make([]byte, 32), noise(9, 100)} {
		for at := range b {
			for k := range 8 {
				other := slices.Clone(b)
				other[at] ^= 1 << k
				apart(t, b, other)
			}
		}
	}
}

// P7.1: lists that differ in the first byte alone, or in the last alone, by whatever it is.
func TestSameOfOneByte(t *testing.T) {
	b := noise(10, 32)
	for _, at := range []int{0, 15, 31} {
		other := slices.Clone(b)
		for c := range 256 {
			other[at] = byte(c)
			if want := byte(c) == b[at]; sha.Same(b, other) != want || sha.Same(other, b) != want {
				t.Errorf("Same with byte %d as %02x instead of %02x: not %t", at, c, b[at], want)
			}
		}
	}
}

// P7.1: differences do not cancel each other out.
func TestSameOfTwoBytes(t *testing.T) {
	b := noise(11, 32)
	for i := range b {
		for j := range i {
			other := slices.Clone(b)
			other[i] ^= 0x5a
			other[j] ^= 0x5a
			apart(t, b, other)
			other = slices.Clone(b)
			other[i]++
			other[j]--
			apart(t, b, other)
		}
	}
	apart(t, []byte("abc"), []byte("cba"))
	apart(t, make([]byte, 256), bytes.Repeat([]byte{1}, 256))
}

// P7.1: lists of which one is longer, also by zero bytes, and by so many that the low bits of both lengths are the same.
func TestSameIfOneIsLonger(t *testing.T) {
	for _, b := range [][]byte{noise(12, 32), make([]byte, 32), {0}, {1}} {
		for _, more := range []int{1, 2, 32, 255, 256, 65536} {
			apart(t, b, append(slices.Clone(b), make([]byte, more)...))
			apart(t, b, append(slices.Clone(b), noise(uint64(more), more)...))
			apart(t, b, append(make([]byte, more), b...))
		}
		for n := range b {
			apart(t, b, b[:n])
		}
	}
	// The difference of the lengths is that of the bytes.
	apart(t, []byte{1, 0}, []byte{2, 0, 1})
	apart(t, []byte{5}, []byte{5, 3})
}

// least is the least time that Same took in some calls.
func least(a, b []byte) time.Duration {
	out := time.Hour
	for range 5 {
		start := time.Now()
		sha.Same(a, b)
		out = min(out, time.Since(start))
	}
	return out
}

// P7.1: all bytes are examined, wherever the lists differ: otherwise a call would take some thousands of times less.
func TestSameExaminesAll(t *testing.T) {
	b := noise(13, 1<<22)
	whole := least(b, slices.Clone(b))
	for _, at := range []int{0, len(b) / 1000} {
		other := slices.Clone(b)
		other[at] ^= 1
		if part := least(b, other); part < whole/100 {
			t.Errorf("lists that differ in byte %d: %v, equal ones: %v", at, part, whole)
		}
	}
	for _, n := range []int{len(b) - 1, 1, 0} {
		if part := min(least(b, b[:n]), least(b[:n], b)); part < whole/100 {
			t.Errorf("%d bytes against %d: %v, equal lists: %v", len(b), n, part, whole)
		}
	}
}

// P7.1 and P7.2 for bytes and cuts of any kind.
func FuzzSum(f *testing.F) {
	f.Add([]byte("abc"), 1, 2)
	f.Add([]byte{}, 0, 0)
	f.Add(noise(1, 55), 55, 55)
	f.Add(noise(2, 56), 0, 56)
	f.Add(noise(3, 64), 63, 64)
	f.Add(values(), 64, 128)
	f.Fuzz(func(t *testing.T, b []byte, i, j int) {
		want := plain(b)
		if got := sha.Sum(b); !bytes.Equal(got, want) {
			t.Fatalf("Sum(% x) = % x, want % x", b, got, want)
		}
		if i < 0 || j < i || len(b) < j {
			return
		}
		if got := sha.Parts(b[:i], nil, b[i:j], b[j:]); !bytes.Equal(got, want) {
			t.Fatalf("% x cut at %d and %d: % x, want % x", b, i, j, got, want)
		}
	})
}

// P7.1 for two lists of any kind.
func FuzzSame(f *testing.F) {
	f.Add([]byte("abc"), []byte("abc"))
	f.Add([]byte("abc"), []byte("abd"))
	f.Add([]byte{}, []byte{0})
	f.Add([]byte{1, 0}, []byte{2, 0, 1})
	f.Fuzz(func(t *testing.T, a, b []byte) {
		if got, want := sha.Same(a, b), bytes.Equal(a, b); got != want {
			t.Fatalf("Same(% x, % x) = %t, want %t", a, b, got, want)
		}
	})
}
