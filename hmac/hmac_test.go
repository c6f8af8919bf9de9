package hmac_test

import (
	"bytes"
	stdhmac "crypto/hmac"
	"crypto/sha256"
	"encoding/hex"
	"slices"
	"strings"
	"testing"

	"viaticum/hmac"
	"viaticum/sha"
)

// hash is the hash value of the concatenated lists, by the library.
func hash(lists ...[]byte) []byte {
	out := sha256.Sum256(slices.Concat(lists...))
	return out[:]
}

// plain is the tag as the document says it.
func plain(key, message []byte) []byte {
	if len(key) > 64 {
		key = hash(key)
	}
	var first, second []byte
	for i := range 64 {
		c := byte(0)
		if i < len(key) {
			c = key[i]
		}
		first, second = append(first, c^0x36), append(second, c^0x5c)
	}
	return hash(second, hash(first, message))
}

// library is the tag as the library computes it.
func library(key, message []byte) []byte {
	h := stdhmac.New(sha256.New, key)
	h.Write(message)
	return h.Sum(nil)
}

// noise is count bytes that are spread over all values, the same ones for the same seed.
func noise(seed uint64, count int) []byte {
	x := seed*2654435761 + 88172645463325252
	out := []byte{}
	for range count {
		x ^= x << 13
		x ^= x >> 7
		x ^= x << 17
		out = append(out, byte(x>>32))
	}
	return out
}

// sizes is the numbers of bytes of keys at which a hash value or a block is filled just so, or is not.
func sizes() []int {
	return []int{0, 1, 2, 4, 20, 31, 32, 33, 55, 56, 62, 63, 64, 65, 66, 96, 127, 128, 129, 131, 192, 193, 1000, 4096}
}

// keys is keys of all sizes, each of several kinds.
func keys() [][]byte {
	out := [][]byte{nil}
	for _, n := range sizes() {
		out = append(out, noise(uint64(n), n), make([]byte, n), bytes.Repeat([]byte{0xff}, n), bytes.Repeat([]byte{0x36}, n), bytes.Repeat([]byte{0x5c}, n))
	}
	return out
}

// messages is messages at the edges of blocks.
func messages() [][]byte {
	out := [][]byte{nil, {0}, {0, 0}, []byte("abc"), make([]byte, 64)}
	for _, n := range []int{0, 1, 31, 32, 54, 55, 56, 63, 64, 65, 119, 120, 128, 129, 1000} {
		out = append(out, noise(uint64(n)+100, n))
	}
	return out
}

// expect asks for a tag, and that it has 32 bytes.
func expect(t *testing.T, got, want []byte, about string) {
	t.Helper()
	if len(got) != 32 || !bytes.Equal(got, want) {
		t.Errorf("%s: % x, want % x", about, got, want)
	}
}

// different asks that two tags are not one.
func different(t *testing.T, a, b []byte, about string) {
	t.Helper()
	if len(a) != 32 || len(b) != 32 || bytes.Equal(a, b) {
		t.Errorf("%s: % x and % x", about, a, b)
	}
}

// P8.1: tags that are known, with the chapter's example.
func TestTagsThatAreKnown(t *testing.T) {
	var counted []byte
	for c := range 25 {
		counted = append(counted, byte(c+1))
	}
	for _, c := range []struct {
		key     string
		message string
		want    string
	}{
		{"", "", "b613679a0814d9ec772f95d778c35fc5ff1697c493715653c6c712144292c5ad"},
		{"key", "The quick brown fox jumps over the lazy dog", "f7bc83f430538424b13298e6aa6fb143ef4d59a14946175997479dbc2d1a3cd8"},
		{"Jefe", "what do ya want for nothing?", "5bdcc146bf60754e6a042426089575c75a003f089d2739839dec58b964ec3843"},
		{strings.Repeat("\x0b", 20), "Hi There", "b0344c61d8db38535ca8afceaf0bf12b881dc200c9833da726e9376c2e32cff7"},
		{strings.Repeat("\xaa", 20), strings.Repeat("\xdd", 50), "773ea91e36800e46854db8ebd09181a72959098b3ef8c122d9635514ced565fe"},
		{string(counted), strings.Repeat("\xcd", 50), "82558a389a443c0ea4cc819899f2083a85f0faa3e578f8077a2e3ff46729665b"},
		{strings.Repeat("\xaa", 131), "Test Using Larger Than Block-Size Key - Hash Key First", "60e431591ee0b67f0d8a26aacbf5b77f8e0bc6213728c5140546040f0ee37f54"},
		{strings.Repeat("\xaa", 131), "This is a test using a larger than block-size key and a larger than block-size data. The key needs to be hashed before being used by the HMAC algorithm.", "9b09ffa71b942fcb27635fbcd5b0e944bfdc63644f0713938a7f51535c3a35e2"},
	} {
		if got := hex.EncodeToString(hmac.Tag([]byte(c.key), []byte(c.message))); got != c.want {
			t.Errorf("Tag of %.20q under %d bytes %.10q = %s, want %s", c.message, len(c.key), c.key, got, c.want)
		}
	}
}

// P8.1: keys of all sizes, messages of all sizes.
func TestTagOfEachKeyAndMessage(t *testing.T) {
	for _, key := range keys() {
		for _, message := range messages() {
			got := hmac.Tag(key, message)
			expect(t, got, plain(key, message), "as the document says it")
			expect(t, got, library(key, message), "as the library has it")
		}
	}
}

// P8.1: every number of bytes of a key, and of a message, up to some blocks.
func TestTagOfEachLength(t *testing.T) {
	b := noise(1, 300)
	for n := range len(b) + 1 {
		expect(t, hmac.Tag(b[:n], []byte("abc")), plain(b[:n], []byte("abc")), "a key of each length")
		expect(t, hmac.Tag([]byte("abc"), b[:n]), plain([]byte("abc"), b[:n]), "a message of each length")
	}
}

// P8.1: a message of many bytes.
func TestTagOfManyBytes(t *testing.T) {
	b := noise(2, 1<<20)
	expect(t, hmac.Tag([]byte("key"), b), library([]byte("key"), b), "a long message")
	expect(t, hmac.Tag(b, []byte("abc")), library(b, []byte("abc")), "a long key")
}

// P8.1: no part at all is no byte, and so are empty parts.
func TestTagOfNoByte(t *testing.T) {
	for _, key := range keys() {
		want := plain(key, nil)
		expect(t, hmac.Tag(key), want, "no part")
		for _, parts := range [][][]byte{nil, {}, {nil}, {{}}, {nil, nil}, {{}, nil, {}}} {
			expect(t, hmac.Tag(key, parts...), want, "parts without a byte")
		}
		different(t, hmac.Tag(key), hmac.Tag(key, []byte{0}), "no byte and a zero byte")
	}
}

// P8.1: the parts in their order.
func TestPartsInOrder(t *testing.T) {
	a, b, c := []byte("abc"), []byte("defgh"), noise(3, 64)
	for _, key := range keys() {
		expect(t, hmac.Tag(key, a, b, c), plain(key, slices.Concat(a, b, c)), "a, b, c")
		expect(t, hmac.Tag(key, c, b, a), plain(key, slices.Concat(c, b, a)), "c, b, a")
		expect(t, hmac.Tag(key, a, a, a), plain(key, []byte("abcabcabc")), "a, a, a")
		different(t, hmac.Tag(key, a, b), hmac.Tag(key, b, a), "a, b and b, a")
	}
}

// P8.1: two parts and three, cut at every place, with empty ones among them.
func TestCutsMakeNoDifference(t *testing.T) {
	b := noise(4, 90)
	for _, n := range []int{0, 1, 63, 64, 65, 131} {
		key := noise(uint64(n)+5, n)
		want := plain(key, b)
		for j := range len(b) + 1 {
			expect(t, hmac.Tag(key, b[:j], b[j:]), want, "two parts")
			expect(t, hmac.Tag(key, nil, b[:j], []byte{}, b[j:], nil), want, "empty parts among two")
			for i := 0; i <= j; i += 7 {
				expect(t, hmac.Tag(key, b[:i], b[i:j], b[j:]), want, "three parts")
			}
		}
	}
}

// P8.1: parts of one length, from single bytes on.
func TestManyParts(t *testing.T) {
	b := noise(6, 2000)
	for _, n := range []int{0, 32, 64, 65} {
		key := noise(uint64(n)+7, n)
		want := plain(key, b)
		for size := 1; size <= 130; size++ {
			expect(t, hmac.Tag(key, slices.Collect(slices.Chunk(b, size))...), want, "many parts")
		}
	}
}

// P8.1: the key is no part: bytes do not move from one to the other.
func TestKeyIsNoPart(t *testing.T) {
	b := noise(8, 80)
	for n := range len(b) {
		different(t, hmac.Tag(b[:n], b[n:]), hmac.Tag(b[:n+1], b[n+1:]), "bytes that move from the message to the key")
	}
	different(t, hmac.Tag([]byte("a"), []byte("b")), hmac.Tag([]byte("b"), []byte("a")), "key and message exchanged")
}

// P8.1 and P8.3: each bit of a key counts, on both sides of 64 bytes, and each bit of the message.
func TestEachBitCounts(t *testing.T) {
	for _, n := range []int{1, 32, 63, 64, 65, 100} {
		key, message := noise(uint64(n)+9, n), noise(10, 70)
		whole := hmac.Tag(key, message)
		for at := range 8 * n {
			other := slices.Clone(key)
			other[at/8] ^= 1 << (at % 8)
			different(t, hmac.Tag(other, message), whole, "a bit of the key turned")
		}
		for at := range 8 * len(message) {
			other := slices.Clone(message)
			other[at/8] ^= 1 << (at % 8)
			different(t, hmac.Tag(key, other), whole, "a bit of the message turned")
		}
	}
}

// names is names of all kinds, as strings may have any bytes.
func names() []string {
	return []string{"", "a", "epoch", "token", "device", "answer", "\x00", "\x00\x00", "a\x00", "\x00a", "a\x00b", "Ünï", "\xff\xfe", "\xc3", string(noise(11, 64)), strings.Repeat("n", 1000)}
}

// P8.2: the name, a zero byte, and the parts, for names and keys of all kinds.
func TestDerive(t *testing.T) {
	for _, key := range keys() {
		for _, name := range names() {
			for _, message := range [][]byte{nil, {0}, []byte("b"), noise(12, 64)} {
				want := plain(key, slices.Concat([]byte(name), []byte{0}, message))
				expect(t, hmac.Derive(key, name, message), want, "one part")
				expect(t, hmac.Derive(key, name, message), hmac.Tag(key, []byte(name), []byte{0}, message), "as Tag has it")
			}
		}
	}
}

// P8.2: a tag that is known, of the library's making.
func TestDeriveThatIsKnown(t *testing.T) {
	draw := bytes.Repeat([]byte{7}, 32)
	got := hmac.Derive(draw, "epoch", []byte{0, 0, 0, 1})
	expect(t, got, library(draw, []byte("epoch\x00\x00\x00\x00\x01")), "the key of the epoch 1")
}

// P8.2: without parts the zero byte is there, and behind an empty name it is the first.
func TestDeriveOfNoByte(t *testing.T) {
	for _, key := range keys() {
		for _, name := range names() {
			want := plain(key, []byte(name+"\x00"))
			expect(t, hmac.Derive(key, name), want, "no part")
			for _, parts := range [][][]byte{nil, {}, {nil}, {{}}, {nil, {}, nil}} {
				expect(t, hmac.Derive(key, name, parts...), want, "parts without a byte")
			}
			different(t, hmac.Derive(key, name), hmac.Tag(key, []byte(name)), "with and without the zero byte")
		}
		expect(t, hmac.Derive(key, "", []byte("b")), plain(key, []byte("\x00b")), "an empty name")
		different(t, hmac.Derive(key, "", []byte("b")), hmac.Tag(key, []byte("b")), "an empty name and none")
	}
}

// P8.2: the zero byte parts the name from what follows it; the division of that makes no difference.
func TestDeriveOfParts(t *testing.T) {
	b := noise(13, 70)
	for _, n := range []int{0, 1, 32, 63, 64, 65, 131} {
		key := noise(uint64(n)+14, n)
		want := plain(key, slices.Concat([]byte("token\x00"), b))
		for j := range len(b) + 1 {
			expect(t, hmac.Derive(key, "token", b[:j], b[j:]), want, "two parts")
			expect(t, hmac.Derive(key, "token", nil, b[:j], []byte{}, b[j:], nil), want, "empty parts among two")
		}
		expect(t, hmac.Derive(key, "token", slices.Collect(slices.Chunk(b, 1))...), want, "single bytes")
		different(t, hmac.Derive(key, "ab", []byte("c")), hmac.Derive(key, "a", []byte("bc")), "a letter of the name among the parts")
		different(t, hmac.Derive(key, "a", []byte("b"), []byte("c")), hmac.Derive(key, "a", []byte("c"), []byte("b")), "parts exchanged")
		different(t, hmac.Derive(key, "a"), hmac.Derive(key, "A"), "another name")
		expect(t, hmac.Derive(key, "a\x00b"), hmac.Derive(key, "a", []byte("b\x00")), "a zero byte within the name")
	}
}

// P8.3: a key of up to 64 bytes, with zero bytes behind it up to 64.
func TestKeyWithZeros(t *testing.T) {
	for n := range 65 {
		for _, key := range [][]byte{noise(uint64(n)+15, n), make([]byte, n), bytes.Repeat([]byte{0xff}, n)} {
			want, derived := hmac.Tag(key, []byte("abc")), hmac.Derive(key, "a", []byte("b"))
			for more := range 65 - n {
				other := append(slices.Clone(key), make([]byte, more)...)
				expect(t, hmac.Tag(other, []byte("abc")), want, "zero bytes behind the key")
				expect(t, hmac.Derive(other, "a", []byte("b")), derived, "zero bytes behind the key of a name")
			}
		}
	}
}

// P8.3: zero bytes beyond 64, or ahead of the key, make another key.
func TestKeyWithZerosElsewhere(t *testing.T) {
	for _, n := range []int{1, 32, 63, 64} {
		key := noise(uint64(n)+16, n)
		want := hmac.Tag(key, []byte("abc"))
		for _, more := range []int{65 - n, 66 - n, 128 - n} {
			different(t, hmac.Tag(append(slices.Clone(key), make([]byte, more)...), []byte("abc")), want, "zero bytes beyond 64")
		}
		different(t, hmac.Tag(append([]byte{0}, key...), []byte("abc")), want, "a zero byte ahead of the key")
	}
}

// P8.3: a key of more than 64 bytes, and its hash value, which is padded likewise.
func TestKeyAndItsHashValue(t *testing.T) {
	for n := 65; n <= 200; n++ {
		for _, key := range [][]byte{noise(uint64(n)+17, n), make([]byte, n), bytes.Repeat([]byte{0xff}, n)} {
			for _, other := range [][]byte{hash(key), sha.Sum(key), append(hash(key), make([]byte, 32)...)} {
				expect(t, hmac.Tag(other, []byte("abc")), hmac.Tag(key, []byte("abc")), "the hash value of a key")
				expect(t, hmac.Derive(other, "a", []byte("b")), hmac.Derive(key, "a", []byte("b")), "the hash value of the key of a name")
			}
			different(t, hmac.Tag(key[:64], []byte("abc")), hmac.Tag(key, []byte("abc")), "the first 64 bytes of a longer key")
		}
	}
}

// P8.3: up to 64 bytes the hash value is another key.
func TestHashValueOfShortKey(t *testing.T) {
	for n := range 65 {
		key := noise(uint64(n)+18, n)
		different(t, hmac.Tag(hash(key), []byte("abc")), hmac.Tag(key, []byte("abc")), "a short key and its hash value")
	}
}

// within is a list within greater memory that goes on behind it, and all of that memory.
func within(seed uint64, count int) (list, memory []byte) {
	memory = noise(seed, count+200)
	return memory[:count], memory
}

// No argument is changed: not the bytes, not those behind their end, not the list of parts, and not what stands behind its end.
func TestArgumentsAreNotChanged(t *testing.T) {
	for _, n := range sizes() {
		key, keyMemory := within(19, n)
		a, aMemory := within(20, 10)
		b, bMemory := within(21, 70)
		memories := [][]byte{keyMemory, aMemory, bMemory}
		list := [][]byte{a, nil, {}, b, []byte("behind"), []byte("the end"), nil, []byte("last")}
		var before, listed [][]byte
		for _, m := range memories {
			before = append(before, slices.Clone(m))
		}
		for _, p := range list {
			listed = append(listed, slices.Clone(p))
		}
		message := slices.Concat(a, b)
		expect(t, hmac.Tag(key, list[:4]...), plain(key, message), "four parts of a longer list")
		expect(t, hmac.Derive(key, "a", list[:4]...), plain(key, slices.Concat([]byte("a\x00"), message)), "four parts of a longer list, under a name")
		expect(t, hmac.Tag(key, list[:0]...), plain(key, nil), "no part of a longer list")
		expect(t, hmac.Derive(key, "a", list[:0]...), plain(key, []byte("a\x00")), "no part of a longer list, under a name")
		for i, m := range memories {
			if !bytes.Equal(m, before[i]) {
				t.Errorf("under a key of %d bytes: the memory %d was changed", n, i)
			}
		}
		for i, p := range list {
			if !bytes.Equal(p, listed[i]) {
				t.Errorf("under a key of %d bytes: part %d of the list was changed to %q", n, i, p)
			}
		}
	}
}

// Keys and parts that lie on each other in memory.
func TestArgumentsOfOneMemory(t *testing.T) {
	memory := noise(22, 200)
	before := slices.Clone(memory)
	for _, n := range []int{0, 1, 32, 63, 64, 65, 131} {
		key := memory[:n]
		parts := [][]byte{memory[10:90], memory[:50], key, memory, key, memory[:1]}
		message := slices.Concat(parts...)
		expect(t, hmac.Tag(key, parts...), plain(key, message), "parts on the key")
		expect(t, hmac.Derive(key, string(key), parts...), plain(key, slices.Concat(key, []byte{0}, message)), "parts on the key, under a name")
		expect(t, hmac.Tag(key, key), plain(key, key), "the key as its message")
	}
	if !bytes.Equal(memory, before) {
		t.Error("the memory was changed")
	}
}

// Each answer is memory of its own, and no call leaves anything for the next one.
func TestAnswersAreNewMemory(t *testing.T) {
	for _, n := range sizes() {
		key, message := noise(23, n), noise(24, 32)
		keyBefore, messageBefore := slices.Clone(key), slices.Clone(message)
		tag, derived := plain(key, message), plain(key, slices.Concat([]byte("a\x00"), message))
		answers := [][]byte{hmac.Tag(key, message), hmac.Derive(key, "a", message), hmac.Tag(key, message), hmac.Derive(key, "a", message)}
		spoil(answers[0])
		spoil(answers[1])
		expect(t, answers[2], tag, "beside an answer that was overwritten")
		expect(t, answers[3], derived, "beside an answer that was overwritten, under a name")
		expect(t, hmac.Tag(key, message), tag, "behind an answer that was overwritten")
		expect(t, hmac.Derive(key, "a", message), derived, "behind an answer that was overwritten, under a name")
		if !bytes.Equal(key, keyBefore) || !bytes.Equal(message, messageBefore) {
			t.Errorf("under a key of %d bytes: an answer is memory of an argument", n)
		}
	}
}

// spoil overwrites bytes, and the memory behind them.
func spoil(b []byte) {
	b = b[:cap(b)]
	for i := range b {
		b[i] ^= 0xff
	}
}

// What comes in after a call changes nothing of its answer.
func TestAnswersStay(t *testing.T) {
	key, message := noise(25, 32), noise(26, 32)
	tag, derived := hmac.Tag(key, message), hmac.Derive(key, "a", message)
	want, name := plain(key, message), plain(key, slices.Concat([]byte("a\x00"), message))
	spoil(key)
	spoil(message)
	hmac.Tag(key, message)
	expect(t, tag, want, "the arguments overwritten")
	expect(t, derived, name, "the arguments overwritten, under a name")
}

// P8.1 and P8.3 for keys, messages and cuts of any kind.
func FuzzTag(f *testing.F) {
	f.Add([]byte("Jefe"), []byte("what do ya want for nothing?"), 16, 20)
	f.Add([]byte{}, []byte{}, 0, 0)
	f.Add(noise(1, 63), noise(2, 63), 0, 63)
	f.Add(noise(3, 64), noise(4, 64), 1, 63)
	f.Add(noise(5, 65), noise(6, 65), 64, 65)
	f.Fuzz(func(t *testing.T, key, b []byte, i, j int) {
		want := plain(key, b)
		expect(t, hmac.Tag(key, b), want, "one part")
		if 0 <= i && i <= j && j <= len(b) {
			expect(t, hmac.Tag(key, b[:i], nil, b[i:j], b[j:]), want, "parts")
		}
		same := append(slices.Clone(key), make([]byte, max(0, 64-len(key)))...)
		if len(key) > 64 {
			same = hash(key)
		}
		expect(t, hmac.Tag(same, b), want, "under the other form of the key")
	})
}

// P8.2 for keys, names, parts and cuts of any kind.
func FuzzDerive(f *testing.F) {
	f.Add([]byte("k"), "a", []byte("b"), 1)
	f.Add([]byte{}, "", []byte{}, 0)
	f.Add(noise(1, 65), "a\x00b", noise(2, 64), 32)
	f.Fuzz(func(t *testing.T, key []byte, name string, b []byte, at int) {
		want := plain(key, slices.Concat([]byte(name), []byte{0}, b))
		expect(t, hmac.Derive(key, name, b), want, "one part")
		if 0 <= at && at <= len(b) {
			expect(t, hmac.Derive(key, name, b[:at], nil, b[at:]), want, "parts")
		}
	})
}
