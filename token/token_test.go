package token_test

import (
	"bytes"
	stdhmac "crypto/hmac"
	"crypto/sha256"
	"encoding/binary"
	"encoding/hex"
	"hash/crc32"
	"math"
	"slices"
	"testing"

	"viaticum/api"
	"viaticum/ring"
	"viaticum/token"
)

// noise is count bytes that are spread over all values, the same ones for the same seed.
func noise(seed uint64, count int) []byte {
	x := seed*2654435761 + 88172645463325252
	out := []byte{}
	for range count {
		x ^= x << 13
		x ^= x >> 7
		x ^= x << 17
		out = append(out, byte(x>>32))
	}
	return out
}

// plain is the bytes of a number, without the layers below.
func plain(n uint64) []byte {
	return binary.AppendUvarint(nil, n)
}

// summed is bytes with their checksum behind them.
func summed(b []byte) []byte {
	return binary.LittleEndian.AppendUint32(slices.Clone(b), crc32.ChecksumIEEE(b))
}

// framed is a content's frame of a kind, as the document says it.
func framed(kind byte, parts ...[]byte) []byte {
	content := slices.Concat(parts...)
	return summed(slices.Concat([]byte{0xc7, kind}, plain(uint64(len(content))), content))
}

// counted is bytes behind their number.
func counted(b []byte) []byte {
	return slices.Concat(plain(uint64(len(b))), b)
}

// spot is where one of a token's six numbers is.
func spot(t *api.Token, at int) *int {
	return [...]*int{&t.Trip, &t.Account, &t.Stop, &t.Issued, &t.Until, &t.Epoch}[at]
}

// with is a token with another one of its six numbers.
func with(t api.Token, at, n int) api.Token {
	*spot(&t, at) = n
	return t
}

// of is the token of six numbers.
func of(numbers [6]int) api.Token {
	var t api.Token
	for at, n := range numbers {
		t = with(t, at, n)
	}
	return t
}

// bounds is the least and the greatest of each of a token's six numbers.
func bounds() [6]struct{ least, most int } {
	return [6]struct{ least, most int }{{1, 1 << 31}, {1, 1 << 31}, {0, 4095}, {0, 1 << 40}, {0, 1 << 40}, {1, 1 << 20}}
}

// may is whether there may be a token, by the words of the chapter.
func may(t api.Token) bool {
	ok := t.Issued <= t.Until
	for at, b := range bounds() {
		n := *spot(&t, at)
		ok = ok && b.least <= n && n <= b.most
	}
	return ok
}

// fieldsOf is a token's fields, without the layers below.
func fieldsOf(t api.Token) []byte {
	var out []byte
	for at := range 6 {
		out = append(out, plain(uint64(max(*spot(&t, at), 0)))...)
	}
	return out
}

// tagOf is a token's tag under a key, by the library.
func tagOf(key []byte, t api.Token) []byte {
	h := stdhmac.New(sha256.New, key)
	h.Write([]byte("token\x00"))
	h.Write(fieldsOf(t))
	return h.Sum(nil)
}

// bytesOf is the bytes of a token with a tag, without the layers below.
func bytesOf(t api.Token, tag []byte) []byte {
	return framed(2, fieldsOf(t), counted(tag))
}

// keyOf is the bytes of the key of an epoch in the rings of these tests.
func keyOf(epoch int) []byte {
	return noise(uint64(epoch)+1000, 32)
}

// ringOf is a ring of consecutive epochs from a first one on.
func ringOf(keep, first, count int) api.Ring {
	r := api.Ring{Keep: keep}
	for i := range count {
		r.Keys = append(r.Keys, api.Key{Epoch: first + i, Bytes: keyOf(first + i)})
	}
	return r
}

// issued is the bytes of a token under the key of its epoch in the rings of these tests.
func issued(t api.Token) []byte {
	return bytesOf(t, tagOf(keyOf(t.Epoch), t))
}

// clone is a ring in memory of its own.
func clone(r api.Ring) api.Ring {
	out := api.Ring{Keep: r.Keep}
	for _, k := range r.Keys {
		out.Keys = append(out.Keys, api.Key{Epoch: k.Epoch, Bytes: slices.Clone(k.Bytes)})
	}
	return out
}

// sameRing tells whether two rings have the same keys.
func sameRing(a, b api.Ring) bool {
	return a.Keep == b.Keep && slices.EqualFunc(a.Keys, b.Keys, func(a, b api.Key) bool {
		return a.Epoch == b.Epoch && bytes.Equal(a.Bytes, b.Bytes)
	})
}

// tokens is tokens of many kinds: at their bounds and between them.
func tokens() []api.Token {
	out := []api.Token{
		of([6]int{1, 1, 0, 0, 0, 1}),
		of([6]int{300, 7, 12, 1000, 5000, 1}),
		of([6]int{127, 128, 129, 130, 131, 132}),
		of([6]int{16383, 16384, 4095, 1 << 31, 1 << 32, 255}),
		of([6]int{1 << 31, 1 << 31, 4095, 1 << 40, 1 << 40, 1 << 20}),
		of([6]int{1, 1 << 31, 0, 0, 1 << 40, 1 << 20}),
		of([6]int{1 << 31, 1, 4094, 1<<40 - 1, 1 << 40, 65536}),
	}
	for seed := range 20 {
		var t api.Token
		for at, b := range bounds() {
			x := binary.LittleEndian.Uint64(noise(uint64(8*seed+at), 8))
			t = with(t, at, b.least+int(x>>(x%40)%uint64(b.most-b.least+1)))
		}
		t.Issued, t.Until = min(t.Issued, t.Until), max(t.Issued, t.Until)
		out = append(out, t)
	}
	return out
}

// middle is a token whose numbers are all away from their bounds.
func middle() api.Token {
	return of([6]int{300, 7, 12, 1000, 5000, 3})
}

// noTokens is tokens that are none for a reason beside the Epoch.
func noTokens() []api.Token {
	wide := of([6]int{300, 7, 12, 0, 1 << 40, 3})
	out := []api.Token{{}, with(wide, 3, 1<<40+1), with(middle(), 3, 5001), with(middle(), 4, 999)}
	for at, b := range bounds() {
		if at == 5 {
			continue
		}
		for _, n := range []int{b.least - 1, b.most + 1, -7, math.MinInt, math.MaxInt, 1<<41 + 5, -b.most} {
			out = append(out, with(wide, at, n))
		}
	}
	out = append(out, of([6]int{1, 1, 1, -1, -1, 1}), of([6]int{1, 1, 1, 1<<40 + 1, 1<<40 + 1, 1}))
	return out
}

// noRings is rings that are not valid.
func noRings() []api.Ring {
	keyed := func(at, epoch, length int) api.Ring {
		r := ringOf(4, 5, 3)
		r.Keys[at] = api.Key{Epoch: epoch, Bytes: noise(3, length)}
		return r
	}
	return []api.Ring{
		{}, {Keep: 1}, {Keep: 16, Keys: []api.Key{}},
		ringOf(0, 1, 1), ringOf(-1, 1, 1), ringOf(17, 1, 1), ringOf(17, 1, 17), ringOf(math.MaxInt, 1, 3), ringOf(math.MinInt, 1, 3),
		ringOf(1, 1, 2), ringOf(3, 1, 4), ringOf(16, 1, 17),
		ringOf(3, 0, 1), ringOf(3, 0, 2), ringOf(3, -1, 3), ringOf(3, 1<<20+1, 1), ringOf(3, 1<<20, 2), ringOf(1, math.MaxInt, 1),
		keyed(0, 5, 31), keyed(1, 6, 33), keyed(2, 7, 31), keyed(2, 7, 33), keyed(2, 7, 0),
		keyed(0, 4, 32), keyed(0, 6, 32), keyed(1, 5, 32), keyed(1, 7, 32), keyed(2, 6, 32), keyed(2, 8, 32), keyed(2, 5, 32),
	}
}

// issues asks that a token has these bytes under a ring.
func issues(t *testing.T, r api.Ring, x api.Token, want []byte) {
	t.Helper()
	if b, e := token.Issue(r, x); e != api.OK || !bytes.Equal(b, want) {
		t.Errorf("Issue of %v under %d keys up to %d = % x, error %d, want % x", x, len(r.Keys), ring.Now(r), b, e, want)
	}
}

// cannot asks that a token has no bytes under a ring.
func cannot(t *testing.T, r api.Ring, x api.Token) {
	t.Helper()
	if b, e := token.Issue(r, x); e != api.ErrArg || len(b) != 0 {
		t.Errorf("Issue of %v under Keep %d, %d keys up to %d = % x, error %d, want error %d", x, r.Keep, len(r.Keys), ring.Now(r), b, e, api.ErrArg)
	}
}

// opens asks that bytes are those of a token and a tag.
func opens(t *testing.T, b []byte, want api.Token, tag []byte) {
	t.Helper()
	if x, got, e := token.Open(b); e != api.OK || x != want || !bytes.Equal(got, tag) {
		t.Errorf("Open of % x = %v, % x, error %d, want %v, % x", b, x, got, e, want, tag)
	}
}

// refuses asks that Open has an error, and so has Verify, with nothing beside it.
func refuses(t *testing.T, b []byte, want api.Errno) {
	t.Helper()
	if x, tag, e := token.Open(b); e != want || x != (api.Token{}) || len(tag) != 0 {
		t.Errorf("Open of %d bytes % x = %v, % x, error %d, want error %d and nothing", len(b), b[:min(len(b), 80)], x, tag, e, want)
	}
	for _, r := range []api.Ring{ringOf(16, 1, 16), ringOf(1, 90, 1), {}} {
		for _, now := range []int{0, 1000, 3000, 1 << 40, -1, math.MaxInt} {
			fails(t, r, b, now, want)
		}
	}
}

// verifies asks that bytes count under a ring at a time.
func verifies(t *testing.T, r api.Ring, b []byte, now int, want api.Token) {
	t.Helper()
	if x, e := token.Verify(r, b, now); e != api.OK || x != want {
		t.Errorf("Verify of % x at %d = %v, error %d, want %v", b, now, x, e, want)
	}
}

// fails asks that Verify has an error, and an empty token beside it.
func fails(t *testing.T, r api.Ring, b []byte, now int, want api.Errno) {
	t.Helper()
	if x, e := token.Verify(r, b, now); e != want || x != (api.Token{}) {
		t.Errorf("Verify of %d bytes % x at %d = %v, error %d, want error %d and nothing", len(b), b[:min(len(b), 80)], now, x, e, want)
	}
}

// from is the ring that draws give, one more rotation for each behind the first.
func from(t *testing.T, keep int, draws ...[]byte) api.Ring {
	t.Helper()
	r, e := ring.New(keep, draws[0])
	for _, draw := range draws[1:] {
		if e == api.OK {
			r, e = ring.Rotate(r, draw)
		}
	}
	if e != api.OK {
		t.Fatalf("a ring of %d draws: error %d", len(draws), e)
	}
	return r
}

// P10.1 to P10.3: tokens that are known.
func TestTokensThatAreKnown(t *testing.T) {
	zeros, sevens := make([]byte, 32), bytes.Repeat([]byte{7}, 32)
	var rising []byte
	for c := range 32 {
		rising = append(rising, byte(c))
	}
	latest := api.Ring{Keep: 2, Keys: []api.Key{{Epoch: api.MaxEpoch - 1, Bytes: zeros}}}
	latest, _ = ring.Rotate(latest, rising)
	for _, c := range []struct {
		ring  api.Ring
		token api.Token
		want  string
	}{
		{from(t, 2, zeros), of([6]int{300, 7, 12, 1000, 5000, 1}), "c7022aac02070ce8078827012037a10afa82bde15251c6e3df322accb9dc647d27cc8172111324d3d58a5f34be23a92d31"},
		{from(t, 1, rising), of([6]int{1, 1, 0, 0, 0, 1}), "c7022701010000000120647123f03e2fbb693680539e6d36d9f7e1ab2ec8a461dfdd92b1151b6236619655207340"},
		{from(t, 2, zeros, sevens), of([6]int{5, 6, 7, 8, 9, 2}), "c70227050607080902208c93cbc5913f01d8b279652c742e957c3b0f3fdf69ca27d55c01091a58e659c407e0fc52"},
		{latest, of([6]int{1 << 31, 1 << 31, 4095, 1 << 40, 1 << 40, 1 << 20}), "c7023c80808080088080808008ff1f80808080802080808080802080804020943b13c8236424207df5175702684df5c217c87fc40d2a21866c5868222d54b5217295c9"},
	} {
		want, _ := hex.DecodeString(c.want)
		issues(t, c.ring, with(c.token, 5, 0), want)
		opens(t, want, c.token, want[len(want)-36:len(want)-4])
		verifies(t, c.ring, want, c.token.Until, c.token)
	}
}

// The chapter's example: 6 fields of one byte each, 33 bytes for the tag, 7 bytes of the frame.
func TestExample(t *testing.T) {
	r := from(t, 2, noise(1, 32))
	for _, x := range []api.Token{of([6]int{1, 1, 0, 0, 0, 0}), of([6]int{127, 127, 127, 127, 127, 127}), of([6]int{3, 4, 5, 6, 7, 8})} {
		b, e := token.Issue(r, x)
		if e != api.OK || len(b) != 6+33+7 {
			t.Errorf("Issue of %v has %d bytes, error %d", x, len(b), e)
		}
	}
}

// asks asks of a token whether there may be it, and its fields.
func asks(t *testing.T, x api.Token, want bool) {
	t.Helper()
	if got := token.May(x); got != want {
		t.Errorf("May(%v) = %t", x, got)
	}
	if b := token.Fields(x); !bytes.Equal(b, fieldsOf(x)) {
		t.Errorf("Fields(%v) = % x, want % x", x, b, fieldsOf(x))
	}
}

// P10.1: tokens of all kinds.
func TestMay(t *testing.T) {
	for _, x := range tokens() {
		asks(t, x, true)
	}
	for _, x := range noTokens() {
		asks(t, x, false)
	}
	asks(t, api.Token{}, false)
}

// P10.1: each number at its lower and its upper bound, one beyond them, and where a smaller type would wrap round.
func TestMayAtEachBound(t *testing.T) {
	wide := of([6]int{300, 7, 12, 0, 1 << 40, 3})
	for at, b := range bounds() {
		for _, n := range []int{b.least, b.least + 1, b.most - 1, b.most} {
			asks(t, with(wide, at, n), true)
		}
		for _, n := range []int{b.least - 1, b.most + 1, b.least - 2, b.most + 2, -b.most, 1<<32 + 5, 1<<48 + 1, math.MinInt, math.MinInt + 1, math.MaxInt - 1, math.MaxInt} {
			asks(t, with(wide, at, n), b.least <= n && n <= b.most)
		}
	}
}

// P10.1: all numbers at their bounds and one beyond them, in all combinations.
func TestMayAtBoundsTogether(t *testing.T) {
	for k := range 1 << 12 {
		var x api.Token
		for at, b := range bounds() {
			x = with(x, at, [...]int{b.least - 1, b.least, b.most, b.most + 1}[k>>(2*at)&3])
		}
		asks(t, x, may(x))
	}
}

// P10.1: Issued may be Until, but not above it.
func TestMayOfTimes(t *testing.T) {
	times := []int{-2, -1, 0, 1, 2, 127, 128, 1000, 1<<32 - 1, 1 << 32, 1<<40 - 1, 1 << 40, 1<<40 + 1, math.MinInt, math.MaxInt}
	for _, from := range times {
		for _, until := range times {
			x := with(with(middle(), 3, from), 4, until)
			asks(t, x, 0 <= from && from <= until && until <= 1<<40)
		}
	}
}

// P10.1: the fields stand in the order of the chapter, negative numbers as 0, and the greatest ones whole.
func TestFields(t *testing.T) {
	for _, c := range []struct {
		numbers [6]int
		want    []byte
	}{
		{[6]int{}, make([]byte, 6)},
		{[6]int{1, 2, 3, 4, 5, 6}, []byte{1, 2, 3, 4, 5, 6}},
		{[6]int{300, 7, 12, 1000, 5000, 1}, []byte{0xac, 0x02, 7, 12, 0xe8, 0x07, 0x88, 0x27, 1}},
		{[6]int{-1, -2, -300, math.MinInt, math.MinInt + 1, -1 << 40}, make([]byte, 6)},
		{[6]int{-1, 2, -3, 4, -5, 6}, []byte{0, 2, 0, 4, 0, 6}},
		{[6]int{1, -2, 3, -4, 5, -6}, []byte{1, 0, 3, 0, 5, 0}},
		{[6]int{127, 128, 16383, 16384, 0, 1}, []byte{0x7f, 0x80, 1, 0xff, 0x7f, 0x80, 0x80, 1, 0, 1}},
	} {
		if b := token.Fields(of(c.numbers)); !bytes.Equal(b, c.want) {
			t.Errorf("Fields of %v = % x, want % x", c.numbers, b, c.want)
		}
	}
	greatest := append(bytes.Repeat([]byte{0xff}, 8), 0x7f)
	b := token.Fields(of([6]int{math.MaxInt, math.MaxInt, math.MaxInt, math.MaxInt, math.MaxInt, math.MaxInt}))
	if !bytes.Equal(b, bytes.Repeat(greatest, 6)) {
		t.Errorf("Fields of the greatest numbers = % x", b)
	}
}

// P10.1: each field is that of its own number, of all sizes.
func TestEachField(t *testing.T) {
	for at := range 6 {
		for _, base := range []api.Token{{}, middle(), of([6]int{-1, -1, -1, -1, -1, -1})} {
			for shift := range 63 {
				for _, n := range []int{1 << shift, 1<<shift - 1, 1<<shift + 1, -1 << shift} {
					x := with(base, at, n)
					asks(t, x, may(x))
				}
			}
		}
	}
}

// P10.1: the bytes of tokens, by the latest key of a ring, whatever Epoch was given.
func TestIssue(t *testing.T) {
	for _, r := range []api.Ring{ringOf(1, 1, 1), ringOf(1, 1<<20, 1), ringOf(2, 127, 2), ringOf(16, 1, 16), ringOf(16, 1<<20-15, 16), ringOf(16, 250, 3)} {
		latest := r.Keys[len(r.Keys)-1].Epoch
		for _, x := range tokens() {
			want := issued(with(x, 5, latest))
			for _, epoch := range []int{0, 1, latest - 1, latest, latest + 1, 1 << 20, 1<<20 + 1, -1, math.MinInt, math.MaxInt} {
				issues(t, r, with(x, 5, epoch), want)
			}
		}
	}
}

// P10.1: a token that is none, a ring that is not valid, or both, whatever Epoch was given.
func TestIssueOfNone(t *testing.T) {
	for _, epoch := range []int{0, 1, 3, 7, 1 << 20, 1<<20 + 1, -1, math.MinInt, math.MaxInt} {
		for _, x := range noTokens() {
			cannot(t, ringOf(4, 5, 3), with(x, 5, epoch))
			cannot(t, ringOf(1, 1, 1), with(x, 5, epoch))
		}
		for _, r := range noRings() {
			cannot(t, r, with(middle(), 5, epoch))
			for _, x := range noTokens() {
				cannot(t, r, with(x, 5, epoch))
			}
		}
	}
}

// tags is tags of several kinds, which no key gives.
func tags() [][]byte {
	return [][]byte{make([]byte, 32), bytes.Repeat([]byte{0xff}, 32), noise(1, 32), noise(2, 32)}
}

// P10.2: the token and the tag of bytes, whatever the tag is.
func TestOpen(t *testing.T) {
	for _, x := range tokens() {
		for _, tag := range append(tags(), tagOf(keyOf(x.Epoch), x)) {
			opens(t, bytesOf(x, tag), x, tag)
		}
	}
	wide := of([6]int{300, 7, 12, 0, 1 << 40, 3})
	for at, b := range bounds() {
		for _, n := range []int{b.least, b.most} {
			opens(t, bytesOf(with(wide, at, n), noise(3, 32)), with(wide, at, n), noise(3, 32))
		}
	}
}

// P10.2: the errors of layer 4 for what is no whole frame of the kind.
func TestOpenAsksLayer4(t *testing.T) {
	refuses(t, nil, api.ErrEnd)
	refuses(t, []byte{}, api.ErrEnd)
	for _, x := range []api.Token{middle(), tokens()[0], tokens()[4]} {
		b := issued(x)
		for n := range b {
			refuses(t, b[:n], api.ErrEnd)
		}
		for kind := range 256 {
			if kind != api.KindToken {
				refuses(t, framed(byte(kind), fieldsOf(x), counted(noise(4, 32))), api.ErrForm)
			}
		}
		for _, more := range [][]byte{{0}, {0xc7}, b, noise(5, 100)} {
			refuses(t, slices.Concat(b, more), api.ErrExtra)
		}
		for at := len(b) - 4; at < len(b); at++ {
			other := slices.Clone(b)
			other[at] ^= 1
			refuses(t, other, api.ErrSum)
		}
		refuses(t, append([]byte{0xc6}, b[1:]...), api.ErrForm)
		refuses(t, b[1:], api.ErrForm)
	}
	refuses(t, []byte{0xc7, 2, 0x80, 0}, api.ErrForm)
	refuses(t, slices.Concat([]byte{0xc7, 2}, plain(1<<20+1)), api.ErrLimit)
	refuses(t, framed(2, make([]byte, 1<<20+1)), api.ErrLimit)
}

// P10.2: which of several errors of layer 4 is the first, and that all of them come ahead of those of the content.
func TestOpenAsksLayer4First(t *testing.T) {
	content := slices.Concat(fieldsOf(middle()), counted(noise(6, 32)))
	refuses(t, append(framed(3, content), 0), api.ErrForm)
	refuses(t, append(framed(2, content[:5]), 0), api.ErrExtra)
	refuses(t, framed(3, content[:5]), api.ErrForm)
	refuses(t, framed(3, append(slices.Clone(content), 0)), api.ErrForm)
	none := bytesOf(with(middle(), 0, 0), noise(6, 32))
	refuses(t, append(slices.Clone(none), 0), api.ErrExtra)
	refuses(t, none[:len(none)-1], api.ErrEnd)
	none[len(none)-1] ^= 0x80
	refuses(t, none, api.ErrSum)
}

// contentOf is a content of numbers that are written as they are, and of a tag.
func contentOf(numbers [6]uint64, tag []byte) []byte {
	var out []byte
	for _, n := range numbers {
		out = append(out, plain(n)...)
	}
	return append(out, counted(tag)...)
}

// P10.2: each number above its bound, up to the greatest one that bytes can have.
func TestOpenBeyondEachBound(t *testing.T) {
	good := [6]uint64{300, 7, 12, 0, 1 << 40, 3}
	for at, b := range bounds() {
		most := uint64(b.most)
		for _, n := range []uint64{most + 1, most + 2, 2*most + 1, 1 << 41, 1<<48 + 1, 1 << 62, 1<<62 + 1, math.MaxInt, math.MaxInt + 1, math.MaxUint64} {
			numbers := good
			numbers[at] = n
			refuses(t, framed(2, contentOf(numbers, noise(7, 32))), api.ErrLimit)
			// Nothing behind the number is read any more.
			refuses(t, framed(2, contentOf(numbers, noise(7, 31))), api.ErrLimit)
			refuses(t, framed(2, contentOf(numbers, noise(7, 32)), []byte{0}), api.ErrLimit)
		}
	}
}

// ends is where each field of a content ends.
func ends(numbers [6]uint64) []int {
	out := []int{0}
	for at, n := range numbers {
		out = append(out, out[at]+len(plain(n)))
	}
	return out
}

// P10.2: of several errors of layer 3 the first one in the order of the fields.
func TestOpenAsksLayer3InOrder(t *testing.T) {
	good := [6]uint64{300, 7, 12, 1000, 5000, 3}
	content, starts := contentOf(good, noise(8, 32)), ends(good)
	malformed := []byte{0x80, 0}
	for at, from := range starts {
		refuses(t, framed(2, content[:from], malformed), api.ErrForm)
		refuses(t, framed(2, content[:from], malformed, content), api.ErrForm)
		refuses(t, framed(2, content[:from], bytes.Repeat([]byte{0x80}, 9)), api.ErrEnd)
		refuses(t, framed(2, content[:from], bytes.Repeat([]byte{0xff}, 9), []byte{2}, content), api.ErrForm)
		refuses(t, framed(2, content[:from], plain(1<<41)), api.ErrLimit)
		refuses(t, framed(2, content[:from], plain(1<<41), malformed), api.ErrLimit)
		refuses(t, framed(2, content[:from]), api.ErrEnd)
		if at > 0 {
			above := slices.Concat(plain(1<<31+1), content[starts[1]:from])
			refuses(t, framed(2, above, malformed), api.ErrLimit)
			refuses(t, framed(2, above), api.ErrLimit)
			// A number below its bound is no error of layer 3: those behind it come first.
			none := slices.Concat([]byte{0}, content[starts[1]:from])
			refuses(t, framed(2, none, malformed), api.ErrForm)
			refuses(t, framed(2, none, plain(1<<41)), api.ErrLimit)
			refuses(t, framed(2, none), api.ErrEnd)
		}
	}
}

// P10.2: fields that end too early, wherever that is.
func TestOpenOfFieldsThatEnd(t *testing.T) {
	for _, x := range tokens() {
		content := slices.Concat(fieldsOf(x), counted(noise(9, 32)))
		for n := range content {
			refuses(t, framed(2, content[:n]), api.ErrEnd)
		}
	}
}

// P10.2: bytes that remain in the content, ahead of what else is wrong with the token and the tag.
func TestOpenOfBytesThatRemain(t *testing.T) {
	for _, more := range [][]byte{{0}, {1}, {0x80}, noise(10, 32), noise(10, 1000)} {
		for _, x := range append(tokens(), with(middle(), 0, 0), with(middle(), 5, 0), with(middle(), 3, 5001)) {
			for _, length := range []int{32, 31, 0} {
				refuses(t, framed(2, fieldsOf(x), counted(noise(11, length)), more), api.ErrExtra)
			}
		}
	}
}

// P10.2: tags of other lengths than 32 bytes.
func TestOpenOfOtherTags(t *testing.T) {
	for _, x := range tokens() {
		for length := range 32 {
			refuses(t, bytesOf(x, noise(12, length)), api.ErrArg)
		}
		tag := tagOf(keyOf(x.Epoch), x)
		refuses(t, bytesOf(x, tag[:31]), api.ErrArg)
		for _, length := range []int{33, 34, 64, 127, 128, 1000} {
			refuses(t, bytesOf(x, noise(12, length)), api.ErrLimit)
			refuses(t, bytesOf(x, append(slices.Clone(tag), make([]byte, length-32)...)), api.ErrLimit)
		}
		// The length is asked ahead of the bytes, of which there may be fewer.
		refuses(t, framed(2, fieldsOf(x), []byte{33}, tag), api.ErrLimit)
		refuses(t, framed(2, fieldsOf(x), []byte{33}), api.ErrLimit)
		refuses(t, framed(2, fieldsOf(x), []byte{32}, tag[:31]), api.ErrEnd)
		refuses(t, framed(2, fieldsOf(x), []byte{31}, tag), api.ErrExtra)
	}
}

// P10.2: fields and tags of layer 3 that are no token.
func TestOpenOfNone(t *testing.T) {
	for _, tag := range append(tags(), noise(13, 31), nil) {
		for _, numbers := range [][6]int{
			{0, 7, 12, 1000, 5000, 3},
			{300, 0, 12, 1000, 5000, 3},
			{300, 7, 12, 1000, 5000, 0},
			{300, 7, 12, 5001, 5000, 3},
			{300, 7, 12, 1, 0, 3},
			{300, 7, 12, 1 << 40, 1<<40 - 1, 3},
			{300, 7, 12, 1 << 40, 0, 3},
			{0, 0, 0, 0, 0, 0},
			{0, 7, 12, 5001, 5000, 0},
		} {
			refuses(t, bytesOf(of(numbers), tag), api.ErrArg)
			refuses(t, issued(of(numbers)), api.ErrArg)
		}
	}
}

// number is the number that bytes begin with, up to most, as the document says it.
func number(b []byte, most uint64) (uint64, int, api.Errno) {
	n, size := binary.Uvarint(b)
	switch {
	case size == 0 && len(b) < 10:
		return 0, 0, api.ErrEnd
	case size <= 0 || size > 1 && b[size-1] == 0:
		return 0, 0, api.ErrForm
	case n > most:
		return 0, 0, api.ErrLimit
	}
	return n, size, api.OK
}

// whole is the content of bytes that are a frame of tokens' kind, as the document says it.
func whole(b []byte) ([]byte, api.Errno) {
	switch {
	case len(b) == 0:
		return nil, api.ErrEnd
	case b[0] != 0xc7:
		return nil, api.ErrForm
	case len(b) == 1:
		return nil, api.ErrEnd
	}
	n, size, e := number(b[2:], 1<<20)
	if e != api.OK {
		return nil, e
	}
	end := 2 + size + int(n)
	switch {
	case len(b) < end+4:
		return nil, api.ErrEnd
	case !bytes.Equal(summed(b[:end]), b[:end+4]):
		return nil, api.ErrSum
	case b[1] != 2:
		return nil, api.ErrForm
	case len(b) > end+4:
		return nil, api.ErrExtra
	}
	return b[2+size : end], api.OK
}

// opened is what Open has to return, as the document says it, without the layers below.
func opened(b []byte) (api.Token, []byte, api.Errno) {
	var none, x api.Token
	content, e := whole(b)
	if e != api.OK {
		return none, nil, e
	}
	for at, bound := range bounds() {
		n, size, e := number(content, uint64(bound.most))
		if e != api.OK {
			return none, nil, e
		}
		x = with(x, at, int(n))
		content = content[size:]
	}
	n, size, e := number(content, 32)
	switch {
	case e != api.OK:
		return none, nil, e
	case len(content) < size+int(n):
		return none, nil, api.ErrEnd
	case len(content) > size+int(n):
		return none, nil, api.ErrExtra
	case !may(x) || n != 32:
		return none, nil, api.ErrArg
	}
	return x, content[size:], api.OK
}

// verified is what Verify has to return, as the document says it.
func verified(r api.Ring, b []byte, now int) (api.Token, api.Errno) {
	x, tag, e := opened(b)
	if e != api.OK {
		return api.Token{}, e
	}
	at := slices.IndexFunc(r.Keys, func(k api.Key) bool { return k.Epoch == x.Epoch })
	switch {
	case at < 0:
		return api.Token{}, api.ErrKey
	case !bytes.Equal(tag, tagOf(r.Keys[at].Bytes, x)):
		return api.Token{}, api.ErrTag
	case now < x.Issued || now > x.Until:
		return api.Token{}, api.ErrTime
	}
	return x, api.OK
}

// same asks that Open and Verify agree with their models, under a ring at a time.
func same(t *testing.T, r api.Ring, b []byte, now int) {
	t.Helper()
	x, tag, e := token.Open(b)
	if want, wantTag, wantError := opened(b); x != want || !bytes.Equal(tag, wantTag) || e != wantError {
		t.Errorf("Open of % x = %v, % x, error %d, want %v, % x, error %d", b, x, tag, e, want, wantTag, wantError)
	}
	x, e = token.Verify(r, b, now)
	if want, wantError := verified(r, b, now); x != want || e != wantError {
		t.Errorf("Verify of % x at %d = %v, error %d, want %v, error %d", b, now, x, e, want, wantError)
	}
}

// P10.2, P10.3: bytes and contents with one byte that is another one; none of them is verified.
func TestOfOtherBytes(t *testing.T) {
	r := ringOf(16, 1, 16)
	for _, x := range []api.Token{middle(), of([6]int{1, 1, 0, 0, 0, 1}), of([6]int{1 << 31, 1 << 31, 4095, 1<<40 - 1, 1 << 40, 16})} {
		b := issued(x)
		content := slices.Concat(fieldsOf(x), counted(tagOf(keyOf(x.Epoch), x)))
		for c := range 256 {
			for at := range b {
				other := slices.Clone(b)
				other[at] = byte(c)
				same(t, r, other, x.Until)
			}
			for at := range content {
				other := slices.Clone(content)
				other[at] = byte(c)
				same(t, r, framed(2, other), x.Until)
				if _, e := token.Verify(r, framed(2, other), x.Until); e == api.OK && !bytes.Equal(other, content) {
					t.Errorf("% x was verified, though % x was issued", other, content)
				}
			}
		}
	}
}

// P10.2, P10.3: a token that was issued is verified from Issued to Until, and not one before and one behind that.
func TestVerify(t *testing.T) {
	for _, x := range tokens() {
		for _, keep := range []int{1, 2, 3, 16} {
			r := ringOf(keep, max(x.Epoch-keep+1, 1), min(keep, x.Epoch))
			b, e := token.Issue(r, with(x, 5, 77))
			if e != api.OK {
				t.Fatalf("Issue of %v: error %d", x, e)
			}
			for _, now := range []int{x.Issued, min(x.Issued+1, x.Until), (x.Issued + x.Until) / 2, max(x.Until-1, x.Issued), x.Until} {
				verifies(t, r, b, now, x)
			}
			for _, now := range []int{x.Issued - 1, x.Issued - 2, x.Until + 1, x.Until + 2, -1, 1<<40 + 1, math.MinInt, math.MaxInt} {
				fails(t, r, b, now, api.ErrTime)
			}
		}
	}
}

// P10.2: a ring without the key of the token's epoch, which has those of the epochs beside it.
func TestVerifyWithoutKey(t *testing.T) {
	for _, epoch := range []int{1, 2, 3, 100, 256, 1<<20 - 1, 1 << 20} {
		x := with(middle(), 5, epoch)
		b := issued(x)
		gap := ringOf(16, epoch-3, 7)
		gap.Keys = slices.Delete(gap.Keys, 3, 4)
		for _, r := range []api.Ring{{}, {Keep: 3}, ringOf(16, epoch+1, 16), ringOf(16, epoch-16, 16), gap, ringOf(1, epoch+1, 1), ringOf(1, epoch-1, 1), ringOf(2, epoch+1<<32, 2)} {
			fails(t, r, b, 2000, api.ErrKey)
		}
		verifies(t, ringOf(1, epoch, 1), b, 2000, x)
	}
}

// P10.2: tags that are different in one byte, also the first and the last one, or in all of them.
func TestVerifyOfOtherTags(t *testing.T) {
	r := ringOf(16, 1, 16)
	for _, x := range tokens() {
		x.Epoch = x.Epoch%16 + 1
		good := tagOf(keyOf(x.Epoch), x)
		verifies(t, r, bytesOf(x, good), x.Issued, x)
		for at := range 8 * len(good) {
			other := slices.Clone(good)
			other[at/8] ^= 1 << (at % 8)
			fails(t, r, bytesOf(x, other), x.Issued, api.ErrTag)
		}
		reversed := slices.Clone(good)
		slices.Reverse(reversed)
		for _, other := range append(tags(), reversed, tagOf(keyOf(x.Epoch%16+1), x), tagOf(nil, x)) {
			fails(t, r, bytesOf(x, other), x.Issued, api.ErrTag)
		}
	}
}

// P10.3: the tag is that of all fields: with another one of the six numbers it is not verified.
func TestVerifyOfOtherFields(t *testing.T) {
	r := ringOf(16, 1, 16)
	x := middle()
	tag := tagOf(keyOf(x.Epoch), x)
	for at := range 6 {
		for _, change := range []int{1, -1, 2, -2, 4, 8} {
			other := with(x, at, *spot(&x, at)+change)
			if may(other) {
				fails(t, r, bytesOf(other, tag), 2000, api.ErrTag)
			}
		}
		for second := range at {
			other := with(with(x, at, *spot(&x, second)), second, *spot(&x, at))
			if may(other) && other.Epoch <= 16 {
				fails(t, r, bytesOf(other, tag), max(other.Issued, 2000), api.ErrTag)
			}
		}
	}
}

// P10.3: tags of other texts under the right key: another name, none, and fields with more or fewer of them.
func TestVerifyOfTagsOfOtherTexts(t *testing.T) {
	x := middle()
	fields, key := fieldsOf(x), keyOf(x.Epoch)
	for _, text := range [][]byte{
		nil, fields,
		slices.Concat([]byte("token"), fields),
		slices.Concat([]byte("device\x00"), fields),
		slices.Concat([]byte("Token\x00"), fields),
		slices.Concat([]byte("\x00token"), fields),
		slices.Concat([]byte("token\x00\x00"), fields),
		slices.Concat([]byte("token\x00"), fields, []byte{0}),
		slices.Concat([]byte("token\x00"), fields[:len(fields)-1]),
		slices.Concat([]byte("token\x00"), counted(fields)),
	} {
		h := stdhmac.New(sha256.New, key)
		h.Write(text)
		fails(t, ringOf(16, 1, 16), bytesOf(x, h.Sum(nil)), 2000, api.ErrTag)
	}
}

// P10.2: which of several errors is the first: that of Open, of the key, of the tag, of the time.
func TestVerifyInOrder(t *testing.T) {
	there, gone := ringOf(3, 2, 3), ringOf(3, 4, 3)
	x := middle()
	good, bad := issued(x), bytesOf(x, noise(14, 32))
	late := []int{999, 5001, -1, math.MinInt, math.MaxInt}
	for _, now := range late {
		fails(t, gone, bad, now, api.ErrKey)
		fails(t, gone, good, now, api.ErrKey)
		fails(t, there, bad, now, api.ErrTag)
		fails(t, there, good, now, api.ErrTime)
	}
	fails(t, gone, bad, 2000, api.ErrKey)
	fails(t, gone, good, 2000, api.ErrKey)
	fails(t, there, bad, 2000, api.ErrTag)
	verifies(t, there, good, 2000, x)
	for _, now := range append(late, 2000) {
		for _, r := range []api.Ring{there, gone, {}} {
			fails(t, r, append(slices.Clone(bad), 0), now, api.ErrExtra)
			fails(t, r, bad[:len(bad)-1], now, api.ErrEnd)
			fails(t, r, bytesOf(with(x, 3, 5001), noise(14, 32)), now, api.ErrArg)
			fails(t, r, bytesOf(x, noise(14, 31)), now, api.ErrArg)
			fails(t, r, bytesOf(with(x, 2, 4096), noise(14, 32)), now, api.ErrLimit)
		}
	}
}

// P10.2: of a ring, Verify asks for the key of the epoch alone: the first one if there are several, of any length.
func TestVerifyUnderWrongRings(t *testing.T) {
	for _, r := range noRings() {
		for at, k := range r.Keys {
			x := with(middle(), 5, k.Epoch)
			if !may(x) {
				continue
			}
			b := bytesOf(x, tagOf(k.Bytes, x))
			same(t, r, b, 2000)
			first := slices.IndexFunc(r.Keys, func(other api.Key) bool { return other.Epoch == k.Epoch })
			if first == at {
				verifies(t, r, b, 2000, x)
			} else {
				fails(t, r, b, 2000, api.ErrTag)
			}
		}
	}
}

// P10.3: behind rotations a token is verified as long as its key is kept, and is not when that is gone.
func TestRotations(t *testing.T) {
	for keep := 1; keep <= api.MaxKeep; keep++ {
		r, e := ring.New(keep, noise(uint64(keep), 32))
		if e != api.OK {
			t.Fatalf("New(%d): error %d", keep, e)
		}
		var all [][]byte
		for epoch := 1; epoch <= 2*keep+2; epoch++ {
			b, e := token.Issue(r, with(middle(), 0, epoch))
			if e != api.OK {
				t.Fatalf("Issue in the epoch %d: error %d", epoch, e)
			}
			all = append(all, b)
			for i, b := range all {
				want := with(with(middle(), 0, i+1), 5, i+1)
				if epoch-(i+1) < keep {
					verifies(t, r, b, 2000, want)
					fails(t, r, b, 999, api.ErrTime)
				} else {
					fails(t, r, b, 2000, api.ErrKey)
					fails(t, r, b, 999, api.ErrKey)
				}
				opens(t, b, want, b[len(b)-36:len(b)-4])
			}
			r, e = ring.Rotate(r, noise(uint64(100*keep+epoch), 32))
			if e != api.OK {
				t.Fatalf("Rotate in the epoch %d: error %d", epoch, e)
			}
		}
	}
}

// P10.3: a token of a ring is not verified by a ring of other draws.
func TestOtherDraws(t *testing.T) {
	one := from(t, 3, noise(20, 32), noise(21, 32))
	b, _ := token.Issue(one, middle())
	verifies(t, one, b, 2000, with(middle(), 5, 2))
	fails(t, from(t, 3, noise(20, 32), noise(22, 32)), b, 2000, api.ErrTag)
	verifies(t, from(t, 3, noise(22, 32), noise(21, 32)), b, 2000, with(middle(), 5, 2))
	fails(t, from(t, 3, noise(21, 32)), b, 2000, api.ErrKey)
}

// No argument is changed: not the ring, not the bytes, and not what lies behind them in memory.
func TestArgumentsAreNotChanged(t *testing.T) {
	for _, x := range tokens() {
		memory := ringOf(3, x.Epoch-1, 6)
		for i := range memory.Keys {
			memory.Keys[i].Bytes = noise(uint64(i)+50, 100)[:32]
		}
		r := api.Ring{Keep: 3, Keys: memory.Keys[1:2]}
		before, rest := clone(memory), noise(50+1, 100)
		b, e := token.Issue(r, x)
		if e != api.OK {
			t.Fatalf("Issue of %v: error %d", x, e)
		}
		long := append(b, noise(60, 100)...)
		bytesBefore := slices.Clone(long)
		b = long[:len(b)]
		opens(t, b, x, tagOf(r.Keys[0].Bytes, x))
		verifies(t, r, b, x.Until, x)
		fails(t, r, b, x.Until+1, api.ErrTime)
		refuses(t, long, api.ErrExtra)
		if !bytes.Equal(long, bytesBefore) {
			t.Errorf("the bytes of %v, or what lies behind them, were changed", x)
		}
		if !sameRing(memory, before) || !bytes.Equal(r.Keys[0].Bytes[:100], rest) {
			t.Errorf("the ring of %v, or what lies behind it, was changed", x)
		}
	}
}

// spoil overwrites bytes, and what lies behind them in memory.
func spoil(b []byte) {
	b = b[:cap(b)]
	for i := range b {
		b[i] ^= 0xff
	}
}

// An answer is new memory, which shares none with an argument or with another answer.
func TestAnswersAreNewMemory(t *testing.T) {
	r, x := ringOf(3, 2, 2), middle()
	want := issued(x)
	first, _ := token.Issue(r, x)
	second, _ := token.Issue(r, x)
	spoil(first)
	if !bytes.Equal(second, want) || !sameRing(r, ringOf(3, 2, 2)) {
		t.Error("an answer of Issue is memory of another one, or of the ring")
	}
	issues(t, r, x, want)
	_, tag, _ := token.Open(second)
	_, other, _ := token.Open(second)
	spoil(tag)
	if !bytes.Equal(second, want) || !bytes.Equal(other, want[len(want)-36:len(want)-4]) {
		t.Error("a tag is memory of the bytes, or of another tag")
	}
	spoil(second)
	if !bytes.Equal(other, want[len(want)-36:len(want)-4]) {
		t.Error("a tag is memory of the bytes")
	}
	fields := token.Fields(x)
	spoil(fields)
	asks(t, x, true)
}

// fuzzed is a ring of up to 19 keys from a first epoch on, with another epoch and length at one place.
func fuzzed(keep, first int, count, at uint8, shift, length int) api.Ring {
	r := ringOf(keep, first, int(count)%20)
	if int(at) < len(r.Keys) {
		r.Keys[at].Epoch += shift
		r.Keys[at].Bytes = noise(9, 32+length%32)
	}
	return r
}

// right is whether a ring is valid, by the words of its chapter.
func right(r api.Ring) bool {
	ok := 1 <= r.Keep && r.Keep <= 16 && 1 <= len(r.Keys) && len(r.Keys) <= r.Keep
	for i, k := range r.Keys {
		ok = ok && len(k.Bytes) == 32 && 1 <= k.Epoch && k.Epoch <= 1<<20
		ok = ok && (i == 0 || k.Epoch == r.Keys[i-1].Epoch+1)
	}
	return ok
}

// P10.1 and P10.3 for rings and tokens of any kind.
func FuzzIssue(f *testing.F) {
	f.Add(2, 1, uint8(2), uint8(9), 0, 0, 300, 7, 12, 1000, 5000, 1)
	f.Add(16, 1<<20-15, uint8(16), uint8(20), 0, 0, 1<<31, 1<<31, 4095, 1<<40, 1<<40, -1)
	f.Add(16, 1<<20-14, uint8(16), uint8(20), 0, 0, 1, 1, 0, 0, 0, 1)
	f.Add(4, 5, uint8(3), uint8(1), 1, 0, 1, 1, 0, 0, 0, 1)
	f.Add(4, 5, uint8(3), uint8(2), 0, 1, 1, 1, 0, 0, 0, 1)
	f.Add(4, 5, uint8(3), uint8(9), 0, 0, 0, 1, 4096, 1, 0, 1)
	f.Fuzz(func(t *testing.T, keep, first int, count, at uint8, shift, length, trip, account, stop, from, until, epoch int) {
		r := fuzzed(keep, first, count, at, shift, length)
		before, x := clone(r), api.Token{Trip: trip, Account: account, Stop: stop, Issued: from, Until: until, Epoch: epoch}
		asks(t, x, may(x))
		if !right(r) || !may(with(x, 5, 1)) {
			cannot(t, r, x)
		} else {
			last := r.Keys[len(r.Keys)-1]
			x.Epoch = last.Epoch
			want := bytesOf(x, tagOf(last.Bytes, x))
			issues(t, r, with(x, 5, epoch), want)
			verifies(t, r, want, from, x)
			verifies(t, r, want, until, x)
			fails(t, r, want, from-1, api.ErrTime)
			fails(t, r, want, until+1, api.ErrTime)
		}
		if !sameRing(r, before) {
			t.Error("the ring was changed")
		}
	})
}

// P10.2 for bytes of any kind, as they are and within a right frame.
func FuzzOpen(f *testing.F) {
	for _, x := range append(tokens(), noTokens()...) {
		f.Add(issued(x), x.Until)
		f.Add(slices.Concat(fieldsOf(x), counted(noise(1, 32))), 2000)
		f.Add(slices.Concat(fieldsOf(x), counted(noise(1, 31))), 2000)
		f.Add(slices.Concat(fieldsOf(x), counted(noise(1, 33))), 2000)
	}
	f.Add([]byte{}, 0)
	f.Add(append(issued(middle()), 0), 2000)
	f.Fuzz(func(t *testing.T, b []byte, now int) {
		before, r := slices.Clone(b), ringOf(16, 1, 16)
		for _, c := range [][]byte{b, framed(2, b), framed(3, b), framed(2, b, counted(noise(2, 32)))} {
			same(t, r, c, now)
		}
		if !bytes.Equal(b, before) {
			t.Errorf("% x was changed to % x", before, b)
		}
	})
}

// P10.2 and P10.3 for numbers, keys, tags and times of any kind.
func FuzzVerify(f *testing.F) {
	f.Add(uint64(300), uint64(7), uint64(12), uint64(1000), uint64(5000), uint64(3), uint8(32), uint8(0), []byte("key"), 2000)
	f.Add(uint64(300), uint64(7), uint64(12), uint64(1000), uint64(5000), uint64(3), uint8(0), uint8(1), []byte{}, 1000)
	f.Add(uint64(1<<31), uint64(1<<31), uint64(4095), uint64(1<<40), uint64(1<<40), uint64(1<<20), uint8(31), uint8(128), noise(1, 65), 1<<40)
	f.Add(uint64(1<<31+1), uint64(0), uint64(4096), uint64(1<<40+1), uint64(1<<63), uint64(0), uint8(9), uint8(0), noise(1, 32), 0)
	f.Fuzz(func(t *testing.T, trip, account, stop, from, until, epoch uint64, at, change uint8, key []byte, now int) {
		numbers := [6]uint64{trip, account, stop, from, until, epoch}
		x := of([6]int{int(trip), int(account), int(stop), int(from), int(until), int(epoch)})
		tag := tagOf(key, x)
		tag[at%32] ^= change
		b := framed(2, contentOf(numbers, tag))
		r := api.Ring{Keep: 2, Keys: []api.Key{{Epoch: 3, Bytes: keyOf(3)}, {Epoch: int(epoch), Bytes: key}}}
		same(t, r, b, now)
		same(t, api.Ring{Keep: 2, Keys: r.Keys[1:]}, b, now)
		same(t, ringOf(4, 1, 4), b, now)
	})
}
