package varint_test

import (
	"bytes"
	"math"
	"slices"
	"testing"

	"viaticum/api"
	"viaticum/varint"
)

// coded is a number and its bytes, written out by hand.
type coded struct {
	n uint64
	b []byte
}

// full is count bytes of 0xff, followed by the rest.
func full(count int, rest ...byte) []byte {
	return append(bytes.Repeat([]byte{0xff}, count), rest...)
}

// empty is count bytes of 0x80, followed by the rest.
func empty(count int, rest ...byte) []byte {
	return append(bytes.Repeat([]byte{0x80}, count), rest...)
}

func codes() []coded {
	out := []coded{
		{0, []byte{0}},
		{1, []byte{1}},
		{2, []byte{2}},
		{100, []byte{100}},
		{127, []byte{0x7f}},
		{128, []byte{0x80, 0x01}},
		{129, []byte{0x81, 0x01}},
		{255, []byte{0xff, 0x01}},
		{256, []byte{0x80, 0x02}},
		{300, []byte{0xac, 0x02}},
		{16383, []byte{0xff, 0x7f}},
		{16384, []byte{0x80, 0x80, 0x01}},
		{624485, []byte{0xe5, 0x8e, 0x26}},
		{1<<63 - 1, full(8, 0x7f)},
		{1 << 63, empty(9, 0x01)},
		{1<<63 + 1, append([]byte{0x81}, empty(8, 0x01)...)},
		{math.MaxUint64 - 1, append([]byte{0xfe}, full(8, 0x01)...)},
		{math.MaxUint64, full(9, 0x01)},
	}
	for k := 1; k <= 9; k++ {
		out = append(out, coded{1<<(7*k) - 1, full(k-1, 0x7f)}, coded{1 << (7 * k), empty(k, 0x01)})
	}
	return out
}

// numbers is the edges of all lengths, and numbers spread over all of them.
func numbers() []uint64 {
	out := []uint64{0, 1, 2, math.MaxUint64 - 1, math.MaxUint64}
	for k := range 64 {
		p := uint64(1) << k
		out = append(out, p-1, p, p+1, math.MaxUint64-p)
	}
	x := uint64(88172645463325252)
	for range 20000 {
		x ^= x << 13
		x ^= x >> 7
		x ^= x << 17
		out = append(out, x>>(x%64), x)
	}
	return out
}

// P1.1: the bytes of a number.
func TestPutGivesTheBytes(t *testing.T) {
	for _, c := range codes() {
		if b := varint.Put(c.n); !bytes.Equal(b, c.b) {
			t.Errorf("Put(%d) = % x, want % x", c.n, b, c.b)
		}
	}
}

// P1.1: seven bits each, the least significant ones first, a mark on all but the last byte, and no byte too many.
func TestPutForm(t *testing.T) {
	for _, n := range numbers() {
		b := varint.Put(n)
		rest := n
		for i, c := range b {
			if uint64(c&0x7f) != rest&0x7f || (c >= 0x80) != (i < len(b)-1) {
				t.Fatalf("Put(%d) = % x: byte %d", n, b, i)
			}
			rest >>= 7
		}
		if rest != 0 || len(b) == 0 || len(b) > 1 && b[len(b)-1] == 0 {
			t.Fatalf("Put(%d) = % x: too few or too many bytes", n, b)
		}
	}
}

// Each answer is memory of its own.
func TestPutGivesNewMemory(t *testing.T) {
	one, two := varint.Put(300), varint.Put(300)
	one[0], one[1] = 7, 7
	if want := []byte{0xac, 0x02}; !bytes.Equal(two, want) || !bytes.Equal(varint.Put(300), want) {
		t.Error("Put gave out bytes that another answer has")
	}
}

// P1.1: the number that bytes begin with, and how many bytes it has.
func TestTakeGivesTheNumber(t *testing.T) {
	for _, c := range codes() {
		if n, k, e := varint.Take(c.b); n != c.n || k != len(c.b) || e != api.OK {
			t.Errorf("Take(% x) = %d, %d, %d, want %d, %d, OK", c.b, n, k, e, c.n, len(c.b))
		}
	}
}

// refused asks that bytes be refused by an error, with nothing beside it.
func refused(t *testing.T, b []byte, want api.Errno) {
	t.Helper()
	before := slices.Clone(b)
	if n, k, e := varint.Take(b); n != 0 || k != 0 || e != want {
		t.Errorf("Take(% x) = %d, %d, %d, want 0, 0, %d", b, n, k, e, want)
	}
	if !bytes.Equal(b, before) {
		t.Errorf("Take changed % x to % x", before, b)
	}
}

// P1.1: bytes that end before a last byte.
func TestTakeEnd(t *testing.T) {
	refused(t, nil, api.ErrEnd)
	refused(t, []byte{}, api.ErrEnd)
	for k := 1; k <= 9; k++ {
		refused(t, full(k), api.ErrEnd)
		refused(t, empty(k), api.ErrEnd)
	}
	for _, c := range codes() {
		for k := range len(c.b) {
			refused(t, c.b[:k], api.ErrEnd)
		}
	}
	// Bytes behind the end of the slice are not its own.
	refused(t, []byte{0x80, 0x01}[:1], api.ErrEnd)
	refused(t, []byte{0x01}[:0], api.ErrEnd)
}

// P1.1: a last byte that is 0, if it is not the first one.
func TestTakeLastByteZero(t *testing.T) {
	for k := 1; k <= 9; k++ {
		refused(t, full(k, 0), api.ErrForm)
		refused(t, empty(k, 0), api.ErrForm)
		refused(t, empty(k, 0, 1), api.ErrForm)
	}
	if n, k, e := varint.Take([]byte{0, 0x80}); n != 0 || k != 1 || e != api.OK {
		t.Errorf("Take(00 80) = %d, %d, %d, want 0, 1, OK", n, k, e)
	}
}

// P1.1: the tenth byte.
func TestTakeTenthByte(t *testing.T) {
	for c := range 256 {
		for _, rest := range [][]byte{{byte(c)}, {byte(c), 0}, {byte(c), 1}, {byte(c), 0xff}} {
			if c == 1 {
				b := full(9, rest...)
				if n, k, e := varint.Take(b); n != math.MaxUint64 || k != 10 || e != api.OK {
					t.Errorf("Take(% x) = %d, %d, %d, want the greatest number, 10, OK", b, n, k, e)
				}
				continue
			}
			refused(t, full(9, rest...), api.ErrForm)
			refused(t, empty(9, rest...), api.ErrForm)
		}
	}
	refused(t, full(10), api.ErrForm)
	refused(t, full(1000), api.ErrForm)
}

// P1.2: the codes of 0, -1, 1, -2, 2, .. are 0, 1, 2, 3, 4, ..
func TestTurnCountsFromZero(t *testing.T) {
	code := uint64(0)
	for n := range 5000 {
		for _, signed := range []int{n, -n - 1} {
			if c := varint.Turn(signed); c != code {
				t.Fatalf("Turn(%d) = %d, want %d", signed, c, code)
			}
			if m := varint.Back(code); m != signed {
				t.Fatalf("Back(%d) = %d, want %d", code, m, signed)
			}
			code++
		}
	}
}

// P1.2: the greatest and the least number.
func TestTurnEdges(t *testing.T) {
	for _, c := range []struct {
		n    int
		code uint64
	}{
		{math.MinInt, math.MaxUint64},
		{math.MaxInt, math.MaxUint64 - 1},
		{math.MinInt + 1, math.MaxUint64 - 2},
		{math.MaxInt - 1, math.MaxUint64 - 3},
		{1 << 62, 1 << 63},
		{-1 << 62, 1<<63 - 1},
		{-2, 3},
	} {
		if code := varint.Turn(c.n); code != c.code {
			t.Errorf("Turn(%d) = %d, want %d", c.n, code, c.code)
		}
		if n := varint.Back(c.code); n != c.n {
			t.Errorf("Back(%d) = %d, want %d", c.code, n, c.n)
		}
	}
}

// P1.2: Back inverts Turn, and Turn inverts Back.
func TestBackInvertsTurn(t *testing.T) {
	for _, code := range numbers() {
		n := int(code)
		if m := varint.Back(varint.Turn(n)); m != n {
			t.Fatalf("Back(Turn(%d)) = %d", n, m)
		}
		if c := varint.Turn(varint.Back(code)); c != code {
			t.Fatalf("Turn(Back(%d)) = %d", code, c)
		}
	}
}

// P1.3: Take inverts Put, whatever follows the bytes.
func TestTakeInvertsPut(t *testing.T) {
	tails := [][]byte{nil, {0}, {1}, {0x7f}, {0x80}, {0xff}, full(20), empty(20, 0), bytes.Repeat([]byte{0}, 20)}
	for _, n := range numbers() {
		b := varint.Put(n)
		for _, tail := range tails {
			all := slices.Concat(b, tail)
			if m, k, e := varint.Take(all); m != n || k != len(b) || e != api.OK {
				t.Fatalf("Take(% x) = %d, %d, %d, want %d, %d, OK", all, m, k, e, n, len(b))
			}
		}
	}
}

// invert asks that the bytes that Take takes be those that Put puts.
func invert(t *testing.T, b []byte) {
	t.Helper()
	n, k, e := varint.Take(b)
	if e != api.OK {
		refused(t, b, e)
		return
	}
	if k < 1 || k > len(b) || !bytes.Equal(varint.Put(n), b[:k]) {
		t.Fatalf("Take(% x) = %d, %d, but Put(%d) = % x", b, n, k, n, varint.Put(n))
	}
}

// P1.3: Put inverts Take, for all beginnings of two bytes, also at the end of the ten.
func TestPutInvertsTake(t *testing.T) {
	for one := range 256 {
		invert(t, []byte{byte(one)})
		for two := range 256 {
			pair := []byte{byte(one), byte(two)}
			invert(t, pair)
			invert(t, append(slices.Clone(pair), 0x80, 0x01))
			for k := 1; k <= 9; k++ {
				invert(t, empty(k, pair...))
				invert(t, full(k, pair...))
			}
		}
	}
}

// P1.1 and P1.3 for bytes of any kind.
func FuzzTake(f *testing.F) {
	for _, c := range codes() {
		f.Add(c.b)
		f.Add(c.b[:len(c.b)-1])
		f.Add(append(slices.Clone(c.b[:len(c.b)-1]), 0x80, 0))
	}
	f.Fuzz(func(t *testing.T, b []byte) {
		_, _, e := varint.Take(b)
		if want := expected(b); e != want {
			t.Fatalf("Take(% x): error %d, want %d", b, e, want)
		}
		invert(t, b)
	})
}

// expected is the error that the document asks for, found by looking for the last byte first.
func expected(b []byte) api.Errno {
	ten := b[:min(len(b), 10)]
	end := slices.IndexFunc(ten, func(c byte) bool { return c < 0x80 })
	switch {
	case end < 0 && len(ten) < 10:
		return api.ErrEnd
	case end < 0, end > 0 && ten[end] == 0, end == 9 && ten[end] > 1:
		return api.ErrForm
	}
	return api.OK
}
