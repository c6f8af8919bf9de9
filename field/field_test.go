package field_test

import (
	"bytes"
	"math"
	"math/big"
	"slices"
	"testing"

	"viaticum/api"
	"viaticum/field"
)

const top = 1 << 62 // the greatest number that is read

// full is count bytes of 0xff, followed by the rest.
func full(count int, rest ...byte) []byte {
	return append(bytes.Repeat([]byte{0xff}, count), rest...)
}

// empty is count bytes of 0x80, followed by the rest.
func empty(count int, rest ...byte) []byte {
	return append(bytes.Repeat([]byte{0x80}, count), rest...)
}

// written is the bytes of a writer that did something.
func written(do func(w *field.Writer)) []byte {
	w := &field.Writer{}
	do(w)
	return w.Out()
}

// number is a number and its bytes, written out by hand.
type number struct {
	n int
	b []byte
}

// numbers is numbers that a reader may read, if it allows them.
func numbers() []number {
	return []number{
		{0, []byte{0}},
		{1, []byte{1}},
		{2, []byte{2}},
		{127, []byte{0x7f}},
		{128, []byte{0x80, 0x01}},
		{300, []byte{0xac, 0x02}},
		{16383, []byte{0xff, 0x7f}},
		{16384, []byte{0x80, 0x80, 0x01}},
		{1 << 31, empty(4, 0x08)},
		{1<<56 - 1, full(7, 0x7f)},
		{1 << 56, empty(8, 0x01)},
		{top - 1, full(8, 0x3f)},
		{top, empty(8, 0x40)},
	}
}

// signed is signed numbers that a reader may read, if it allows them.
func signed() []number {
	return []number{
		{0, []byte{0}},
		{-1, []byte{1}},
		{1, []byte{2}},
		{-2, []byte{3}},
		{2, []byte{4}},
		{-5, []byte{9}},
		{63, []byte{0x7e}},
		{-64, []byte{0x7f}},
		{64, []byte{0x80, 0x01}},
		{-65, []byte{0x81, 0x01}},
		{150, []byte{0xac, 0x02}},
		{top - 1, append([]byte{0xfe}, full(7, 0x7f)...)},
		{1 - top, append([]byte{0xfd}, full(7, 0x7f)...)},
		{-top, full(8, 0x7f)},
		{top, empty(9, 0x01)},
	}
}

// P3.1: the bytes of numbers, and 0 for negative ones.
func TestWriterNumber(t *testing.T) {
	for _, c := range append(numbers(), []number{
		{top + 1, append([]byte{0x81}, empty(7, 0x40)...)},
		{math.MaxInt - 1, append([]byte{0xfe}, full(7, 0x7f)...)},
		{math.MaxInt, full(8, 0x7f)},
		{-1, []byte{0}},
		{-2, []byte{0}},
		{-300, []byte{0}},
		{-top, []byte{0}},
		{math.MinInt + 1, []byte{0}},
		{math.MinInt, []byte{0}},
	}...) {
		if b := written(func(w *field.Writer) { w.Number(c.n) }); !bytes.Equal(b, c.b) {
			t.Errorf("Number(%d) = % x, want % x", c.n, b, c.b)
		}
	}
}

// P3.1: the bytes of signed numbers are those of their codes.
func TestWriterSigned(t *testing.T) {
	for _, c := range append(signed(), []number{
		{-top - 1, append([]byte{0x81}, empty(8, 0x01)...)},
		{top + 1, append([]byte{0x82}, empty(8, 0x01)...)},
		{math.MaxInt, append([]byte{0xfe}, full(8, 0x01)...)},
		{math.MinInt + 1, append([]byte{0xfd}, full(8, 0x01)...)},
		{math.MinInt, full(9, 0x01)},
	}...) {
		if b := written(func(w *field.Writer) { w.Signed(c.n) }); !bytes.Equal(b, c.b) {
			t.Errorf("Signed(%d) = % x, want % x", c.n, b, c.b)
		}
	}
}

// P3.1: a byte is itself, whatever its value.
func TestWriterByte(t *testing.T) {
	for c := range 256 {
		if b := written(func(w *field.Writer) { w.Byte(byte(c)) }); !bytes.Equal(b, []byte{byte(c)}) {
			t.Errorf("Byte(%02x) = % x", c, b)
		}
	}
}

// P3.1: bytes stand behind their number.
func TestWriterBytes(t *testing.T) {
	for _, c := range []struct{ in, out []byte }{
		{nil, []byte{0}},
		{[]byte{}, []byte{0}},
		{[]byte{0}, []byte{1, 0}},
		{[]byte{0x80}, []byte{1, 0x80}},
		{[]byte("abc"), []byte("\x03abc")},
		{full(127), append([]byte{127}, full(127)...)},
		{full(128), append([]byte{0x80, 0x01}, full(128)...)},
		{empty(300), append([]byte{0xac, 0x02}, empty(300)...)},
		{empty(16384), append([]byte{0x80, 0x80, 0x01}, empty(16384)...)},
	} {
		before := slices.Clone(c.in)
		if b := written(func(w *field.Writer) { w.Bytes(c.in) }); !bytes.Equal(b, c.out) {
			t.Errorf("Bytes of %d bytes = % x, want % x", len(c.in), b, c.out)
		}
		if !bytes.Equal(c.in, before) {
			t.Errorf("Bytes changed its %d bytes", len(before))
		}
	}
}

// P3.1: each field stands behind those so far, and Out tells all of them, at any time.
func TestWriterAddsBehind(t *testing.T) {
	var w field.Writer
	var want []byte
	for _, step := range []struct {
		do func()
		b  []byte
	}{
		{func() {}, nil},
		{func() { w.Number(300) }, []byte{0xac, 0x02}},
		{func() { w.Signed(-2) }, []byte{3}},
		{func() { w.Byte(7) }, []byte{7}},
		{func() { w.Bytes([]byte("abc")) }, []byte("\x03abc")},
		{func() { w.Bytes(nil) }, []byte{0}},
		{func() { w.Number(-9) }, []byte{0}},
		{func() { w.Byte(0) }, []byte{0}},
		{func() { w.Signed(math.MinInt) }, full(9, 1)},
		{func() { w.Bytes(w.Out()) }, []byte("\x15\xac\x02\x03\x07\x03abc\x00\x00\x00\xff\xff\xff\xff\xff\xff\xff\xff\xff\x01")},
	} {
		step.do()
		want = append(want, step.b...)
		for range 2 {
			if b := w.Out(); !bytes.Equal(b, want) {
				t.Fatalf("Out = % x, want % x", b, want)
			}
		}
	}
}

// P3.1: nothing is returned by a nil Writer, whatever it was told, and by one that was told nothing.
func TestWriterNil(t *testing.T) {
	var w *field.Writer
	for range 2 {
		w.Number(1)
		w.Number(-1)
		w.Signed(-1)
		w.Byte(1)
		w.Bytes([]byte("abc"))
		w.Bytes(nil)
		if b := w.Out(); len(b) != 0 {
			t.Errorf("Out of nil = % x", b)
		}
	}
	if b := new(field.Writer).Out(); len(b) != 0 {
		t.Errorf("Out of nothing = % x", b)
	}
}

// Two writers know nothing of each other.
func TestWritersApart(t *testing.T) {
	var one, two field.Writer
	one.Byte(1)
	two.Byte(2)
	one.Byte(3)
	if b, c := one.Out(), two.Out(); !bytes.Equal(b, []byte{1, 3}) || !bytes.Equal(c, []byte{2}) {
		t.Errorf("Out = % x and % x", b, c)
	}
}

// A writer's bytes are its own: not those that it was handed, and not those that it handed out.
func TestWriterMemory(t *testing.T) {
	in := []byte("abc")
	var w field.Writer
	w.Bytes(in)
	clear(in)
	first := w.Out()
	second := w.Out()
	clear(first)
	_ = append(second[:2], "xyz"...)
	if b := w.Out(); string(b) != "\x03abc" {
		t.Errorf("Out = % x after the bytes of others changed", b)
	}
	early := w.Out()
	_ = append(early, 1, 2, 3)
	w.Byte(9)
	_ = append(early, 4, 5, 6)
	if b := w.Out(); string(b) != "\x03abc\x09" || string(early) != "\x03abc" {
		t.Errorf("Out = % x, and earlier % x", b, early)
	}
}

// errors asks what a reader says of itself.
func errors(t *testing.T, r *field.Reader, first, done api.Errno) {
	t.Helper()
	for range 2 {
		if e := r.Error(); e != first {
			t.Errorf("Error = %d, want %d", e, first)
		}
		if e := r.Done(); e != done {
			t.Errorf("Done = %d, want %d", e, done)
		}
	}
}

// silent asks that a reader read zero values alone, and keep its error.
func silent(t *testing.T, r *field.Reader, want api.Errno) {
	t.Helper()
	errors(t, r, want, want)
	for range 2 {
		if n := r.Number(math.MaxInt); n != 0 {
			t.Errorf("Number = %d behind the error %d", n, want)
		}
		if n := r.Signed(math.MaxInt); n != 0 {
			t.Errorf("Signed = %d behind the error %d", n, want)
		}
		if c := r.Byte(); c != 0 {
			t.Errorf("Byte = %d behind the error %d", c, want)
		}
		if b := r.Bytes(math.MaxInt); len(b) != 0 {
			t.Errorf("Bytes = % x behind the error %d", b, want)
		}
		if n := r.Number(-1); n != 0 {
			t.Errorf("Number(-1) = %d behind the error %d", n, want)
		}
	}
	errors(t, r, want, want)
}

// tail follows what is refused: each of its bytes would be a field that is not zero.
func tail(b []byte) []byte {
	return slices.Concat(b, bytes.Repeat([]byte{1}, 40))
}

// refusedNumber asks that a number be refused by an error.
func refusedNumber(t *testing.T, b []byte, most int, want api.Errno) {
	t.Helper()
	r := field.Read(b)
	if n := r.Number(most); n != 0 || r.Error() != want {
		t.Errorf("Number(%d) of % x = %d with the error %d, want the error %d", most, b, n, r.Error(), want)
	}
	silent(t, r, want)
}

// refusedSigned asks that a signed number be refused by an error.
func refusedSigned(t *testing.T, b []byte, most int, want api.Errno) {
	t.Helper()
	r := field.Read(b)
	if n := r.Signed(most); n != 0 || r.Error() != want {
		t.Errorf("Signed(%d) of % x = %d with the error %d, want the error %d", most, b, n, r.Error(), want)
	}
	silent(t, r, want)
}

// refusedBytes asks that bytes be refused by an error.
func refusedBytes(t *testing.T, b []byte, most int, want api.Errno) {
	t.Helper()
	r := field.Read(b)
	if got := r.Bytes(most); len(got) != 0 || r.Error() != want {
		t.Errorf("Bytes(%d) of % x = % x with the error %d, want the error %d", most, b, got, r.Error(), want)
	}
	silent(t, r, want)
}

// P3.2: numbers up to most, and no greater ones.
func TestReaderNumber(t *testing.T) {
	for _, c := range numbers() {
		for _, most := range []int{c.n, c.n + 1, top, top + 1, math.MaxInt} {
			if r := field.Read(c.b); r.Number(most) != c.n || r.Done() != api.OK {
				t.Errorf("Number(%d) of % x: error %d, want %d", most, c.b, r.Done(), c.n)
			}
			r := field.Read(tail(c.b))
			if n := r.Number(most); n != c.n {
				t.Errorf("Number(%d) of % x and more = %d, want %d", most, c.b, n, c.n)
			}
			errors(t, r, api.OK, api.ErrExtra)
		}
		for _, most := range []int{c.n - 1, -1, -c.n - 1, -top, math.MinInt + 1, math.MinInt} {
			refusedNumber(t, c.b, most, api.ErrLimit)
			refusedNumber(t, tail(c.b), most, api.ErrLimit)
		}
	}
}

// P3.2: numbers above 2^62, whatever most is.
func TestReaderNumberTooGreat(t *testing.T) {
	for _, b := range [][]byte{
		append([]byte{0x81}, empty(7, 0x40)...), // 2^62 + 1
		empty(8, 0x41),
		full(8, 0x7f),  // the greatest int
		empty(9, 0x01), // 2^63
		append([]byte{0x81}, empty(8, 0x01)...),
		full(9, 0x01), // the greatest number of 64 bits
	} {
		for _, most := range []int{math.MaxInt, top + 1, top, 0, -1, math.MinInt} {
			refusedNumber(t, b, most, api.ErrLimit)
			refusedNumber(t, tail(b), most, api.ErrLimit)
			refusedBytes(t, b, most, api.ErrLimit)
			refusedBytes(t, tail(b), most, api.ErrLimit)
		}
	}
}

// P3.2: what layer 1 refuses is refused with its error, before most is asked.
func TestReaderBytesOfNoNumber(t *testing.T) {
	for _, most := range []int{math.MaxInt, top, 1, 0, -1, math.MinInt} {
		for _, b := range [][]byte{nil, {}, {0x80}, {0xac}, full(1), empty(9), full(9)} {
			refusedNumber(t, b, most, api.ErrEnd)
			refusedSigned(t, b, most, api.ErrEnd)
			refusedBytes(t, b, most, api.ErrEnd)
		}
		for _, b := range [][]byte{{0x80, 0}, {0xff, 0}, empty(8, 0), empty(9, 0), empty(9, 2), full(9, 2), full(10), full(30)} {
			refusedNumber(t, b, most, api.ErrForm)
			refusedNumber(t, tail(b), most, api.ErrForm)
			refusedSigned(t, b, most, api.ErrForm)
			refusedSigned(t, tail(b), most, api.ErrForm)
			refusedBytes(t, b, most, api.ErrForm)
			refusedBytes(t, tail(b), most, api.ErrForm)
		}
	}
}

// P3.2: signed numbers whose absolute value is up to most.
func TestReaderSigned(t *testing.T) {
	for _, c := range signed() {
		size := max(c.n, -c.n)
		for _, most := range []int{size, size + 1, top, top + 1, math.MaxInt} {
			if r := field.Read(c.b); r.Signed(most) != c.n || r.Done() != api.OK {
				t.Errorf("Signed(%d) of % x: error %d, want %d", most, c.b, r.Done(), c.n)
			}
			r := field.Read(tail(c.b))
			if n := r.Signed(most); n != c.n {
				t.Errorf("Signed(%d) of % x and more = %d, want %d", most, c.b, n, c.n)
			}
			errors(t, r, api.OK, api.ErrExtra)
		}
		for _, most := range []int{size - 1, -1, -size - 1, -top, math.MinInt + 1, math.MinInt} {
			refusedSigned(t, c.b, most, api.ErrLimit)
			refusedSigned(t, tail(c.b), most, api.ErrLimit)
		}
	}
}

// P3.2: signed numbers beyond 2^62 on both sides, down to the least one, which has no absolute value of its type.
func TestReaderSignedTooGreat(t *testing.T) {
	for _, n := range []int{top + 1, -top - 1, top + 2, -top - 2, math.MaxInt - 1, math.MaxInt, math.MinInt + 1, math.MinInt} {
		b := written(func(w *field.Writer) { w.Signed(n) })
		for _, most := range []int{math.MaxInt, top + 1, top, 1, 0, -1, -top, math.MinInt + 1, math.MinInt} {
			refusedSigned(t, b, most, api.ErrLimit)
			refusedSigned(t, tail(b), most, api.ErrLimit)
		}
	}
}

// P3.2: bytes one by one, up to the end.
func TestReaderByte(t *testing.T) {
	var all []byte
	for c := range 256 {
		all = append(all, byte(255-c))
	}
	r := field.Read(all)
	for _, c := range all {
		errors(t, r, api.OK, api.ErrExtra)
		if got := r.Byte(); got != c {
			t.Fatalf("Byte = %02x, want %02x", got, c)
		}
	}
	errors(t, r, api.OK, api.OK)
	if c := r.Byte(); c != 0 {
		t.Errorf("Byte behind the end = %02x", c)
	}
	silent(t, r, api.ErrEnd)
	// Bytes behind the end of the slice are not its own.
	r = field.Read([]byte{1, 2}[:1])
	r.Byte()
	errors(t, r, api.OK, api.OK)
	r.Byte()
	silent(t, r, api.ErrEnd)
}

// P3.2: bytes whose number is up to most.
func TestReaderBytes(t *testing.T) {
	for _, in := range [][]byte{nil, {0}, {0xff}, []byte("abc"), full(127), full(128), empty(300)} {
		b := written(func(w *field.Writer) { w.Bytes(in) })
		for _, most := range []int{len(in), len(in) + 1, top, math.MaxInt} {
			if r := field.Read(b); !bytes.Equal(r.Bytes(most), in) || r.Done() != api.OK {
				t.Errorf("Bytes(%d) of % x: error %d, want % x", most, b, r.Done(), in)
			}
			r := field.Read(tail(b))
			if got := r.Bytes(most); !bytes.Equal(got, in) {
				t.Errorf("Bytes(%d) of % x and more = % x, want % x", most, b, got, in)
			}
			errors(t, r, api.OK, api.ErrExtra)
			// Nothing but the field was read.
			if c := r.Byte(); c != 1 {
				t.Errorf("the byte behind bytes = %02x, want 01", c)
			}
		}
		for _, most := range []int{len(in) - 1, -1, -top, math.MinInt} {
			refusedBytes(t, b, most, api.ErrLimit)
			refusedBytes(t, tail(b), most, api.ErrLimit)
		}
		for k := range b {
			refusedBytes(t, b[:k], math.MaxInt, api.ErrEnd)
		}
	}
}

// P3.2: fewer bytes than their number, if that is not refused itself.
func TestReaderBytesTooFew(t *testing.T) {
	refusedBytes(t, []byte{4, 1}, 9, api.ErrEnd)
	refusedBytes(t, []byte{4, 1}, 4, api.ErrEnd)
	refusedBytes(t, []byte{4, 1}, 3, api.ErrLimit)
	refusedBytes(t, []byte{1}, 1, api.ErrEnd)
	refusedBytes(t, []byte{1}, 0, api.ErrLimit)
	refusedBytes(t, []byte{4, 1, 2, 3}, 4, api.ErrEnd)
	refusedBytes(t, []byte{4, 1, 2, 3, 4}[:4], 4, api.ErrEnd)
	for _, b := range [][]byte{empty(8, 0x40), full(8, 0x3f), empty(4, 0x08)} {
		refusedBytes(t, b, math.MaxInt, api.ErrEnd)
		refusedBytes(t, b, top, api.ErrEnd)
		refusedBytes(t, tail(b), top, api.ErrEnd)
		refusedBytes(t, tail(b), 1, api.ErrLimit)
	}
}

// P3.2: the first error stays, and what is read behind it is zero, though good fields follow.
func TestReaderFirstErrorStays(t *testing.T) {
	b := []byte{5, 0x80, 0, 5}
	r := field.Read(b)
	if n := r.Number(9); n != 5 {
		t.Fatalf("Number = %d, want 5", n)
	}
	errors(t, r, api.OK, api.ErrExtra)
	if n := r.Number(9); n != 0 {
		t.Fatalf("Number = %d, want 0", n)
	}
	silent(t, r, api.ErrForm)

	r = field.Read(b)
	r.Number(4) // refused, though the number that follows would not be
	silent(t, r, api.ErrLimit)

	r = field.Read([]byte{1, 2, 3})
	r.Bytes(0)
	silent(t, r, api.ErrLimit)
	r = field.Read([]byte{7, 2, 3})
	r.Bytes(7)
	silent(t, r, api.ErrEnd)
	r = field.Read(nil)
	r.Byte()
	silent(t, r, api.ErrEnd)
}

// P3.2: Done says that bytes remain, but that is no error: the next fields are read all the same.
func TestReaderDone(t *testing.T) {
	for _, b := range [][]byte{nil, {}} {
		errors(t, field.Read(b), api.OK, api.OK)
	}
	errors(t, field.Read([]byte{0}), api.OK, api.ErrExtra)
	r := field.Read([]byte{4, 1, 3})
	errors(t, r, api.OK, api.ErrExtra)
	if n := r.Number(4); n != 4 {
		t.Errorf("Number = %d, want 4", n)
	}
	errors(t, r, api.OK, api.ErrExtra)
	if c := r.Byte(); c != 1 {
		t.Errorf("Byte = %d, want 1", c)
	}
	errors(t, r, api.OK, api.ErrExtra)
	if n := r.Signed(2); n != -2 {
		t.Errorf("Signed = %d, want -2", n)
	}
	errors(t, r, api.OK, api.OK)
}

// P3.2: a nil Reader, and one that Read did not return.
func TestReaderNil(t *testing.T) {
	var none *field.Reader
	silent(t, none, api.ErrNil)
	silent(t, &field.Reader{}, api.ErrNil)
	silent(t, new(field.Reader), api.ErrNil)
}

// Two readers of the same bytes know nothing of each other.
func TestReadersApart(t *testing.T) {
	b := []byte{1, 2}
	one, two := field.Read(b), field.Read(b)
	if c := one.Byte(); c != 1 {
		t.Errorf("Byte = %d, want 1", c)
	}
	if one.Number(0); two.Number(1) != 1 || two.Number(2) != 2 {
		t.Error("a reader's error and place are another's too")
	}
	errors(t, one, api.ErrLimit, api.ErrLimit)
	errors(t, two, api.OK, api.OK)
}

// A reader's bytes are its own: not those that it was handed, and not those that it handed out.
func TestReaderMemory(t *testing.T) {
	b := []byte("\x03abc\x03def\x07")
	before := slices.Clone(b)
	r := field.Read(b)
	first := r.Bytes(3)
	_ = append(first, "\x01\x01\x01\x01"...)
	clear(first)
	if !bytes.Equal(b, before) {
		t.Fatalf("% x became % x", before, b)
	}
	clear(b)
	second := r.Bytes(3)
	if string(second) != "def" || r.Byte() != 7 || r.Done() != api.OK {
		t.Errorf("Bytes = % x, Done = %d after the bytes of others changed", second, r.Done())
	}
}

// item is a field of any kind.
type item struct {
	kind byte
	n    int
	b    []byte
}

// write writes an item, and is the item that is read back, with the least most that allows it.
func write(w *field.Writer, i item) (item, int) {
	switch i.kind % 4 {
	case 0:
		w.Number(i.n)
		return item{kind: 0, n: max(i.n, 0)}, max(i.n, 0)
	case 1:
		w.Signed(i.n)
		if i.n == math.MinInt {
			return item{kind: 1, n: i.n}, math.MaxInt
		}
		return item{kind: 1, n: i.n}, max(i.n, -i.n)
	case 2:
		w.Byte(byte(i.n))
		return item{kind: 2, n: int(byte(i.n))}, 0
	}
	w.Bytes(i.b)
	return item{kind: 3, b: i.b}, len(i.b)
}

// read reads an item of a kind.
func read(r *field.Reader, kind byte, most int) item {
	switch kind % 4 {
	case 0:
		return item{kind: 0, n: r.Number(most)}
	case 1:
		return item{kind: 1, n: r.Signed(most)}
	case 2:
		return item{kind: 2, n: int(r.Byte())}
	}
	return item{kind: 3, b: r.Bytes(most)}
}

// same tells whether two items are the same one.
func same(i, j item) bool {
	return i.kind == j.kind && i.n == j.n && bytes.Equal(i.b, j.b)
}

// readable brings a number into the range that is read back.
func readable(n int) int {
	return min(max(n, -top), top)
}

// back asks that items be read back as they were written.
func back(t *testing.T, items []item) {
	t.Helper()
	var w field.Writer
	var want []item
	var mosts []int
	for _, i := range items {
		i.n = readable(i.n)
		j, most := write(&w, i)
		want = append(want, j)
		mosts = append(mosts, most)
	}
	exact, wide := field.Read(w.Out()), field.Read(w.Out())
	for k, j := range want {
		if got := read(exact, j.kind, mosts[k]); !same(got, j) || exact.Error() != api.OK {
			t.Fatalf("field %d of %d: %v with the error %d, want %v", k, len(want), got, exact.Error(), j)
		}
		if got := read(wide, j.kind, math.MaxInt); !same(got, j) {
			t.Fatalf("field %d of %d: %v with the error %d, want %v", k, len(want), got, wide.Error(), j)
		}
	}
	errors(t, exact, api.OK, api.OK)
	errors(t, wide, api.OK, api.OK)
}

// P3.3: every two fields, one behind the other.
func TestPairsAreReadBack(t *testing.T) {
	all := []item{{kind: 3}, {kind: 3, b: []byte{0}}, {kind: 3, b: full(127)}, {kind: 3, b: empty(128)}, {kind: 2}, {kind: 2, n: 128}, {kind: 2, n: 255}}
	for _, n := range []int{0, 1, 63, 64, 127, 128, 16383, 16384, math.MaxInt32, math.MaxUint32, 1 << 56, top - 1, top} {
		all = append(all, item{kind: 0, n: n}, item{kind: 0, n: -n}, item{kind: 1, n: n}, item{kind: 1, n: -n}, item{kind: 1, n: -n - 1})
	}
	back(t, nil)
	back(t, all)
	for _, i := range all {
		back(t, []item{i})
		for _, j := range all {
			back(t, []item{i, j})
		}
	}
}

// P3.3: fields of all kinds and sizes in turn.
func TestManyAreReadBack(t *testing.T) {
	x := uint64(88172645463325252)
	draw := func() uint64 {
		x ^= x << 13
		x ^= x >> 7
		x ^= x << 17
		return x
	}
	for range 300 {
		var items []item
		for range draw() % 60 {
			n := int(draw() >> (draw() % 64))
			if draw()%2 == 0 {
				n = -n
			}
			items = append(items, item{kind: byte(draw() % 4), n: n, b: bytes.Repeat([]byte{byte(draw())}, int(draw()%400))})
		}
		back(t, items)
	}
}

// model reads fields as the document says it, with numbers that have no greatest one.
type model struct {
	rest  []byte
	first api.Errno
}

// fail stores the first error, and is zero.
func (m *model) fail(e api.Errno) *big.Int {
	if m.first == api.OK {
		m.first = e
	}
	return new(big.Int)
}

// number is the next number, which code turns into what is held against most.
func (m *model) number(most int, code func(*big.Int) *big.Int) *big.Int {
	if m.first != api.OK {
		return new(big.Int)
	}
	ten := m.rest[:min(len(m.rest), 10)]
	end := slices.IndexFunc(ten, func(c byte) bool { return c < 0x80 })
	switch {
	case end < 0 && len(ten) < 10:
		return m.fail(api.ErrEnd)
	case end < 0, end > 0 && ten[end] == 0, end == 9 && ten[end] > 1:
		return m.fail(api.ErrForm)
	}
	n := new(big.Int)
	for _, c := range slices.Backward(ten[:end+1]) {
		n.Lsh(n, 7).Add(n, big.NewInt(int64(c&0x7f)))
	}
	n = code(n)
	if size := new(big.Int).Abs(n); size.Cmp(big.NewInt(int64(most))) > 0 || size.Cmp(big.NewInt(top)) > 0 {
		return m.fail(api.ErrLimit)
	}
	m.rest = m.rest[end+1:]
	return n
}

func plain(n *big.Int) *big.Int { return n }

// halves is the signed number of a code: 0, -1, 1, -2, 2, ..
func halves(n *big.Int) *big.Int {
	half := new(big.Int).Rsh(n, 1)
	if n.Bit(0) == 1 {
		half.Neg(half).Sub(half, big.NewInt(1))
	}
	return half
}

// read is the next field of a kind.
func (m *model) read(kind byte, most int) item {
	switch kind % 4 {
	case 0:
		return item{kind: 0, n: int(m.number(most, plain).Int64())}
	case 1:
		return item{kind: 1, n: int(m.number(most, halves).Int64())}
	case 2:
		if m.first == api.OK && len(m.rest) == 0 {
			m.fail(api.ErrEnd)
		}
		if m.first != api.OK {
			return item{kind: 2}
		}
		c := m.rest[0]
		m.rest = m.rest[1:]
		return item{kind: 2, n: int(c)}
	}
	count := m.number(most, plain)
	if count.Cmp(big.NewInt(int64(len(m.rest)))) > 0 {
		m.fail(api.ErrEnd)
	}
	if m.first != api.OK {
		return item{kind: 3}
	}
	k := int(count.Int64())
	b := m.rest[:k]
	m.rest = m.rest[k:]
	return item{kind: 3, b: b}
}

// done is the first error, or whether bytes remain.
func (m *model) done() api.Errno {
	if m.first == api.OK && len(m.rest) > 0 {
		return api.ErrExtra
	}
	return m.first
}

// P3.2 for bytes of any kind, read in any way.
func FuzzRead(f *testing.F) {
	f.Add([]byte("\xac\x02\x09\x07\x03abc"), []byte{0, 1, 2, 3}, 300)
	f.Add([]byte{4, 1}, []byte{3}, 9)
	f.Add([]byte{4, 1}, []byte{2}, 0)
	f.Add(full(9, 1), []byte{1}, math.MaxInt)
	f.Add(full(9, 1), []byte{1}, math.MinInt)
	f.Add(empty(9, 1), []byte{1, 2}, math.MaxInt)
	f.Add(empty(8, 0x40), []byte{0, 2}, math.MaxInt)
	f.Add(empty(8, 0x40, 1), []byte{3, 2}, math.MaxInt)
	f.Add([]byte{}, []byte{}, -1)
	f.Fuzz(func(t *testing.T, b, kinds []byte, most int) {
		r, m := field.Read(b), &model{rest: b}
		for k, kind := range kinds {
			got, want := read(r, kind, most), m.read(kind, most)
			if !same(got, want) || r.Error() != m.first || r.Done() != m.done() {
				t.Fatalf("field %d of % x, with most %d: %v with the errors %d and %d, want %v with %d and %d", k, b, most, got, r.Error(), r.Done(), want, m.first, m.done())
			}
		}
		errors(t, r, m.first, m.done())
	})
}

// P3.1 and P3.3 for fields of any kind.
func FuzzWrite(f *testing.F) {
	f.Add(byte(0), 300, byte(1), -5, []byte("abc"))
	f.Add(byte(0), -1, byte(1), math.MinInt, []byte{})
	f.Add(byte(3), 0, byte(2), 255, full(128))
	f.Add(byte(1), top, byte(1), -top, full(1))
	f.Fuzz(func(t *testing.T, k byte, n int, l byte, o int, b []byte) {
		back(t, []item{{kind: k, n: n, b: b}, {kind: l, n: o, b: b}, {kind: 3, b: b}})
		var w field.Writer
		i, _ := write(&w, item{kind: k, n: n, b: b})
		j, _ := write(&w, item{kind: l, n: o, b: b})
		m := &model{rest: w.Out()}
		for _, want := range []item{i, j} {
			if got := m.read(want.kind, math.MaxInt); m.first == api.OK && !same(got, want) {
				t.Fatalf("%v was written as %v", want, got)
			}
		}
		if m.first == api.OK && len(m.rest) > 0 {
			t.Fatalf("% x stands behind two fields", m.rest)
		}
	})
}
