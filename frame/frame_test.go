package frame_test

import (
	"bytes"
	"encoding/binary"
	"hash/crc32"
	"math"
	"slices"
	"testing"

	"viaticum/api"
	"viaticum/frame"
)

// noise is count bytes that are spread over all values, the same ones for the same seed.
func noise(seed uint64, count int) []byte {
	x := seed*2654435761 + 88172645463325252
	out := make([]byte, count)
	for i := range out {
		x ^= x << 13
		x ^= x >> 7
		x ^= x << 17
		out[i] = byte(x >> 32)
	}
	return out
}

// summed is bytes with their checksum behind them.
func summed(b []byte) []byte {
	return binary.LittleEndian.AppendUint32(slices.Clone(b), crc32.ChecksumIEEE(b))
}

// made is the frame as the document says it, without the layers below.
func made(kind byte, content []byte) []byte {
	b := binary.AppendUvarint([]byte{0xc7, kind}, uint64(len(content)))
	return summed(append(b, content...))
}

// join is bytes behind each other, in memory of their own.
func join(parts ...[]byte) []byte {
	return slices.Concat(parts...)
}

// counted is a frame's beginning with any number of bytes, however many there are.
func counted(count uint64, rest ...byte) []byte {
	return append(binary.AppendUvarint([]byte{0xc7, 1}, count), rest...)
}

// contents is contents of many kinds, with numbers of one, two and three bytes.
func contents() [][]byte {
	out := [][]byte{
		nil, {}, {0}, {0xff}, {0xc7}, {0, 0, 0, 0}, []byte("content"), {0xc7, 1, 0},
		made(1, nil), made(2, []byte("a frame within a frame")),
		bytes.Repeat([]byte{0}, 300), bytes.Repeat([]byte{0xc7}, 300),
	}
	for _, count := range []int{2, 3, 4, 5, 126, 127, 128, 129, 16383, 16384, 16385} {
		out = append(out, noise(uint64(count), count))
	}
	return out
}

// put is a content's frame, which has to be one.
func put(t *testing.T, kind byte, content []byte) []byte {
	t.Helper()
	b, e := frame.Put(kind, content)
	if e != api.OK {
		t.Fatalf("Put(%d, %d bytes): error %d", kind, len(content), e)
	}
	return b
}

// takes asks that a frame is read.
func takes(t *testing.T, b []byte, kind byte, content []byte, used int) {
	t.Helper()
	k, c, n, e := frame.Take(b)
	if k != kind || !bytes.Equal(c, content) || n != used || e != api.OK {
		t.Errorf("Take(%d bytes) = %d, %d bytes, %d, error %d, want %d, %d bytes, %d", len(b), k, len(c), n, e, kind, len(content), used)
	}
}

// refuses asks that Take, and Whole of every kind, have an error, and no other result.
func refuses(t *testing.T, b []byte, want api.Errno) {
	t.Helper()
	k, c, n, e := frame.Take(b)
	if k != 0 || len(c) != 0 || n != 0 || e != want {
		t.Errorf("Take(%d bytes: % x) = %d, % x, %d, error %d, want error %d", len(b), b[:min(len(b), 20)], k, c, n, e, want)
	}
	for _, kind := range []byte{0, 1, 2, 0xc7, 0xff} {
		wrong(t, kind, b, want)
	}
}

// wrong asks that Whole has an error, and no other result.
func wrong(t *testing.T, kind byte, b []byte, want api.Errno) {
	t.Helper()
	c, e := frame.Whole(kind, b)
	if len(c) != 0 || e != want {
		t.Errorf("Whole(%d, %d bytes: % x) = % x, error %d, want error %d", kind, len(b), b[:min(len(b), 20)], c, e, want)
	}
}

// P4.1: frames that are written out by hand.
func TestPutGivesTheFrame(t *testing.T) {
	for _, c := range []struct {
		kind    byte
		content []byte
		b       []byte
	}{
		{1, nil, summed([]byte{0xc7, 1, 0})},
		{1, []byte{}, summed([]byte{0xc7, 1, 0})},
		{0, nil, summed([]byte{0xc7, 0, 0})},
		{0xff, []byte{0}, summed([]byte{0xc7, 0xff, 1, 0})},
		{2, []byte("abc"), summed([]byte{0xc7, 2, 3, 'a', 'b', 'c'})},
		{0xc7, []byte{0xc7, 0xc7}, summed([]byte{0xc7, 0xc7, 2, 0xc7, 0xc7})},
		{3, noise(1, 127), summed(join([]byte{0xc7, 3, 0x7f}, noise(1, 127)))},
		{3, noise(1, 128), summed(join([]byte{0xc7, 3, 0x80, 0x01}, noise(1, 128)))},
		{6, noise(1, 300), summed(join([]byte{0xc7, 6, 0xac, 0x02}, noise(1, 300)))},
		{6, noise(1, 16384), summed(join([]byte{0xc7, 6, 0x80, 0x80, 0x01}, noise(1, 16384)))},
	} {
		if b, e := frame.Put(c.kind, c.content); !bytes.Equal(b, c.b) || e != api.OK {
			t.Errorf("Put(%d, %d bytes) = % x, error %d, want % x", c.kind, len(c.content), b, e, c.b)
		}
	}
}

// P4.1: all bytes of two frames, the checksums among them.
func TestPutWholeExamples(t *testing.T) {
	for _, c := range []struct {
		kind    byte
		content string
		b       []byte
	}{
		{1, "", []byte{0xc7, 0x01, 0x00, 0x96, 0x68, 0xba, 0x72}},
		{2, "abc", []byte{0xc7, 0x02, 0x03, 0x61, 0x62, 0x63, 0xf1, 0xeb, 0x3f, 0x1f}},
	} {
		if b := put(t, c.kind, []byte(c.content)); !bytes.Equal(b, c.b) {
			t.Errorf("Put(%d, %q) = % x, want % x", c.kind, c.content, b, c.b)
		}
		takes(t, c.b, c.kind, []byte(c.content), len(c.b))
	}
}

// P4.1: each kind has frames.
func TestPutOfEachKind(t *testing.T) {
	for kind := range 256 {
		for _, content := range [][]byte{nil, []byte("content")} {
			want := made(byte(kind), content)
			if b := put(t, byte(kind), content); !bytes.Equal(b, want) {
				t.Errorf("Put(%d, %q) = % x, want % x", kind, content, b, want)
			}
			takes(t, want, byte(kind), content, len(want))
		}
	}
}

// P4.1: a content may have MaxBytes bytes, and no more.
func TestPutAtTheLimit(t *testing.T) {
	b := noise(3, api.MaxBytes+2)
	for _, count := range []int{api.MaxBytes - 1, api.MaxBytes} {
		got := put(t, 5, b[:count])
		if !bytes.Equal(got, made(5, b[:count])) {
			t.Errorf("Put of %d bytes: another frame", count)
		}
		takes(t, got, 5, b[:count], len(got))
		if c, e := frame.Whole(5, got); !bytes.Equal(c, b[:count]) || e != api.OK {
			t.Errorf("Whole with %d bytes of content = %d bytes, error %d", count, len(c), e)
		}
	}
	for _, count := range []int{api.MaxBytes + 1, api.MaxBytes + 2} {
		for _, kind := range []byte{0, 1, 0xff} {
			if got, e := frame.Put(kind, b[:count]); len(got) != 0 || e != api.ErrLimit {
				t.Errorf("Put of %d bytes = %d bytes, error %d, want error %d", count, len(got), e, api.ErrLimit)
			}
		}
	}
}

// P4.1: what Take refuses, and by which error, where one check fails alone or a later one fails too.
func TestTakeRefuses(t *testing.T) {
	tenth := bytes.Repeat([]byte{0xff}, 9)
	for _, c := range []struct {
		name string
		b    []byte
		want api.Errno
	}{
		{"nothing, nil", nil, api.ErrEnd},
		{"nothing, empty", []byte{}, api.ErrEnd},
		{"another first byte alone", []byte{1}, api.ErrForm},
		{"0 alone", []byte{0}, api.ErrForm},
		{"another first byte, no number", []byte{0xc6, 1}, api.ErrForm},
		{"another first byte, a number that is refused", []byte{0xc6, 1, 0x80, 0}, api.ErrForm},
		{"another first byte, a number above the limit", join([]byte{0xc8}, counted(math.MaxUint64)[1:]), api.ErrForm},
		{"another first byte, its checksum", summed([]byte{0xc6, 1, 0}), api.ErrForm},
		{"no second byte", []byte{0xc7}, api.ErrEnd},
		{"no number", []byte{0xc7, 1}, api.ErrEnd},
		{"a number that is cut off", []byte{0xc7, 1, 0x80}, api.ErrEnd},
		{"a number that is cut off after nine bytes", join([]byte{0xc7, 1}, tenth), api.ErrEnd},
		{"0 in two bytes", []byte{0xc7, 1, 0x80, 0}, api.ErrForm},
		{"0 in two bytes, the checksum", summed([]byte{0xc7, 1, 0x80, 0}), api.ErrForm},
		{"1 in two bytes, the content, the checksum", summed([]byte{0xc7, 1, 0x81, 0, 7}), api.ErrForm},
		{"a tenth byte above 1", join([]byte{0xc7, 1}, tenth, []byte{2}), api.ErrForm},
		{"a tenth byte above 1 that says there is more, and ends there", join([]byte{0xc7, 1}, tenth, []byte{0xff}), api.ErrForm},
		{"eleven bytes", join([]byte{0xc7, 1}, tenth, []byte{0x81, 0}), api.ErrForm},
		{"no content, no checksum", counted(1), api.ErrEnd},
		{"a content, no checksum", counted(1, 7), api.ErrEnd},
		{"0 bytes, no checksum", counted(0), api.ErrEnd},
		{"0 bytes, three bytes of a checksum", counted(0, 0, 0, 0), api.ErrEnd},
		{"0 bytes, four bytes of another checksum", counted(0, 0, 0, 0, 0), api.ErrSum},
		{"1 byte, four bytes in all", counted(1, 7, 0, 0, 0), api.ErrEnd},
		{"1 byte, another checksum", counted(1, 7, 0, 0, 0, 0), api.ErrSum},
		{"4 bytes, and only those", counted(4, 1, 2, 3, 4), api.ErrEnd},
		{"MaxBytes bytes, none there", counted(api.MaxBytes), api.ErrEnd},
		{"MaxBytes + 1 bytes, none there", counted(api.MaxBytes + 1), api.ErrLimit},
		{"MaxBytes + 1 bytes, some there", counted(api.MaxBytes+1, noise(1, 99)...), api.ErrLimit},
		{"2^31 bytes", counted(1 << 31), api.ErrLimit},
		{"2^32 bytes, of which 0 would be left", counted(1<<32, 0, 0, 0, 0), api.ErrLimit},
		{"2^62 bytes", counted(1<<62, 1, 2, 3, 4), api.ErrLimit},
		{"2^63 - 1 bytes", counted(math.MaxInt64, 1, 2, 3, 4), api.ErrLimit},
		{"2^63 bytes", counted(1<<63, 1, 2, 3, 4), api.ErrLimit},
		{"2^64 - 1 bytes", counted(math.MaxUint64, 1, 2, 3, 4), api.ErrLimit},
		{"2^64 - 7 bytes", counted(math.MaxUint64-6, 1, 2, 3, 4), api.ErrLimit},
	} {
		t.Run(c.name, func(t *testing.T) { refuses(t, c.b, c.want) })
	}
}

// P4.1: a frame with more than MaxBytes bytes of content is refused, however right it is.
func TestTakeAboveTheLimit(t *testing.T) {
	b := noise(5, api.MaxBytes+2)
	refuses(t, made(1, b[:api.MaxBytes+1]), api.ErrLimit)
	refuses(t, made(1, b), api.ErrLimit)
	refuses(t, made(1, b)[:100], api.ErrLimit)
}

// P4.1: every first byte but one is refused, alone and ahead of what would be right.
func TestTakeAsksForTheFirstByte(t *testing.T) {
	for first := range 256 {
		if first == 0xc7 {
			continue
		}
		refuses(t, []byte{byte(first)}, api.ErrForm)
		refuses(t, summed([]byte{byte(first), 1, 2, 8, 9}), api.ErrForm)
	}
}

// P4.1: a frame with one byte that is another one is not accepted.
func TestTakeAsksForTheChecksum(t *testing.T) {
	b := made(2, []byte("content"))
	for at := range b {
		other := slices.Clone(b)
		for c := range 256 {
			other[at] = byte(c)
			if other[at] == b[at] {
				takes(t, other, 2, []byte("content"), len(b))
				continue
			}
			switch {
			case at == 0:
				refuses(t, other, api.ErrForm)
			case at != 2:
				refuses(t, other, api.ErrSum)
			case c < 7:
				refuses(t, other, api.ErrSum)
			case c < 0x80:
				refuses(t, other, api.ErrEnd)
			}
			if _, _, _, e := frame.Take(other); e == api.OK {
				t.Errorf("byte %d as %02x instead of %02x is accepted", at, c, b[at])
			}
		}
	}
}

// P4.1: a checksum stands with its least significant byte first, and is that of the bytes ahead of it alone.
func TestTakeRefusesOtherChecksums(t *testing.T) {
	b := []byte{0xc7, 2, 3, 'a', 'b', 'c'}
	whole := crc32.ChecksumIEEE(b)
	takes(t, binary.LittleEndian.AppendUint32(slices.Clone(b), whole), 2, []byte("abc"), 10)
	for _, sum := range []uint32{
		0, 1, math.MaxUint32, ^whole, whole + 1, whole - 1,
		crc32.ChecksumIEEE(b[1:]), crc32.ChecksumIEEE(b[2:]), crc32.ChecksumIEEE(b[3:]), crc32.ChecksumIEEE(b[:3]),
		crc32.Checksum(b, crc32.MakeTable(crc32.Castagnoli)),
	} {
		refuses(t, binary.LittleEndian.AppendUint32(slices.Clone(b), sum), api.ErrSum)
	}
	refuses(t, binary.BigEndian.AppendUint32(slices.Clone(b), whole), api.ErrSum)
	for k := range 32 {
		refuses(t, binary.LittleEndian.AppendUint32(slices.Clone(b), whole^1<<k), api.ErrSum)
	}
}

// P4.2: a whole frame of its kind has its content.
func TestWholeGivesTheContent(t *testing.T) {
	for _, content := range contents() {
		for _, kind := range []byte{0, 1, 2, 6, 0xc7, 0xff} {
			c, e := frame.Whole(kind, made(kind, content))
			if !bytes.Equal(c, content) || e != api.OK {
				t.Errorf("Whole(%d) with %d bytes of content = %d bytes, error %d", kind, len(content), len(c), e)
			}
		}
	}
}

// P4.2: each other kind is refused, also if bytes follow the frame.
func TestWholeAsksForTheKind(t *testing.T) {
	for kind := range 256 {
		b := made(byte(kind), []byte("abc"))
		for asked := range 256 {
			if asked != kind {
				wrong(t, byte(asked), b, api.ErrForm)
				wrong(t, byte(asked), append(slices.Clone(b), 0), api.ErrForm)
			}
		}
	}
}

// P4.2: bytes that follow a frame are refused, whatever they are.
func TestWholeRefusesMore(t *testing.T) {
	b := made(2, []byte("abc"))
	for _, rest := range [][]byte{{0}, {0xff}, {0xc7}, {1, 2}, b, b[:len(b)-1], made(1, nil), noise(1, 1000)} {
		wrong(t, 2, join(b, rest), api.ErrExtra)
	}
	for _, content := range contents() {
		wrong(t, 9, append(made(9, content), 0), api.ErrExtra)
	}
}

// P4.2: the error of Take comes ahead of another kind, and ahead of bytes that follow.
func TestWholeOrder(t *testing.T) {
	b := made(2, []byte("abc"))
	bad := slices.Clone(b)
	bad[4] ^= 1
	for _, kind := range []byte{1, 2} {
		wrong(t, kind, bad, api.ErrSum)
		wrong(t, kind, append(slices.Clone(bad), 0), api.ErrSum)
		wrong(t, kind, b[:len(b)-1], api.ErrEnd)
		wrong(t, kind, counted(api.MaxBytes+1, b...), api.ErrLimit)
	}
}

// P4.3: Take inverts Put, whatever follows the frame.
func TestTakeInvertsPut(t *testing.T) {
	rests := [][]byte{nil, {0}, {1, 2}, {0xff, 0xff, 0xff, 0xff}, {0xc7}, made(1, nil), noise(7, 500)}
	for _, content := range contents() {
		for _, kind := range []byte{0, 1, 5, 0xc7, 0xff} {
			b := put(t, kind, content)
			for _, rest := range rests {
				takes(t, join(b, rest), kind, content, len(b))
			}
			takes(t, join(b, b), kind, content, len(b))
		}
	}
}

// P4.3: frames behind each other are read one by one.
func TestTakeOneByOne(t *testing.T) {
	var all []byte
	for k, content := range contents() {
		all = append(all, put(t, byte(k), content)...)
	}
	for k, content := range contents() {
		kind, c, used, e := frame.Take(all)
		if kind != byte(k) || !bytes.Equal(c, content) || e != api.OK {
			t.Fatalf("frame %d: kind %d, %d bytes, error %d", k, kind, len(c), e)
		}
		all = all[used:]
	}
	refuses(t, all, api.ErrEnd)
}

// P4.3: a frame that is cut off at any of its bytes is not accepted.
func TestTakeRefusesEachBeginning(t *testing.T) {
	for _, content := range contents() {
		b := put(t, 1, content)
		step := max(1, len(b)/400)
		for k := 0; k < len(b); k += step {
			refuses(t, b[:k], api.ErrEnd)
			// The bytes that were cut off still lie behind the slice, or nowhere at all.
			refuses(t, slices.Clone(b[:k]), api.ErrEnd)
		}
		for k := max(0, len(b)-9); k < len(b); k++ {
			refuses(t, b[:k], api.ErrEnd)
		}
	}
}

// P4.3: the greatest frame is not accepted without its last bytes either.
func TestTakeRefusesTheGreatestCutOff(t *testing.T) {
	b := put(t, 1, noise(9, api.MaxBytes))
	for _, k := range []int{1, 2, 3, 4, 5, 100, api.MaxBytes + 4, api.MaxBytes + 5, api.MaxBytes + 7} {
		refuses(t, b[:len(b)-k], api.ErrEnd)
	}
	takes(t, append(b, 0), 1, noise(9, api.MaxBytes), len(b))
}

// P4.1, P4.2: no call changes its bytes, and each result is memory of its own.
func TestMemory(t *testing.T) {
	content := noise(1, 200)
	b := put(t, 1, content)
	frozen := slices.Clone(b)
	content[0] ^= 0xff
	if !bytes.Equal(b, frozen) {
		t.Error("the frame changes with the content that was put")
	}
	content[0] ^= 0xff
	_, first, _, _ := frame.Take(b)
	second, _ := frame.Whole(1, b)
	if !bytes.Equal(b, frozen) || !bytes.Equal(content, noise(1, 200)) {
		t.Error("a call changed its bytes")
	}
	clear(b)
	if !bytes.Equal(first, content) || !bytes.Equal(second, content) {
		t.Error("a content changes with the bytes that it was read from")
	}
	clear(first)
	if !bytes.Equal(second, content) {
		t.Error("two contents share memory")
	}
}

// P4.1: Put writes nothing behind a content that has spare capacity.
func TestPutLeavesSpareCapacity(t *testing.T) {
	b := bytes.Repeat([]byte{7}, 100)
	put(t, 1, b[10:20])
	put(t, 1, b[:0])
	if !bytes.Equal(b, bytes.Repeat([]byte{7}, 100)) {
		t.Errorf("Put changed bytes around its content: % x", b)
	}
}

// read is what Take has to return, as the document says it, without the layers below.
func read(b []byte) (kind byte, content []byte, used int, e api.Errno) {
	if len(b) == 0 {
		return 0, nil, 0, api.ErrEnd
	}
	if b[0] != 0xc7 {
		return 0, nil, 0, api.ErrForm
	}
	if len(b) == 1 {
		return 0, nil, 0, api.ErrEnd
	}
	count, size := binary.Uvarint(b[2:])
	// A tenth byte that says there is more is above 1, whether or not an eleventh one follows.
	cut := size == 0 && len(b) < 12
	switch {
	case cut:
		return 0, nil, 0, api.ErrEnd
	case size <= 0 || size > 1 && b[2+size-1] == 0:
		return 0, nil, 0, api.ErrForm
	case count > api.MaxBytes:
		return 0, nil, 0, api.ErrLimit
	case uint64(len(b)-2-size) < count+4:
		return 0, nil, 0, api.ErrEnd
	}
	content = b[2+size : 2+size+int(count)]
	whole := made(b[1], content)
	if !bytes.HasPrefix(b, whole) {
		return 0, nil, 0, api.ErrSum
	}
	return b[1], content, len(whole), api.OK
}

// P4.1 and P4.2 for bytes of any kind.
func FuzzTake(f *testing.F) {
	for _, b := range [][]byte{
		nil, {0xc7}, {0xc7, 1}, {0xc7, 1, 0x80}, {0xc7, 1, 0x80, 0}, {1, 2, 3},
		made(1, nil), made(2, []byte("abc")), append(made(2, []byte("abc")), 0),
		counted(0, 0, 0, 0, 0), counted(api.MaxBytes), counted(api.MaxBytes + 1), counted(math.MaxUint64),
		join([]byte{0xc7, 1}, bytes.Repeat([]byte{0xff}, 9), []byte{2}),
		join([]byte{0xc7, 1}, bytes.Repeat([]byte{0xff}, 10)),
	} {
		f.Add(byte(2), b)
	}
	f.Fuzz(func(t *testing.T, asked byte, b []byte) {
		before := slices.Clone(b)
		kind, content, used, e := read(b)
		if e == api.OK {
			takes(t, b, kind, content, used)
		} else {
			refuses(t, b, e)
		}
		switch {
		case e != api.OK:
			wrong(t, asked, b, e)
		case kind != asked:
			wrong(t, asked, b, api.ErrForm)
		case used < len(b):
			wrong(t, asked, b, api.ErrExtra)
		default:
			if c, e := frame.Whole(asked, b); !bytes.Equal(c, content) || e != api.OK {
				t.Errorf("Whole(%d, % x) = % x, error %d", asked, b, c, e)
			}
		}
		if !bytes.Equal(b, before) {
			t.Errorf("% x was changed to % x", before, b)
		}
	})
}

// P4.1 and P4.3 for contents of any kind, whatever follows, and cut off anywhere.
func FuzzPut(f *testing.F) {
	f.Add(byte(1), []byte{}, []byte{}, 0)
	f.Add(byte(2), []byte("content"), []byte{1, 2}, 5)
	f.Add(byte(0xc7), made(1, nil), made(1, nil), 13)
	f.Add(byte(0), noise(1, 300), []byte{0xc7}, -1)
	f.Fuzz(func(t *testing.T, kind byte, content, rest []byte, cut int) {
		b := put(t, kind, content)
		if !bytes.Equal(b, made(kind, content)) {
			t.Errorf("Put(%d, % x) = % x", kind, content, b)
		}
		takes(t, join(b, rest), kind, content, len(b))
		k := cut % len(b)
		if k < 0 {
			k += len(b)
		}
		refuses(t, b[:k], api.ErrEnd)
	})
}
