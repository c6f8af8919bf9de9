package trace_test

import (
	"bytes"
	"encoding/binary"
	"hash/crc32"
	"math"
	"slices"
	"testing"

	"viaticum/api"
	"viaticum/trace"
)

const corner = api.MaxCoord - 1 // the greatest coordinate

// join is bytes behind each other, in memory of their own.
func join(parts ...[]byte) []byte {
	return slices.Concat(parts...)
}

// plain is the bytes of a number, without the layers below.
func plain(n uint64) []byte {
	return binary.AppendUvarint(nil, n)
}

// stepped is the bytes of one step, however great, as the document says them.
func stepped(t uint64, x, y int64) []byte {
	return binary.AppendVarint(binary.AppendVarint(plain(t), x), y)
}

// sampled is the bytes of samples, as the document says them.
func sampled(l []api.Sample) []byte {
	var b []byte
	var last api.Sample
	for _, s := range l {
		b = append(b, stepped(uint64(s.T-last.T), int64(s.X-last.X), int64(s.Y-last.Y))...)
		last = s
	}
	return b
}

// summed is bytes with their checksum behind them.
func summed(b []byte) []byte {
	return binary.LittleEndian.AppendUint32(slices.Clone(b), crc32.ChecksumIEEE(b))
}

// framed is a content's frame of a kind, as the document says it.
func framed(kind byte, parts ...[]byte) []byte {
	content := join(parts...)
	return summed(join([]byte{0xc7, kind}, plain(uint64(len(content))), content))
}

// made is a trace's frame, as the document says it.
func made(l []api.Sample) []byte {
	return framed(1, plain(uint64(len(l))), sampled(l))
}

// noise is numbers that are spread over all values, the same ones for the same seed.
func noise(seed uint64) func() uint64 {
	x := seed*2654435761 + 88172645463325252
	return func() uint64 {
		x ^= x << 13
		x ^= x >> 7
		x ^= x << 17
		return x
	}
}

// walk is count samples in sequence, with steps of all sizes, at most reach in time.
func walk(seed uint64, count, reach int) []api.Sample {
	next := noise(seed)
	at := func(most int) int {
		return int(next() >> (next() % 63) % uint64(most))
	}
	l := make([]api.Sample, count)
	t := at(reach)
	for i := range l {
		l[i] = api.Sample{T: t, X: at(api.MaxCoord), Y: at(api.MaxCoord)}
		t += 1 + at(reach)
	}
	return l
}

// lists is samples in sequence, of many kinds.
func lists() [][]api.Sample {
	out := [][]api.Sample{
		nil,
		{},
		{{}},
		{{T: 1, X: 2, Y: 3}},
		{{T: api.MaxTime, X: corner, Y: corner}},
		{{}, {T: 1}},
		{{}, {T: api.MaxTime}},
		{{T: api.MaxTime - 1}, {T: api.MaxTime}},
		{{T: 7, X: 5, Y: 6}, {T: 8, X: 5, Y: 6}, {T: 9, X: 5, Y: 6}},
		{{T: 0, X: corner}, {T: 1, Y: corner}, {T: 2, X: corner}, {T: 3, X: corner, Y: corner}, {T: 4}},
		{{T: 10, X: 100, Y: 200}, {T: 12, X: 90, Y: 205}, {T: 400, X: 90, Y: 0}},
	}
	for k := range 30 {
		out = append(out, walk(uint64(k), k+1, 1<<(k+5)))
	}
	for _, count := range []int{127, 128, 129} { // the number of samples takes a second byte
		out = append(out, walk(uint64(count), count, 1000))
	}
	return append(out, walk(50, api.MaxSamples-1, 1<<20), walk(51, api.MaxSamples, 1<<29), walk(52, api.MaxSamples, 1))
}

// front is some of the first elements, to be told.
func front[T any](l []T) []T {
	return l[:min(len(l), 30)]
}

// puts asks that a trace has this frame.
func puts(t *testing.T, l []api.Sample, want []byte) {
	t.Helper()
	if b, e := trace.Put(l); !bytes.Equal(b, want) || e != api.OK {
		t.Errorf("Put(%d samples: %v) = % x, error %d, want % x", len(l), front(l), front(b), e, front(want))
	}
}

// cannot asks that samples have no frame, but an error.
func cannot(t *testing.T, l []api.Sample, want api.Errno) {
	t.Helper()
	if b, e := trace.Put(l); len(b) != 0 || e != want {
		t.Errorf("Put(%d samples: %v) = % x, error %d, want error %d", len(l), front(l), front(b), e, want)
	}
}

// takes asks that bytes are the frame of this trace.
func takes(t *testing.T, b []byte, want []api.Sample) {
	t.Helper()
	if l, e := trace.Take(b); !slices.Equal(l, want) || e != api.OK {
		t.Errorf("Take(%d bytes: % x) = %d samples: %v, error %d, want %d: %v", len(b), front(b), len(l), front(l), e, len(want), front(want))
	}
}

// refuses asks that Take has an error, and no samples.
func refuses(t *testing.T, b []byte, want api.Errno) {
	t.Helper()
	if l, e := trace.Take(b); len(l) != 0 || e != want {
		t.Errorf("Take(%d bytes: % x) = %d samples: %v, error %d, want error %d", len(b), front(b), len(l), front(l), e, want)
	}
}

// example is a trace, and its frame ahead of the checksum, written out by hand.
type example struct {
	l []api.Sample
	b []byte
}

func examples() []example {
	return []example{
		{nil, []byte{0xc7, 1, 1, 0}},
		{[]api.Sample{}, []byte{0xc7, 1, 1, 0}},
		{[]api.Sample{{}}, []byte{0xc7, 1, 4, 1, 0, 0, 0}},
		{[]api.Sample{{T: 1, X: 2, Y: 3}}, []byte{0xc7, 1, 4, 1, 1, 4, 6}},
		{[]api.Sample{{T: 1, X: 2, Y: 3}, {T: 5, X: 1, Y: 3}}, []byte{0xc7, 1, 7, 2, 1, 4, 6, 4, 1, 0}},
		{
			[]api.Sample{{T: 1, X: 2, Y: 3}, {T: 5, X: 0, Y: 8}, {T: 300, X: 1, Y: 0}},
			[]byte{0xc7, 1, 11, 3, 1, 4, 6, 4, 3, 10, 0xa7, 2, 2, 15},
		},
		{
			[]api.Sample{{T: api.MaxTime, X: corner, Y: corner}},
			[]byte{0xc7, 1, 15, 1, 0x80, 0x80, 0x80, 0x80, 0x80, 0x20, 0xfe, 0xff, 0xff, 0x3f, 0xfe, 0xff, 0xff, 0x3f},
		},
	}
}

// P6.1: the number of samples and their bytes, in a frame of the kind of traces.
func TestExamples(t *testing.T) {
	for _, c := range examples() {
		puts(t, c.l, summed(c.b))
		takes(t, summed(c.b), c.l)
	}
	// The whole of it, the checksum too.
	puts(t, nil, []byte{0xc7, 0x01, 0x01, 0x00, 0xd5, 0x52, 0x07, 0xd2})
}

// P6.1: as many samples as there may be, whose number has two bytes.
func TestMaxSamples(t *testing.T) {
	l := make([]api.Sample, api.MaxSamples)
	for i := range l {
		l[i].T = i
	}
	content := join([]byte{0x80, 0x10, 0, 0, 0}, bytes.Repeat([]byte{1, 0, 0}, api.MaxSamples-1))
	b := summed(join([]byte{0xc7, 1, 0x82, 0x30}, content))
	puts(t, l, b)
	takes(t, b, l)

	content = join([]byte{0xff, 0x0f, 0, 0, 0}, bytes.Repeat([]byte{1, 0, 0}, api.MaxSamples-2))
	b = summed(join([]byte{0xc7, 1, 0xff, 0x2f}, content))
	puts(t, l[:api.MaxSamples-1], b)
	takes(t, b, l[:api.MaxSamples-1])

	content = join([]byte{0x81, 0x10, 0, 0, 0}, bytes.Repeat([]byte{1, 0, 0}, api.MaxSamples))
	refuses(t, summed(join([]byte{0xc7, 1, 0x85, 0x30}, content)), api.ErrLimit)
	cannot(t, append(l, api.Sample{T: api.MaxSamples}), api.ErrLimit)
}

// P6.1: what layer 5 refuses has no frame, but its error.
func TestPutAsksLayer5(t *testing.T) {
	long := walk(3, api.MaxSamples+2, 1<<20)
	for _, count := range []int{api.MaxSamples + 1, api.MaxSamples + 2} {
		cannot(t, long[:count], api.ErrLimit)
		cannot(t, make([]api.Sample, count), api.ErrLimit)
		broken := slices.Clone(long[:count])
		broken[0].T = -1
		cannot(t, broken, api.ErrLimit)
	}
	cannot(t, make([]api.Sample, 100000), api.ErrLimit)
	cannot(t, make([]api.Sample, api.MaxSamples), api.ErrArg)
	for _, l := range [][]api.Sample{
		{{T: -1}}, {{X: -1}}, {{Y: -1}},
		{{T: api.MaxTime + 1}}, {{X: api.MaxCoord}}, {{Y: api.MaxCoord}},
		{{T: math.MinInt, X: math.MaxInt, Y: math.MinInt}},
		{{T: math.MaxInt, X: math.MinInt, Y: math.MaxInt}},
		{{T: 1}, {T: 2, X: -1}},
		{{T: 1}, {T: api.MaxTime + 1}},
		{{}, {}},
		{{T: 5}, {T: 5, X: 1}},
		{{T: 5}, {T: 4}},
		{{T: 5}, {T: 9}, {T: 7}},
		{{T: api.MaxTime}, {T: api.MaxTime}},
	} {
		cannot(t, l, api.ErrArg)
	}
	broken := slices.Clone(long[:api.MaxSamples])
	broken[api.MaxSamples-1].Y = api.MaxCoord
	cannot(t, broken, api.ErrArg)
}

// P6.1: what is no frame of a trace, with contents that would be read and ones that would not.
func TestTakeAsksLayer4(t *testing.T) {
	for _, content := range [][]byte{{0}, {1, 1, 4, 6}, {}, {0x80, 0}, {3, 0}, {0, 0}, plain(math.MaxUint64), {1, 0, 1, 0}} {
		b := framed(1, content)
		for kind := range 256 {
			if kind != api.KindTrace {
				refuses(t, framed(byte(kind), content), api.ErrForm)
				refuses(t, append(framed(byte(kind), content), 0), api.ErrForm)
			}
		}
		for _, rest := range [][]byte{{0}, {0xff}, {0xc7}, {0, 0, 0}, b} {
			refuses(t, join(b, rest), api.ErrExtra)
		}
		for k := range b {
			refuses(t, b[:k], api.ErrEnd)
		}
		for at := len(b) - 4 - len(content); at < len(b); at++ {
			for bit := range 8 {
				other := slices.Clone(b)
				other[at] ^= 1 << bit
				refuses(t, other, api.ErrSum)
			}
		}
		other := slices.Clone(b)
		other[0] = 0xc6
		refuses(t, other, api.ErrForm)
		refuses(t, content[:0], api.ErrEnd)
	}
	refuses(t, nil, api.ErrEnd)
	refuses(t, []byte{0}, api.ErrForm)
	refuses(t, []byte{0xc7}, api.ErrEnd)
	refuses(t, []byte{0xc7, 1, 0x80, 0}, api.ErrForm)
	refuses(t, join([]byte{0xc7, 1}, plain(api.MaxBytes+1)), api.ErrLimit)
	refuses(t, join([]byte{0xc7, 1}, plain(math.MaxUint64)), api.ErrLimit)
	refuses(t, framed(2, make([]byte, api.MaxBytes)), api.ErrForm)
	refuses(t, framed(1, make([]byte, api.MaxBytes)), api.ErrExtra)
	refuses(t, framed(1, make([]byte, api.MaxBytes+1)), api.ErrLimit)
}

// P6.1: the number of samples, which layer 3 refuses, whatever stands behind it.
func TestTakeNumber(t *testing.T) {
	nine := bytes.Repeat([]byte{0xff}, 9)
	zeros := bytes.Repeat([]byte{0x80}, 9)
	samples := sampled(walk(1, 30, 100))
	for _, rest := range [][]byte{nil, {0}, {0, 0, 0}, {0x80, 0}, samples} {
		for _, b := range [][]byte{{0x80, 0}, {0x81, 0}, {0x80, 0x80, 0}, join(zeros, []byte{0}), join(zeros, []byte{2}), join(nine, []byte{2}), join(nine, []byte{0x81})} {
			refuses(t, framed(1, b, rest), api.ErrForm)
		}
		for _, n := range []uint64{api.MaxSamples + 1, api.MaxSamples + 2, 2 * api.MaxSamples, api.MaxBytes, 1 << 31, 1 << 32, 1<<32 + 1, 1 << 62, 1<<62 + 1, 1<<63 - 1, 1 << 63, 1<<63 + 1, math.MaxUint64} {
			refuses(t, framed(1, plain(n), rest), api.ErrLimit)
		}
	}
	refuses(t, framed(1), api.ErrEnd)
	for k := 1; k <= 9; k++ {
		refuses(t, framed(1, nine[:k]), api.ErrEnd)
		refuses(t, framed(1, zeros[:k]), api.ErrEnd)
	}
	// As many samples as the number says do not help one that is too great.
	refuses(t, framed(1, plain(api.MaxSamples+1), sampled(walk(2, api.MaxSamples+1, 10))), api.ErrLimit)
	refuses(t, framed(1, plain(api.MaxSamples), sampled(walk(2, api.MaxSamples-1, 10))), api.ErrEnd)
	refuses(t, framed(1, plain(api.MaxSamples), sampled(walk(2, api.MaxSamples+1, 10))), api.ErrExtra)
}

// P6.1: a number of samples above or below what the content holds.
func TestTakeOtherNumber(t *testing.T) {
	for _, l := range lists() {
		b := sampled(l)
		for _, n := range []int{0, 1, 2, len(l) / 2, len(l) - 2, len(l) - 1, len(l), len(l) + 1, len(l) + 2, api.MaxSamples - 1, api.MaxSamples} {
			if n < 0 || n > api.MaxSamples {
				continue
			}
			switch frame := framed(1, plain(uint64(n)), b); {
			case n < len(l):
				refuses(t, frame, api.ErrExtra)
			case n > len(l):
				refuses(t, frame, api.ErrEnd)
			default:
				takes(t, frame, l)
			}
		}
	}
}

// P6.1: samples that layer 5 refuses, with and without bytes behind them.
func TestTakeAsksLayer5(t *testing.T) {
	first := stepped(7, 5, 6)
	last := sampled([]api.Sample{{T: api.MaxTime, X: corner, Y: corner}})
	for _, c := range []struct {
		name string
		n    uint64
		b    []byte
		want api.Errno
	}{
		{"a T in two bytes", 1, []byte{0x80, 0, 0, 0}, api.ErrForm},
		{"an X in two bytes", 1, []byte{0, 0x80, 0, 0}, api.ErrForm},
		{"a Y in two bytes", 1, []byte{0, 0, 0x80, 0}, api.ErrForm},
		{"a T above its limit", 1, stepped(api.MaxTime+1, 0, 0), api.ErrLimit},
		{"an X above its limit", 1, stepped(0, api.MaxCoord+1, 0), api.ErrLimit},
		{"a Y below its limit", 1, stepped(0, 0, -api.MaxCoord-1), api.ErrLimit},
		{"an X below 0", 1, stepped(0, -1, 0), api.ErrArg},
		{"a Y below 0", 1, stepped(0, 0, -1), api.ErrArg},
		{"an X at MaxCoord", 1, stepped(0, api.MaxCoord, 0), api.ErrArg},
		{"a Y at MaxCoord", 1, stepped(0, 0, api.MaxCoord), api.ErrArg},
		{"a T as before", 2, join(first, stepped(0, 1, 1)), api.ErrArg},
		{"a second T above its limit", 2, join(first, stepped(api.MaxTime+1, 0, 0)), api.ErrLimit},
		{"a second T above MaxTime", 2, join(last, stepped(1, 0, 0)), api.ErrArg},
		{"a second X below 0", 2, join(first, stepped(1, -6, 0)), api.ErrArg},
		{"a second Y in two bytes", 2, join(first, []byte{1, 0, 0x80, 0}), api.ErrForm},
		{"a third T as before", 3, join(first, stepped(1, 0, 0), stepped(0, 0, 0)), api.ErrArg},
		{"an X below 0, of more samples than there are", 9, stepped(0, -1, 0), api.ErrArg},
		{"an X above its limit, of as many as there may be", api.MaxSamples, stepped(0, api.MaxCoord+1, 0), api.ErrLimit},
	} {
		t.Run(c.name, func(t *testing.T) {
			refuses(t, framed(1, plain(c.n), c.b), c.want)
			refuses(t, framed(1, plain(c.n), c.b, []byte{0}), c.want)
			refuses(t, framed(1, plain(c.n), c.b, first, first), c.want)
			refuses(t, append(framed(1, plain(c.n), c.b), 0), api.ErrExtra)
			refuses(t, framed(4, plain(c.n), c.b), api.ErrForm)
		})
	}
}

// P6.1: bytes that remain behind the samples, and bytes that are missing, within a right frame.
func TestTakeOtherLength(t *testing.T) {
	for _, l := range lists() {
		b := join(plain(uint64(len(l))), sampled(l))
		for _, rest := range [][]byte{{0}, {0x80}, {0xff}, {1, 0, 0}, {0, 0, 0}, {0x80, 0}, bytes.Repeat([]byte{0xff}, 50), b} {
			refuses(t, framed(1, b, rest), api.ErrExtra)
		}
		refuses(t, append(framed(1, b), 0), api.ErrExtra)
		step := max(1, len(b)/200)
		for k := 0; k < len(b); k += step {
			refuses(t, framed(1, b[:k]), api.ErrEnd)
		}
		refuses(t, framed(1, b[:len(b)-1]), api.ErrEnd)
	}
}

// P6.3: Take inverts Put, and Put gives the frame that Take took.
func TestTakeInvertsPut(t *testing.T) {
	for _, l := range lists() {
		b, e := trace.Put(l)
		if e != api.OK {
			t.Fatalf("Put(%d samples: %v): error %d", len(l), front(l), e)
		}
		if !bytes.Equal(b, made(l)) {
			t.Errorf("Put(%d samples: %v) = % x, want % x", len(l), front(l), front(b), front(made(l)))
		}
		takes(t, b, l)
		m, _ := trace.Take(b)
		puts(t, m, b)
	}
}

// holds asks that Between selects the samples that the document says.
func holds(t *testing.T, l []api.Sample, from, to int) {
	t.Helper()
	var want []api.Sample
	for _, s := range l {
		if from <= s.T && s.T <= to {
			want = append(want, s)
		}
	}
	if got := trace.Between(l, from, to); !slices.Equal(got, want) {
		t.Errorf("Between(%d samples: %v, %d, %d) = %v, want %v", len(l), front(l), from, to, front(got), front(want))
	}
}

// bounds is numbers of all sizes, that may be where a time begins or ends.
func bounds() []int {
	return []int{
		math.MinInt, math.MinInt + 1, -1 << 62, -api.MaxTime, -2, -1, 0, 1, 2,
		api.MaxTime - 1, api.MaxTime, api.MaxTime + 1, 1 << 41, 1 << 62, math.MaxInt - 1, math.MaxInt,
	}
}

// P6.2: Between, at a sample's T and just beside it.
func TestBetweenAtTheEdges(t *testing.T) {
	a, b, c := api.Sample{T: 10, X: 1, Y: 2}, api.Sample{T: 40, X: 4, Y: 2}, api.Sample{T: 50, X: 4, Y: 9}
	for _, v := range []struct {
		from, to int
		want     []api.Sample
	}{
		{10, 50, []api.Sample{a, b, c}},
		{9, 51, []api.Sample{a, b, c}},
		{11, 50, []api.Sample{b, c}},
		{10, 49, []api.Sample{a, b}},
		{11, 49, []api.Sample{b}},
		{40, 40, []api.Sample{b}},
		{10, 10, []api.Sample{a}},
		{50, 50, []api.Sample{c}},
		{41, 49, nil},
		{39, 39, nil},
		{41, 41, nil},
		{0, 9, nil},
		{51, 100, nil},
		{0, 10, []api.Sample{a}},
		{50, 100, []api.Sample{c}},
		{41, 40, nil},
		{40, 39, nil},
		{50, 10, nil},
		{51, 9, nil},
		{-1, 40, []api.Sample{a, b}},
		{-10, -1, nil},
		{-50, -10, nil},
		{math.MinInt, math.MaxInt, []api.Sample{a, b, c}},
		{math.MaxInt, math.MinInt, nil},
		{math.MinInt, 10, []api.Sample{a}},
		{50, math.MaxInt, []api.Sample{c}},
		{math.MinInt, 9, nil},
		{51, math.MaxInt, nil},
		{math.MinInt, math.MinInt, nil},
		{math.MaxInt, math.MaxInt, nil},
	} {
		if got := trace.Between([]api.Sample{a, b, c}, v.from, v.to); !slices.Equal(got, v.want) {
			t.Errorf("Between(%d, %d) = %v, want %v", v.from, v.to, got, v.want)
		}
	}
	for _, v := range []struct{ from, to, want int }{{0, 0, 1}, {-1, 0, 1}, {0, 1, 1}, {-1, -1, 0}, {1, 1, 0}, {1, 0, 0}, {0, -1, 0}} {
		if got := trace.Between([]api.Sample{{}}, v.from, v.to); len(got) != v.want {
			t.Errorf("Between of a sample at 0: (%d, %d) = %v", v.from, v.to, got)
		}
	}
}

// P6.2: Between of samples of all kinds, with bounds at, beside and beyond them.
func TestBetween(t *testing.T) {
	for _, l := range lists() {
		at := bounds()
		for k := 0; k < len(l); k += max(1, len(l)/4) {
			at = append(at, l[k].T-1, l[k].T, l[k].T+1)
		}
		for _, from := range at {
			for _, to := range at {
				holds(t, l, from, to)
			}
		}
	}
}

// P6.2: Between asks for the T alone, of however many samples in whichever order.
func TestBetweenOfAnySamples(t *testing.T) {
	l := []api.Sample{
		{T: 5, X: -1, Y: 1}, {T: 3}, {T: 5, X: 2}, {T: -4, X: math.MinInt, Y: math.MaxInt}, {T: 5, X: -1, Y: 1},
		{T: math.MaxInt}, {T: math.MinInt, Y: 7}, {T: 3, Y: 9}, {T: api.MaxTime + 1}, {T: 4, X: api.MaxCoord},
	}
	at := append(bounds(), -5, -4, -3, 3, 4, 5, 6)
	for _, from := range at {
		for _, to := range at {
			holds(t, l, from, to)
		}
	}
	if got := trace.Between(l, 5, 5); !slices.Equal(got, []api.Sample{l[0], l[2], l[4]}) {
		t.Errorf("Between(5, 5) = %v", got)
	}
	long := walk(6, 3*api.MaxSamples, 50)
	for _, k := range []int{0, 1, api.MaxSamples, 2 * api.MaxSamples} {
		if got := trace.Between(long, long[k].T, math.MaxInt); !slices.Equal(got, long[k:]) {
			t.Errorf("Between of %d samples from the one at %d = %d samples", len(long), k, len(got))
		}
	}
	slices.Reverse(long)
	holds(t, long, long[4000].T, long[10].T)
}

// measures asks for a stretch's length and its gap.
func measures(t *testing.T, l []api.Sample, length, gap int) {
	t.Helper()
	if got := trace.Length(l); got != length {
		t.Errorf("Length(%d samples: %v) = %d, want %d", len(l), front(l), got, length)
	}
	if got := trace.Gap(l); got != gap {
		t.Errorf("Gap(%d samples: %v) = %d, want %d", len(l), front(l), got, gap)
	}
}

// P6.2: Length and Gap of stretches that are written out by hand.
func TestLengthAndGap(t *testing.T) {
	for _, c := range []struct {
		name        string
		l           []api.Sample
		length, gap int
	}{
		{"no sample, nil", nil, 0, 0},
		{"no sample", []api.Sample{}, 0, 0},
		{"one, at 0", []api.Sample{{}}, 0, 0},
		{"one, elsewhere", []api.Sample{{T: 9, X: 7, Y: 8}}, 0, 0},
		{"one, at the end of all", []api.Sample{{T: api.MaxTime, X: corner, Y: corner}}, 0, 0},
		{"the document's", []api.Sample{{T: 0}, {T: 1, X: 3, Y: 1}, {T: 2, X: 3, Y: 9}}, 11, 1},
		{"none changes", []api.Sample{{T: 1, X: 5, Y: 5}, {T: 3, X: 5, Y: 5}}, 0, 2},
		{"X alone, up", []api.Sample{{T: 1, X: 5, Y: 5}, {T: 2, X: 12, Y: 5}}, 7, 1},
		{"X alone, down", []api.Sample{{T: 1, X: 12, Y: 5}, {T: 2, X: 5, Y: 5}}, 7, 1},
		{"Y alone, up", []api.Sample{{T: 1, X: 5, Y: 5}, {T: 2, X: 5, Y: 12}}, 7, 1},
		{"Y alone, down", []api.Sample{{T: 1, X: 5, Y: 12}, {T: 2, X: 5, Y: 5}}, 7, 1},
		{"both up, X more", []api.Sample{{T: 1}, {T: 2, X: 9, Y: 4}}, 9, 1},
		{"both up, Y more", []api.Sample{{T: 1}, {T: 2, X: 4, Y: 9}}, 9, 1},
		{"both down, X more", []api.Sample{{T: 1, X: 9, Y: 4}, {T: 2}}, 9, 1},
		{"both down, Y more", []api.Sample{{T: 1, X: 4, Y: 9}, {T: 2}}, 9, 1},
		{"X up, Y down more", []api.Sample{{T: 1, X: 4, Y: 9}, {T: 2, X: 6, Y: 1}}, 8, 1},
		{"X up more, Y down", []api.Sample{{T: 1, X: 4, Y: 9}, {T: 2, X: 14, Y: 1}}, 10, 1},
		{"X down, Y up more", []api.Sample{{T: 1, X: 4, Y: 2}, {T: 2, X: 1, Y: 9}}, 7, 1},
		{"X down more, Y up", []api.Sample{{T: 1, X: 9, Y: 2}, {T: 2, X: 1, Y: 5}}, 8, 1},
		{"equal, both up", []api.Sample{{T: 1}, {T: 2, X: 6, Y: 6}}, 6, 1},
		{"equal, both down", []api.Sample{{T: 1, X: 6, Y: 6}, {T: 2}}, 6, 1},
		{"equal, one up and one down", []api.Sample{{T: 1, X: 6}, {T: 2, Y: 6}}, 6, 1},
		{"there and back", []api.Sample{{T: 1}, {T: 2, X: 6}, {T: 3}}, 12, 1},
		{"X more, then Y more", []api.Sample{{T: 1}, {T: 2, X: 5, Y: 2}, {T: 3, X: 7, Y: 8}}, 11, 1},
		{"the greatest gap is the first", []api.Sample{{T: 1}, {T: 9}, {T: 12}, {T: 13}}, 0, 8},
		{"the greatest gap is in between", []api.Sample{{T: 1}, {T: 4}, {T: 12}, {T: 13}}, 0, 8},
		{"the greatest gap is the last", []api.Sample{{T: 1}, {T: 2}, {T: 5}, {T: 13}}, 0, 8},
		{"equal gaps", []api.Sample{{T: 1}, {T: 4}, {T: 7}, {T: 10}}, 0, 3},
		{"a late beginning is no gap", []api.Sample{{T: 1000, X: 900, Y: 800}, {T: 1002, X: 901, Y: 803}}, 3, 2},
		{"the greatest of all", []api.Sample{{T: 0, X: corner}, {T: api.MaxTime, Y: corner}}, corner, api.MaxTime},
		{"X from corner to corner", []api.Sample{{T: 0, X: corner, Y: 1}, {T: 1}, {T: 2, X: corner}}, 2 * corner, 1},
	} {
		t.Run(c.name, func(t *testing.T) { measures(t, c.l, c.length, c.gap) })
	}
}

// change is by how much a coordinate changed, as a square's root, so that it is worked out otherwise.
func change(a, b int) int {
	d := float64(a) - float64(b)
	return int(math.Sqrt(d * d))
}

// P6.2: Length and Gap of samples of all kinds, and of more than a trace has.
func TestLengthAndGapOfAll(t *testing.T) {
	for _, l := range append(lists(), walk(7, 3*api.MaxSamples, 1<<20)) {
		length, gap := 0, 0
		for i := range l {
			if i > 0 {
				x, y := change(l[i].X, l[i-1].X), change(l[i].Y, l[i-1].Y)
				if x < y {
					x = y
				}
				length += x
				if l[i].T-l[i-1].T > gap {
					gap = l[i].T - l[i-1].T
				}
			}
		}
		measures(t, l, length, gap)
	}
	swing := make([]api.Sample, api.MaxSamples)
	for i := range swing {
		swing[i] = api.Sample{T: i * (api.MaxTime / api.MaxSamples), X: i % 2 * corner}
	}
	measures(t, swing, (api.MaxSamples-1)*corner, api.MaxTime/api.MaxSamples)
}

// P6.3: the lengths of two stretches that share a sample add up to the length of both together.
func TestStretchesThatShareASample(t *testing.T) {
	for _, l := range lists() {
		step := max(1, len(l)/40)
		for k := 0; k < len(l); k += step {
			if first, second, both := trace.Length(l[:k+1]), trace.Length(l[k:]), trace.Length(l); first+second != both {
				t.Errorf("%v: lengths up to %d and from there: %d + %d, want %d", front(l), k, first, second, both)
			}
			first, second := trace.Between(l, 0, l[k].T), trace.Between(l, l[k].T, api.MaxTime)
			if got, want := trace.Length(first)+trace.Length(second), trace.Length(l); got != want {
				t.Errorf("%v: lengths until %d and from then: %d, want %d", front(l), l[k].T, got, want)
			}
		}
	}
}

// P6.1, P6.2: no call changes its arguments, or keeps them, and each result is memory of its own.
func TestMemory(t *testing.T) {
	l := walk(8, 50, 1000)
	before := slices.Clone(l)
	b, _ := trace.Put(l)
	other, _ := trace.Put(l)
	some := trace.Between(l, 0, api.MaxTime)
	again := trace.Between(l, 0, api.MaxTime)
	trace.Length(l)
	trace.Gap(l)
	if !slices.Equal(l, before) {
		t.Error("a call changed its samples")
	}
	clear(l)
	clear(other)
	clear(again)
	if !bytes.Equal(b, made(before)) || !slices.Equal(some, before) {
		t.Error("an answer changes with the samples, or with another answer")
	}
	first, _ := trace.Take(b)
	second, _ := trace.Take(b)
	if !bytes.Equal(b, made(before)) {
		t.Error("Take changed its bytes")
	}
	clear(b)
	clear(second)
	if !slices.Equal(first, before) {
		t.Error("samples change with the bytes, or with other samples")
	}
}

// P6.1, P6.2: nothing behind an argument's end is read or written.
func TestSpareCapacity(t *testing.T) {
	l := walk(8, 50, 1000)
	want := slices.Clone(l)
	b := join(made(l[:20]), made(l))
	puts(t, l[10:20], made(l[10:20]))
	puts(t, l[:0], made(nil))
	takes(t, b[:len(made(l[:20]))], l[:20])
	refuses(t, b[:len(made(l[:20]))-1], api.ErrEnd)
	refuses(t, b[:0], api.ErrEnd)
	holds(t, l[10:20], 0, api.MaxTime)
	measures(t, l[10:11], 0, 0)
	if !slices.Equal(l, want) || !bytes.Equal(b, join(made(want[:20]), made(want))) {
		t.Error("a call wrote behind its argument")
	}
}

// number is the number that bytes begin with, up to most, as the document says it.
func number(b []byte, most uint64) (uint64, int, api.Errno) {
	n, size := binary.Uvarint(b)
	switch {
	case size == 0 && len(b) < 10:
		return 0, 0, api.ErrEnd
	case size <= 0 || size > 1 && b[size-1] == 0:
		return 0, 0, api.ErrForm
	case n > most:
		return 0, 0, api.ErrLimit
	}
	return n, size, api.OK
}

// signed is the signed number of a code.
func signed(code uint64) int {
	return int(int64(code>>1) ^ -int64(code&1))
}

// right tells whether a sample is one, above the T of the one ahead of it.
func right(s api.Sample, after int) bool {
	return after < s.T && s.T <= 1<<40 && 0 <= s.X && s.X < 1<<26 && 0 <= s.Y && s.Y < 1<<26
}

// inside is the trace of a frame's content, as the document says it, without the layers below.
func inside(content []byte) ([]api.Sample, api.Errno) {
	n, used, e := number(content, 2048)
	if e != api.OK {
		return nil, e
	}
	var l []api.Sample
	last := api.Sample{T: -1}
	for uint64(len(l)) < n {
		var codes [3]uint64
		// The code of -MaxCoord is the one below that of MaxCoord.
		for i, most := range []uint64{1 << 40, 1 << 27, 1 << 27} {
			code, size, e := number(content[used:], most)
			if e != api.OK {
				return nil, e
			}
			codes[i] = code
			used += size
		}
		s := api.Sample{T: max(last.T, 0) + int(codes[0]), X: last.X + signed(codes[1]), Y: last.Y + signed(codes[2])}
		if !right(s, last.T) {
			return nil, api.ErrArg
		}
		l = append(l, s)
		last = s
	}
	if used < len(content) {
		return nil, api.ErrExtra
	}
	return l, api.OK
}

// read is what Take has to return, as the document says it, without the layers below.
func read(b []byte) ([]api.Sample, api.Errno) {
	switch {
	case len(b) == 0:
		return nil, api.ErrEnd
	case b[0] != 0xc7:
		return nil, api.ErrForm
	case len(b) == 1:
		return nil, api.ErrEnd
	}
	n, size, e := number(b[2:], 1<<20)
	if e != api.OK {
		return nil, e
	}
	end := 2 + size + int(n)
	switch {
	case len(b) < end+4:
		return nil, api.ErrEnd
	case !bytes.Equal(summed(b[:end]), b[:end+4]):
		return nil, api.ErrSum
	case b[1] != 1:
		return nil, api.ErrForm
	case len(b) > end+4:
		return nil, api.ErrExtra
	}
	return inside(b[2+size : end])
}

// same asks that Take and the model of it agree, and that Put gives back what was taken.
func same(t *testing.T, b []byte) {
	t.Helper()
	l, e := read(b)
	if e == api.OK {
		takes(t, b, l)
		puts(t, l, b)
	} else {
		refuses(t, b, e)
	}
}

// P6.1, P6.3: frames and contents with one byte that is another one.
func TestTakeOfOtherBytes(t *testing.T) {
	for seed := range 12 {
		l := walk(uint64(seed), 5, 1<<(3*seed))
		b := made(l)
		for at := range b {
			other := slices.Clone(b)
			for c := range 256 {
				other[at] = byte(c)
				same(t, other)
			}
		}
		content := join(plain(uint64(len(l))), sampled(l))
		for at := range content {
			other := slices.Clone(content)
			for c := range 256 {
				other[at] = byte(c)
				same(t, framed(1, other))
			}
		}
	}
}

// P6.1, P6.3 for bytes of any kind, as they are and within a right frame.
func FuzzTake(f *testing.F) {
	for _, c := range examples() {
		f.Add(summed(c.b))
		f.Add(c.b[3:])
		f.Add(append(slices.Clone(c.b[3:]), 0))
	}
	f.Add([]byte{})
	f.Add([]byte{0x80, 0})
	f.Add(plain(api.MaxSamples + 1))
	f.Add([]byte{2, 0, 1, 0, 1, 2, 0})
	f.Add([]byte{2, 7, 0, 0, 0, 0, 0})
	f.Fuzz(func(t *testing.T, b []byte) {
		before := slices.Clone(b)
		same(t, b)
		same(t, framed(1, b))
		same(t, framed(2, b))
		if !bytes.Equal(b, before) {
			t.Errorf("% x was changed to % x", before, b)
		}
	})
}

// P6.2 for any numbers: Between of any samples, all five calls without an end of the program.
func FuzzBetween(f *testing.F) {
	f.Add(1, 2, 3, 5, 1, 3, 1, 5)
	f.Add(0, 0, 0, api.MaxTime, corner, corner, -1, api.MaxTime)
	f.Add(5, 0, 0, 5, 0, 0, 6, 5)
	f.Add(math.MinInt, math.MaxInt, math.MinInt, math.MaxInt, math.MinInt, math.MaxInt, math.MinInt, math.MaxInt)
	f.Fuzz(func(t *testing.T, t1, x1, y1, t2, x2, y2, from, to int) {
		l := []api.Sample{{T: t1, X: x1, Y: y1}, {T: t2, X: x2, Y: y2}}
		for _, part := range [][]api.Sample{l, l[:1], l[1:], {l[1], l[0]}, {l[0], l[1], l[0]}} {
			holds(t, part, from, to)
			trace.Length(part)
			trace.Gap(part)
		}
		if !right(l[0], -1) || !right(l[1], t1) {
			cannot(t, l, api.ErrArg)
			return
		}
		puts(t, l, made(l))
		takes(t, made(l), l)
		measures(t, l, max(change(x1, x2), change(y1, y2)), t2-t1)
	})
}
