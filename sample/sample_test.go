package sample_test

import (
	"bytes"
	"encoding/binary"
	"math"
	"slices"
	"testing"

	"viaticum/api"
	"viaticum/sample"
)

const corner = api.MaxCoord - 1 // the greatest coordinate

// wild is numbers that are out of every bound, or at its edges.
func wild() []int {
	return []int{
		-1, -2, -api.MaxCoord, -api.MaxTime, math.MinInt32, -1 << 62, math.MinInt + 1, math.MinInt,
		api.MaxTime + 1, api.MaxTime + 2, 1 << 41, 1 << 62, 1<<63 - 2, math.MaxInt,
	}
}

// join is bytes behind each other, in memory of their own.
func join(parts ...[]byte) []byte {
	return slices.Concat(parts...)
}

// plain is the bytes of numbers, without the layers below.
func plain(numbers ...uint64) []byte {
	var b []byte
	for _, n := range numbers {
		b = binary.AppendUvarint(b, n)
	}
	return b
}

// stepped is the bytes of one step, however great, as the document says them.
func stepped(t uint64, x, y int64) []byte {
	return binary.AppendVarint(binary.AppendVarint(plain(t), x), y)
}

// made is the bytes of samples as the document says them.
func made(l []api.Sample) []byte {
	var b []byte
	var last api.Sample
	for _, s := range l {
		b = append(b, stepped(uint64(s.T-last.T), int64(s.X-last.X), int64(s.Y-last.Y))...)
		last = s
	}
	return b
}

// right tells whether a sample is one, as the document says it.
func right(s api.Sample) bool {
	return 0 <= s.T && s.T <= 1<<40 && 0 <= s.X && s.X <= 1<<26-1 && 0 <= s.Y && s.Y <= 1<<26-1
}

// sequence tells whether samples may be put.
func sequence(l []api.Sample) bool {
	for i, s := range l {
		if !right(s) || i > 0 && s.T <= l[i-1].T {
			return false
		}
	}
	return true
}

// noise is numbers that are spread over all values, the same ones for the same seed.
func noise(seed uint64) func() uint64 {
	x := seed*2654435761 + 88172645463325252
	return func() uint64 {
		x ^= x << 13
		x ^= x >> 7
		x ^= x << 17
		return x
	}
}

// walk is count samples in sequence, with steps of all sizes, at most reach in time.
func walk(seed uint64, count, reach int) []api.Sample {
	next := noise(seed)
	at := func(most int) int {
		return int(next() >> (next() % 63) % uint64(most))
	}
	l := make([]api.Sample, count)
	t := at(reach)
	for i := range l {
		l[i] = api.Sample{T: t, X: at(api.MaxCoord), Y: at(api.MaxCoord)}
		t += 1 + at(reach)
	}
	return l
}

// lists is samples in sequence, of many kinds.
func lists() [][]api.Sample {
	out := [][]api.Sample{
		nil,
		{},
		{{}},
		{{T: 1, X: 2, Y: 3}},
		{{T: api.MaxTime, X: corner, Y: corner}},
		{{}, {T: 1}},
		{{}, {T: api.MaxTime}},
		{{T: api.MaxTime - 1}, {T: api.MaxTime}},
		{{T: 7, X: 5, Y: 6}, {T: 8, X: 5, Y: 6}, {T: 9, X: 5, Y: 6}},
		{{T: 0, X: corner}, {T: 1, Y: corner}, {T: 2, X: corner}, {T: 3, X: corner, Y: corner}, {T: 4}},
		{{T: 10, X: 100, Y: 200}, {T: 12, X: 90, Y: 205}, {T: 400, X: 90, Y: 0}},
	}
	for k := range 30 {
		out = append(out, walk(uint64(k), k+1, 1<<(k+5)))
	}
	return append(out, walk(50, api.MaxSamples-1, 1<<20), walk(51, api.MaxSamples, 1<<29), walk(52, api.MaxSamples, 1))
}

// puts asks that samples have these bytes.
func puts(t *testing.T, l []api.Sample, want []byte) {
	t.Helper()
	if b, e := sample.Put(l); !bytes.Equal(b, want) || e != api.OK {
		t.Errorf("Put(%d samples: %v) = % x, error %d, want % x", len(l), l[:min(len(l), 5)], b[:min(len(b), 40)], e, want[:min(len(want), 40)])
	}
}

// cannot asks that samples have no bytes, but an error.
func cannot(t *testing.T, l []api.Sample, want api.Errno) {
	t.Helper()
	if b, e := sample.Put(l); len(b) != 0 || e != want {
		t.Errorf("Put(%d samples: %v) = % x, error %d, want error %d", len(l), l[:min(len(l), 5)], b[:min(len(b), 40)], e, want)
	}
}

// takes asks that bytes begin with these samples, which have so many bytes.
func takes(t *testing.T, b []byte, l []api.Sample, used int) {
	t.Helper()
	m, n, e := sample.Take(b, len(l))
	if !slices.Equal(m, l) || n != used || e != api.OK {
		t.Errorf("Take(%d bytes: % x, %d) = %d samples: %v, %d, error %d, want %v, %d", len(b), b[:min(len(b), 40)], len(l), len(m), m[:min(len(m), 5)], n, e, l[:min(len(l), 5)], used)
	}
}

// refuses asks that Take has an error, and no other result.
func refuses(t *testing.T, b []byte, n int, want api.Errno) {
	t.Helper()
	l, used, e := sample.Take(b, n)
	if len(l) != 0 || used != 0 || e != want {
		t.Errorf("Take(%d bytes: % x, %d) = %v, %d, error %d, want error %d", len(b), b[:min(len(b), 40)], n, l[:min(len(l), 5)], used, e, want)
	}
}

// P5.1: a sample has its T from 0 to MaxTime, its X and Y from 0 to MaxCoord - 1.
func TestMay(t *testing.T) {
	times := append(wild(), 0, 1, 2, api.MaxCoord, api.MaxTime/2, api.MaxTime-1, api.MaxTime)
	places := append(wild(), 0, 1, 2, 3, api.MaxCoord/2, corner-1, corner, api.MaxCoord, api.MaxCoord+1, 2*api.MaxCoord, api.MaxTime, 1<<32, 1<<32+1)
	for _, at := range times {
		for _, x := range places {
			for _, y := range places {
				s := api.Sample{T: at, X: x, Y: y}
				if got := sample.May(s); got != right(s) {
					t.Errorf("May(%v) = %v", s, got)
				}
			}
		}
	}
}

// P5.1: each bound of a sample alone.
func TestMayAtTheEdges(t *testing.T) {
	for _, c := range []struct {
		s    api.Sample
		want bool
	}{
		{api.Sample{}, true},
		{api.Sample{T: 1, X: 2, Y: 3}, true},
		{api.Sample{T: 1099511627776, X: 67108863, Y: 67108863}, true},
		{api.Sample{T: 1099511627777}, false},
		{api.Sample{X: 67108864}, false},
		{api.Sample{Y: 67108864}, false},
		{api.Sample{T: -1}, false},
		{api.Sample{X: -1}, false},
		{api.Sample{Y: -1}, false},
		{api.Sample{T: 1 << 39, X: -1, Y: 5}, false},
		{api.Sample{T: -1, X: -1, Y: -1}, false},
	} {
		if got := sample.May(c.s); got != c.want {
			t.Errorf("May(%v) = %v", c.s, got)
		}
	}
}

// steps is samples and their bytes, written out by hand.
type steps struct {
	l []api.Sample
	b []byte
}

func examples() []steps {
	return []steps{
		{nil, nil},
		{[]api.Sample{}, nil},
		{[]api.Sample{{}}, []byte{0, 0, 0}},
		{[]api.Sample{{T: 1, X: 2, Y: 3}}, []byte{1, 4, 6}},
		{[]api.Sample{{T: 0, X: 2, Y: 3}}, []byte{0, 4, 6}},
		{[]api.Sample{{T: 1, X: 2, Y: 3}, {T: 2, X: 2, Y: 3}}, []byte{1, 4, 6, 1, 0, 0}},
		{[]api.Sample{{T: 1, X: 2, Y: 3}, {T: 5, X: 1, Y: 3}}, []byte{1, 4, 6, 4, 1, 0}},
		{[]api.Sample{{T: 1, X: 2, Y: 3}, {T: 5, X: 0, Y: 8}, {T: 300, X: 1, Y: 0}}, []byte{1, 4, 6, 4, 3, 10, 0xa7, 2, 2, 15}},
		{[]api.Sample{{}, {T: 1}}, []byte{0, 0, 0, 1, 0, 0}},
		{[]api.Sample{{T: 127, X: 63, Y: 64}, {T: 255, X: 127, Y: 127}}, []byte{0x7f, 0x7e, 0x80, 1, 0x80, 1, 0x80, 1, 0x7e}},
		{[]api.Sample{{T: 300, X: 64, Y: 65}, {T: 301, X: 0, Y: 0}}, []byte{0xac, 2, 0x80, 1, 0x82, 1, 1, 0x7f, 0x81, 1}},
		{
			[]api.Sample{{T: api.MaxTime, X: corner, Y: corner}},
			[]byte{0x80, 0x80, 0x80, 0x80, 0x80, 0x20, 0xfe, 0xff, 0xff, 0x3f, 0xfe, 0xff, 0xff, 0x3f},
		},
		{
			[]api.Sample{{T: 0, X: corner, Y: 0}, {T: api.MaxTime, X: 0, Y: corner}},
			[]byte{0, 0xfe, 0xff, 0xff, 0x3f, 0, 0x80, 0x80, 0x80, 0x80, 0x80, 0x20, 0xfd, 0xff, 0xff, 0x3f, 0xfe, 0xff, 0xff, 0x3f},
		},
	}
}

// P5.1, P5.2: the bytes of all steps, the first one of which is from 0, 0, 0.
func TestExamples(t *testing.T) {
	for _, c := range examples() {
		puts(t, c.l, c.b)
		takes(t, c.b, c.l, len(c.b))
		takes(t, append(slices.Clone(c.b), 0xff, 0), c.l, len(c.b))
	}
}

// P5.1: Put gives the steps of samples of all kinds.
func TestPut(t *testing.T) {
	for _, l := range lists() {
		if !sequence(l) {
			t.Fatalf("the test's own samples are not in sequence: %v", l)
		}
		puts(t, l, made(l))
	}
}

// P5.1: there may be MaxSamples samples, and no more, whatever they are.
func TestPutAtTheLimit(t *testing.T) {
	long := walk(3, api.MaxSamples+2, 1<<20)
	for _, count := range []int{api.MaxSamples - 1, api.MaxSamples} {
		puts(t, long[:count], made(long[:count]))
	}
	for _, count := range []int{api.MaxSamples + 1, api.MaxSamples + 2} {
		cannot(t, long[:count], api.ErrLimit)
		cannot(t, make([]api.Sample, count), api.ErrLimit)
		broken := slices.Clone(long[:count])
		broken[0].T = -1
		cannot(t, broken, api.ErrLimit)
	}
	cannot(t, make([]api.Sample, 100000), api.ErrLimit)
	cannot(t, make([]api.Sample, api.MaxSamples), api.ErrArg)
}

// P5.1: what is not a sample is refused, wherever it stands.
func TestPutAsksForSamples(t *testing.T) {
	for _, count := range []int{1, 2, 3, 10} {
		for at := range count {
			for _, n := range append(wild(), api.MaxCoord, api.MaxCoord+1) {
				l := walk(uint64(count), count, 1000)
				l[at].X = n
				cannot(t, l, api.ErrArg)
				l = walk(uint64(count), count, 1000)
				l[at].Y = n
				cannot(t, l, api.ErrArg)
			}
			for _, n := range wild() {
				l := walk(uint64(count), count, 1000)
				l[at].T = n
				cannot(t, l, api.ErrArg)
			}
		}
	}
	long := walk(9, api.MaxSamples, 1000)
	for _, at := range []int{0, 1, api.MaxSamples / 2, api.MaxSamples - 2, api.MaxSamples - 1} {
		broken := slices.Clone(long)
		broken[at].Y = api.MaxCoord
		cannot(t, broken, api.ErrArg)
	}
	cannot(t, []api.Sample{{T: -5}, {T: -4}}, api.ErrArg)
	cannot(t, []api.Sample{{T: api.MaxTime}, {T: api.MaxTime + 1}}, api.ErrArg)
	cannot(t, []api.Sample{{T: math.MinInt, X: math.MaxInt, Y: math.MinInt}, {T: math.MaxInt, X: math.MinInt, Y: math.MaxInt}}, api.ErrArg)
}

// P5.1: each T is above the preceding one; the first one may be any.
func TestPutAsksForTheSequence(t *testing.T) {
	long := walk(4, 40, 1000)
	for at := 1; at < len(long); at++ {
		for _, back := range []int{0, 1, 2, long[at-1].T} {
			l := slices.Clone(long)
			l[at].T = l[at-1].T - back
			cannot(t, l, api.ErrArg)
		}
		l := slices.Clone(long)
		l[at-1], l[at] = l[at], l[at-1]
		cannot(t, l, api.ErrArg)
		l = slices.Clone(long[:at+1])
		l[at].T = l[at-1].T + 1
		puts(t, l, made(l))
	}
	cannot(t, []api.Sample{{}, {}}, api.ErrArg)
	cannot(t, []api.Sample{{T: 5}, {T: 5, X: 1}}, api.ErrArg)
	cannot(t, []api.Sample{{T: 5}, {T: 9}, {T: 7}}, api.ErrArg)
	cannot(t, []api.Sample{{T: api.MaxTime}, {T: api.MaxTime}}, api.ErrArg)
	cannot(t, []api.Sample{{T: api.MaxTime}, {T: 0}}, api.ErrArg)
	for _, first := range []int{0, 1, 1 << 20, api.MaxTime} {
		puts(t, []api.Sample{{T: first}}, made([]api.Sample{{T: first}}))
	}
}

// P5.2: n is from 0 to MaxSamples, whatever the bytes are.
func TestTakeAsksForTheNumber(t *testing.T) {
	long := made(walk(5, api.MaxSamples, 1))
	more := join(long, stepped(1, 0, 0), stepped(1, 0, 0))
	for _, b := range [][]byte{nil, {0}, {0, 0, 0}, {0x80, 0}, {0xff}, long, more, bytes.Repeat([]byte{0xff}, 99)} {
		for _, n := range []int{-1, -2, -api.MaxSamples, math.MinInt32, math.MinInt, api.MaxSamples + 1, api.MaxSamples + 2, 1 << 32, 1<<32 + 1, math.MaxInt} {
			refuses(t, b, n, api.ErrLimit)
		}
		takes(t, b, nil, 0)
	}
	takes(t, more, walk(5, api.MaxSamples, 1), len(long))
	refuses(t, long[:len(long)-1], api.MaxSamples, api.ErrEnd)
	refuses(t, nil, api.MaxSamples, api.ErrEnd)
	refuses(t, nil, 1, api.ErrEnd)
}

// P5.2: the samples that bytes begin with, and the number of their bytes, also if more samples follow.
func TestTakeOfEachBeginning(t *testing.T) {
	for _, l := range lists() {
		b := made(l)
		step := max(1, len(l)/50)
		for k := 0; k <= len(l); k += step {
			takes(t, b, l[:k], len(made(l[:k])))
		}
		want := api.ErrEnd
		if len(l) == api.MaxSamples {
			want = api.ErrLimit
		}
		refuses(t, b, len(l)+1, want)
	}
}

// P5.2: bytes that end within a step, wherever they do.
func TestTakeCutOff(t *testing.T) {
	for _, l := range lists() {
		b := made(l)
		step := max(1, len(b)/400)
		for k := 0; k < len(b); k += step {
			refuses(t, b[:k], len(l), api.ErrEnd)
			refuses(t, slices.Clone(b[:k]), len(l), api.ErrEnd)
		}
		if len(b) > 0 {
			refuses(t, b[:len(b)-1], len(l), api.ErrEnd)
		}
	}
}

// bad is bytes of which Take wants n samples, and its error.
type bad struct {
	name string
	b    []byte
	n    int
	want api.Errno
}

// P5.2: a step's own limits.
func TestTakeStepAboveItsLimit(t *testing.T) {
	first := stepped(7, 5, 6)
	for _, c := range []bad{
		{"T", stepped(api.MaxTime+1, 0, 0), 1, api.ErrLimit},
		{"T, and no more", plain(api.MaxTime + 1), 1, api.ErrLimit},
		{"T of 2^41", stepped(1<<41, 0, 0), 1, api.ErrLimit},
		{"T of 2^62", stepped(1<<62, 0, 0), 1, api.ErrLimit},
		{"T of 2^63", stepped(1<<63, 0, 0), 1, api.ErrLimit},
		{"T of 2^64 - 1", stepped(math.MaxUint64, 0, 0), 1, api.ErrLimit},
		{"X", stepped(0, api.MaxCoord+1, 0), 1, api.ErrLimit},
		{"X, backwards", stepped(0, -api.MaxCoord-1, 0), 1, api.ErrLimit},
		{"X of 2^62", stepped(0, 1<<62, 0), 1, api.ErrLimit},
		{"X, the greatest", stepped(0, math.MaxInt64, 0), 1, api.ErrLimit},
		{"X, the least", stepped(0, math.MinInt64, 0), 1, api.ErrLimit},
		{"X, and no Y", plain(0, 2*api.MaxCoord+1), 1, api.ErrLimit},
		{"Y", stepped(0, 0, api.MaxCoord+1), 1, api.ErrLimit},
		{"Y, backwards", stepped(0, 0, -api.MaxCoord-1), 1, api.ErrLimit},
		{"Y, the greatest", stepped(0, 0, math.MaxInt64), 1, api.ErrLimit},
		{"Y, the least", stepped(0, 0, math.MinInt64), 1, api.ErrLimit},
		{"T of the second one", join(first, stepped(api.MaxTime+1, 0, 0)), 2, api.ErrLimit},
		{"X of the second one", join(first, stepped(1, api.MaxCoord+1, 0)), 2, api.ErrLimit},
		{"X of the second one, backwards", join(first, stepped(1, -api.MaxCoord-1, 0)), 2, api.ErrLimit},
		{"Y of the second one", join(first, stepped(1, 0, api.MaxCoord+1)), 2, api.ErrLimit},
		{"Y of the second one, backwards", join(first, stepped(1, 0, -api.MaxCoord-1)), 2, api.ErrLimit},
	} {
		t.Run(c.name, func(t *testing.T) {
			refuses(t, c.b, c.n, c.want)
			refuses(t, join(c.b, first), c.n, c.want)
		})
	}
}

// P5.2: steps up to their limits that lead to what is no sample, or not in sequence.
func TestTakeAsksForSamplesInSequence(t *testing.T) {
	last := made([]api.Sample{{T: api.MaxTime, X: corner, Y: corner}})
	first := stepped(7, 5, 6)
	for _, c := range []bad{
		{"X below 0", stepped(0, -1, 0), 1, api.ErrArg},
		{"X at -MaxCoord", stepped(0, -api.MaxCoord, 0), 1, api.ErrArg},
		{"X at MaxCoord", stepped(0, api.MaxCoord, 0), 1, api.ErrArg},
		{"Y below 0", stepped(0, 0, -1), 1, api.ErrArg},
		{"Y at -MaxCoord", stepped(0, 0, -api.MaxCoord), 1, api.ErrArg},
		{"Y at MaxCoord", stepped(0, 0, api.MaxCoord), 1, api.ErrArg},
		{"X of the second one below 0", join(first, stepped(1, -6, 0)), 2, api.ErrArg},
		{"X of the second one at MaxCoord", join(first, stepped(1, api.MaxCoord-5, 0)), 2, api.ErrArg},
		{"Y of the second one below 0", join(first, stepped(1, 0, -7)), 2, api.ErrArg},
		{"Y of the second one at MaxCoord", join(first, stepped(1, 0, api.MaxCoord-6)), 2, api.ErrArg},
		{"the second T is the first one", join(first, stepped(0, 1, 1)), 2, api.ErrArg},
		{"the second T is 0, as the first one", []byte{0, 0, 0, 0, 0, 0}, 2, api.ErrArg},
		{"the third T is the second one", join(first, stepped(1, 0, 0), stepped(0, 0, 0)), 3, api.ErrArg},
		{"T above MaxTime", join(last, stepped(1, 0, 0)), 2, api.ErrArg},
		{"T at twice MaxTime", join(last, stepped(api.MaxTime, 0, 0)), 2, api.ErrArg},
		{"T just above MaxTime", join(first, stepped(api.MaxTime-6, 0, 0)), 2, api.ErrArg},
		{"X at twice MaxCoord - 1", join(last, stepped(0, api.MaxCoord, 0)), 2, api.ErrArg},
	} {
		t.Run(c.name, func(t *testing.T) {
			refuses(t, c.b, c.n, c.want)
			refuses(t, join(c.b, first), c.n, c.want)
		})
	}
	takes(t, join(first, stepped(api.MaxTime-7, -5, -6)), []api.Sample{{T: 7, X: 5, Y: 6}, {T: api.MaxTime}}, 3+6+2)
	takes(t, join(first, stepped(1, corner-5, corner-6)), []api.Sample{{T: 7, X: 5, Y: 6}, {T: 8, X: corner, Y: corner}}, 3+1+8)
}

// P5.2: a number that layer 1 refuses, in each field of the first and of the second step.
func TestTakeNumberThatIsRefused(t *testing.T) {
	nine := bytes.Repeat([]byte{0xff}, 9)
	zeros := bytes.Repeat([]byte{0x80}, 9)
	for _, c := range []bad{
		{"0 in two bytes", []byte{0x80, 0}, 0, api.ErrForm},
		{"1 in two bytes", []byte{0x81, 0}, 0, api.ErrForm},
		{"0 in ten bytes", join(zeros, []byte{0}), 0, api.ErrForm},
		{"a tenth byte above 1", join(nine, []byte{2}), 0, api.ErrForm},
		{"eleven bytes", join(nine, []byte{0x81, 0}), 0, api.ErrForm},
		{"2^64 - 1", join(nine, []byte{1}), 0, api.ErrLimit},
		{"2^63", join(zeros, []byte{1}), 0, api.ErrLimit},
	} {
		for at := range 3 {
			fields := bytes.Repeat([]byte{0}, at)
			refuses(t, join(fields, c.b), 1, c.want)
			refuses(t, join(fields, c.b, []byte{0, 0, 0, 0, 0}), 1, c.want)
			fields = join([]byte{7, 10, 12}, bytes.Repeat([]byte{1}, at))
			refuses(t, join(fields, c.b), 2, c.want)
			refuses(t, join(fields, c.b, []byte{1, 1, 1, 1, 1}), 2, c.want)
			takes(t, join(fields, c.b), []api.Sample{{T: 7, X: 5, Y: 6}}, 3)
		}
	}
	for k := 1; k <= 9; k++ {
		for at := range 3 {
			refuses(t, join(bytes.Repeat([]byte{0}, at), nine[:k]), 1, api.ErrEnd)
			refuses(t, join(bytes.Repeat([]byte{0}, at), zeros[:k]), 1, api.ErrEnd)
		}
	}
}

// P5.2: the first error, sample by sample; within one, that of layer 3 ahead of ErrArg.
func TestTakeGivesTheFirstError(t *testing.T) {
	for _, c := range []bad{
		{"X below 0, Y missing", []byte{0, 1}, 1, api.ErrEnd},
		{"X below 0, Y is cut off", []byte{0, 1, 0x80}, 1, api.ErrEnd},
		{"X below 0, Y in two bytes", []byte{0, 1, 0x80, 0}, 1, api.ErrForm},
		{"X below 0, Y above its limit", stepped(0, -1, api.MaxCoord+1), 1, api.ErrLimit},
		{"X below 0, the next one missing", stepped(0, -1, 0), 2, api.ErrArg},
		{"X below 0, the next one above its limit", join(stepped(0, -1, 0), stepped(api.MaxTime+1, 0, 0)), 2, api.ErrArg},
		{"X below 0, T of the next one in two bytes", []byte{0, 1, 0, 0x80, 0}, 2, api.ErrArg},
		{"X below 0, then at 0 again", join(stepped(0, -1, 0), stepped(1, 1, 0)), 2, api.ErrArg},
		{"Y at MaxCoord, then below it again", join(stepped(0, 0, api.MaxCoord), stepped(1, 0, -1)), 2, api.ErrArg},
		{"T as before, X missing", []byte{7, 10, 12, 0}, 2, api.ErrEnd},
		{"T as before, Y missing", []byte{7, 10, 12, 0, 0}, 2, api.ErrEnd},
		{"T as before, X above its limit", join(stepped(7, 5, 6), stepped(0, api.MaxCoord+1, 0)), 2, api.ErrLimit},
		{"T as before, X in two bytes", []byte{7, 10, 12, 0, 0x80, 0, 0}, 2, api.ErrForm},
		{"T as before, the next one missing", []byte{7, 10, 12, 0, 0, 0}, 3, api.ErrArg},
		{"T as before, the next one in two bytes", []byte{7, 10, 12, 0, 0, 0, 0x80, 0}, 3, api.ErrArg},
		{"T above its limit, X in two bytes", join(plain(api.MaxTime+1), []byte{0x80, 0}), 1, api.ErrLimit},
		{"T in two bytes, X above its limit", join([]byte{0x80, 0}, plain(2*api.MaxCoord+1, 0)), 1, api.ErrForm},
		{"X above its limit, Y in two bytes", join(plain(0, 2*api.MaxCoord+1), []byte{0x80, 0}), 1, api.ErrLimit},
		{"X in two bytes, Y above its limit", join([]byte{0, 0x80, 0}, plain(2*api.MaxCoord+1)), 1, api.ErrForm},
		{"T beyond MaxTime, X missing", join(stepped(api.MaxTime, 0, 0), plain(1)), 2, api.ErrEnd},
		{"T beyond MaxTime, Y in two bytes", join(stepped(api.MaxTime, 0, 0), []byte{1, 0, 0x80, 0}), 2, api.ErrForm},
	} {
		t.Run(c.name, func(t *testing.T) { refuses(t, c.b, c.n, c.want) })
	}
}

// P5.3: Take inverts Put, whatever follows, and Put gives the bytes that Take took.
func TestTakeInvertsPut(t *testing.T) {
	rests := [][]byte{nil, {0}, {0x80}, {0xff, 0xff}, {1, 0, 0}, {0, 0, 0}, bytes.Repeat([]byte{0xff}, 50), made(walk(1, 20, 1000))}
	for _, l := range lists() {
		b, e := sample.Put(l)
		if e != api.OK {
			t.Fatalf("Put(%d samples): error %d", len(l), e)
		}
		for _, rest := range rests {
			takes(t, join(b, rest), l, len(b))
		}
		m, used, _ := sample.Take(b, len(l))
		puts(t, m, b[:used])
	}
}

// P5.1, P5.2: no call changes its arguments, or keeps them, and each result is memory of its own.
func TestMemory(t *testing.T) {
	l := walk(8, 50, 1000)
	before := slices.Clone(l)
	b, _ := sample.Put(l)
	other, _ := sample.Put(l)
	want := made(before)
	if !slices.Equal(l, before) {
		t.Error("Put changed its samples")
	}
	clear(l)
	clear(other)
	if !bytes.Equal(b, want) {
		t.Error("bytes change with the samples, or with other bytes")
	}
	first, _, _ := sample.Take(b, 50)
	second, _, _ := sample.Take(b, 50)
	if !bytes.Equal(b, want) {
		t.Error("Take changed its bytes")
	}
	clear(b)
	clear(second)
	if !slices.Equal(first, before) {
		t.Error("samples change with the bytes, or with other samples")
	}
}

// P5.1, P5.2: nothing around an argument is written to, and nothing behind its end is read.
func TestSpareCapacity(t *testing.T) {
	l := walk(8, 50, 1000)
	want := slices.Clone(l)
	b := made(l)
	puts(t, l[10:20], made(l[10:20]))
	puts(t, l[:0], nil)
	takes(t, b, l[:20], len(made(l[:20])))
	refuses(t, b[:0], 1, api.ErrEnd)
	if !slices.Equal(l, want) || !bytes.Equal(b, made(want)) {
		t.Error("a call wrote behind its argument")
	}
}

// number is the number that bytes begin with, up to most, as the document says it.
func number(b []byte, most uint64) (uint64, int, api.Errno) {
	n, size := binary.Uvarint(b)
	switch {
	case size == 0 && len(b) < 10:
		return 0, 0, api.ErrEnd
	case size <= 0 || size > 1 && b[size-1] == 0:
		return 0, 0, api.ErrForm
	case n > most:
		return 0, 0, api.ErrLimit
	}
	return n, size, api.OK
}

// signed is the signed number of a code.
func signed(code uint64) int {
	return int(int64(code>>1) ^ -int64(code&1))
}

// read is what Take has to return, as the document says it, without the layers below.
func read(b []byte, n int) ([]api.Sample, int, api.Errno) {
	if n < 0 || n > 2048 {
		return nil, 0, api.ErrLimit
	}
	var l []api.Sample
	var last api.Sample
	used := 0
	for len(l) < n {
		var codes [3]uint64
		// The code of -MaxCoord is the one below that of MaxCoord.
		for i, most := range []uint64{1 << 40, 1 << 27, 1 << 27} {
			code, size, e := number(b[used:], most)
			if e != api.OK {
				return nil, 0, e
			}
			codes[i] = code
			used += size
		}
		last = api.Sample{T: last.T + int(codes[0]), X: last.X + signed(codes[1]), Y: last.Y + signed(codes[2])}
		l = append(l, last)
		if !sequence(l[max(0, len(l)-2):]) {
			return nil, 0, api.ErrArg
		}
	}
	return l, used, api.OK
}

// same asks that Take and the model of it agree.
func same(t *testing.T, b []byte, n int) {
	t.Helper()
	l, used, e := read(b, n)
	if e == api.OK {
		takes(t, b, l, used)
		puts(t, l, b[:used])
	} else {
		refuses(t, b, n, e)
	}
}

// P5.2, P5.3: bytes with one byte that is another one.
func TestTakeOfOtherBytes(t *testing.T) {
	for seed := range 20 {
		l := walk(uint64(seed), 6, 1<<(2*seed))
		b := made(l)
		for at := range b {
			other := slices.Clone(b)
			for c := range 256 {
				other[at] = byte(c)
				same(t, other, len(l))
			}
		}
	}
}

// P5.2, P5.3 for bytes of any kind.
func FuzzTake(f *testing.F) {
	for _, c := range examples() {
		f.Add(c.b, len(c.l))
		f.Add(c.b, len(c.l)+1)
		f.Add(append(slices.Clone(c.b), 0x80, 0), len(c.l)+1)
	}
	f.Add([]byte{}, -1)
	f.Add([]byte{0, 0, 0}, api.MaxSamples+1)
	f.Add([]byte{0, 1, 0, 1, 2, 0}, 2)
	f.Add(stepped(api.MaxTime+1, 0, 0), 1)
	f.Add(stepped(0, -api.MaxCoord, api.MaxCoord+1), 1)
	f.Fuzz(func(t *testing.T, b []byte, n int) {
		before := slices.Clone(b)
		same(t, b, n)
		same(t, b, len(b)/3)
		if !bytes.Equal(b, before) {
			t.Errorf("% x was changed to % x", before, b)
		}
	})
}

// P5.1, P5.3 for samples of any kind.
func FuzzPut(f *testing.F) {
	f.Add(1, 2, 3, 5, 1, 3, []byte{})
	f.Add(0, 0, 0, 0, 0, 0, []byte{0})
	f.Add(0, 0, 0, api.MaxTime, corner, corner, []byte{1, 0, 0})
	f.Add(0, api.MaxCoord, 0, 1, 0, 0, []byte{0x80})
	f.Add(math.MinInt, math.MaxInt, math.MinInt, math.MaxInt, math.MinInt, math.MaxInt, []byte{0xff})
	f.Fuzz(func(t *testing.T, t1, x1, y1, t2, x2, y2 int, rest []byte) {
		all := []api.Sample{{T: t1, X: x1, Y: y1}, {T: t2, X: x2, Y: y2}}
		for _, l := range [][]api.Sample{all, all[:1], all[1:]} {
			for _, s := range l {
				if sample.May(s) != right(s) {
					t.Errorf("May(%v) = %v", s, sample.May(s))
				}
			}
			if !sequence(l) {
				cannot(t, l, api.ErrArg)
				continue
			}
			b := made(l)
			puts(t, l, b)
			takes(t, join(b, rest), l, len(b))
		}
	})
}
