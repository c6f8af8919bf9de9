package ring_test

import (
	"bytes"
	stdhmac "crypto/hmac"
	"crypto/sha256"
	"encoding/binary"
	"encoding/hex"
	"math"
	"slices"
	"testing"

	"viaticum/api"
	"viaticum/ring"
)

// derived is the key of an epoch under a draw, by the library.
func derived(draw []byte, epoch int) []byte {
	h := stdhmac.New(sha256.New, draw)
	h.Write([]byte("epoch\x00"))
	h.Write(binary.BigEndian.AppendUint32(nil, uint32(epoch)))
	return h.Sum(nil)
}

// noise is count bytes that are spread over all values, the same ones for the same seed.
func noise(seed uint64, count int) []byte {
	x := seed*2654435761 + 88172645463325252
	out := []byte{}
	for range count {
		x ^= x << 13
		x ^= x >> 7
		x ^= x << 17
		out = append(out, byte(x>>32))
	}
	return out
}

// draws is draws of several kinds.
func draws() [][]byte {
	return [][]byte{make([]byte, 32), bytes.Repeat([]byte{0xff}, 32), bytes.Repeat([]byte{7}, 32), noise(1, 32), noise(2, 32)}
}

// noDraws is lists of bytes of other numbers than 32.
func noDraws() [][]byte {
	out := [][]byte{nil, {}}
	for _, n := range []int{1, 16, 30, 31, 33, 34, 63, 64, 65, 96, 1000} {
		out = append(out, noise(uint64(n), n), noise(3, 2000)[:n], noise(3, 32+n)[:n])
	}
	return out
}

// keeps is numbers of keys that a ring may have.
func keeps() []int {
	out := []int{}
	for n := range api.MaxKeep {
		out = append(out, n+1)
	}
	return out
}

// noKeeps is numbers below 1 and above MaxKeep.
func noKeeps() []int {
	return []int{0, -1, -2, -api.MaxKeep, math.MinInt32, math.MinInt, api.MaxKeep + 1, api.MaxKeep + 2, 32, 256 + 3, 1<<32 + 1, math.MaxInt32, math.MaxInt}
}

// ringOf is a ring of consecutive epochs from a first one on, whose keys are noise.
func ringOf(keep, first, count int) api.Ring {
	r := api.Ring{Keep: keep}
	for i := range count {
		r.Keys = append(r.Keys, api.Key{Epoch: first + i, Bytes: noise(uint64(first+i)+1000, 32)})
	}
	return r
}

// clone is a ring in memory of its own.
func clone(r api.Ring) api.Ring {
	out := api.Ring{Keep: r.Keep}
	for _, k := range r.Keys {
		out.Keys = append(out.Keys, api.Key{Epoch: k.Epoch, Bytes: slices.Clone(k.Bytes)})
	}
	return out
}

// same tells whether two keys are of one epoch, with the same bytes.
func same(a, b api.Key) bool {
	return a.Epoch == b.Epoch && bytes.Equal(a.Bytes, b.Bytes)
}

// expect asks for a ring.
func expect(t *testing.T, got, want api.Ring, about string) {
	t.Helper()
	if got.Keep != want.Keep || !slices.EqualFunc(got.Keys, want.Keys, same) {
		t.Errorf("%s: Keep %d, epochs %v, want Keep %d, epochs %v, or another key of one of them", about, got.Keep, epochs(got), want.Keep, epochs(want))
	}
}

// epochs is the epochs of a ring's keys.
func epochs(r api.Ring) []int {
	out := []int{}
	for _, k := range r.Keys {
		out = append(out, k.Epoch)
	}
	return out
}

// refused asks for an error, and a ring of zero value beside it.
func refused(t *testing.T, r api.Ring, e, want api.Errno, about string) {
	t.Helper()
	if e != want || r.Keep != 0 || len(r.Keys) != 0 {
		t.Errorf("%s: error %d, Keep %d, epochs %v, want error %d and nothing", about, e, r.Keep, epochs(r), want)
	}
}

// rotated is a ring that must be rotated.
func rotated(t *testing.T, r api.Ring, draw []byte) api.Ring {
	t.Helper()
	out, e := ring.Rotate(r, draw)
	if e != api.OK {
		t.Fatalf("Rotate of Keep %d, epochs %v: error %d", r.Keep, epochs(r), e)
	}
	return out
}

// P9.1 and P9.2: keys that are known.
func TestKeysThatAreKnown(t *testing.T) {
	var counted []byte
	for c := range 32 {
		counted = append(counted, byte(c))
	}
	for _, c := range []struct {
		draw  []byte
		epoch int
		want  string
	}{
		{make([]byte, 32), 1, "62708ad8f1c14b71fa17cb577198989ea0ed6e1be4169e0497a6043920295fb5"},
		{counted, 1, "fdcb2603030f59c14f51dc6ded93e2343a540fdd86ac3fd916bb16f5e654cc3f"},
		{bytes.Repeat([]byte{7}, 32), 1, "a92a3608acf14cbf7fe049b4457429a6575bf70f6fed7c814203cd3611f78a8e"},
		{make([]byte, 32), 2, "019d71e76877de6a808aab28ef3be5c1314affb45f158ce3ce702971499565b0"},
		{counted, 256, "96709583002b4eedf93c1b9ee7b29bd8b14f354c7aea08cd4e7b1c9fe4694d07"},
		{bytes.Repeat([]byte{7}, 32), 65536, "493ecef2d21afa753f1c59e351ed4219f27f3f2cef80a2d6f6d6d3de0cd6765d"},
		{counted, api.MaxEpoch, "db2748a51055b81b3c7b6fa9cf7de57aa09dc866f28e603e3d3e45affbc8da47"},
	} {
		r, e := ring.New(2, c.draw)
		if c.epoch > 1 {
			r, e = ring.Rotate(ringOf(2, c.epoch-1, 1), c.draw)
		}
		k, ok := ring.Find(r, c.epoch)
		if e != api.OK || !ok || hex.EncodeToString(k) != c.want {
			t.Errorf("epoch %d under %.3x..: error %d, %t, %x, want %s", c.epoch, c.draw, e, ok, k, c.want)
		}
	}
}

// P9.1 and P9.3: the ring with each Keep that there may be, under draws of all kinds.
func TestNew(t *testing.T) {
	for _, keep := range keeps() {
		for _, draw := range draws() {
			r, e := ring.New(keep, draw)
			if e != api.OK || !ring.Right(r) || ring.Now(r) != 1 {
				t.Errorf("New(%d): error %d, epochs %v", keep, e, epochs(r))
			}
			expect(t, r, api.Ring{Keep: keep, Keys: []api.Key{{Epoch: 1, Bytes: derived(draw, 1)}}}, "New")
		}
	}
}

// P9.1: keep below 1 and above MaxKeep, with draws that are right and ones that are not.
func TestNewOfWrongKeep(t *testing.T) {
	for _, keep := range noKeeps() {
		for _, draw := range slices.Concat(draws(), noDraws()) {
			r, e := ring.New(keep, draw)
			refused(t, r, e, api.ErrArg, "New of a keep that may not be")
		}
	}
}

// P9.1: draws that do not have 32 bytes.
func TestNewOfWrongDraw(t *testing.T) {
	for _, keep := range keeps() {
		for _, draw := range noDraws() {
			r, e := ring.New(keep, draw)
			refused(t, r, e, api.ErrArg, "New under a draw that is none")
		}
	}
}

// P9.1 and P9.2: each bit of a draw counts, and so does the epoch.
func TestEachBitOfDrawCounts(t *testing.T) {
	first, _ := ring.New(2, noise(4, 32))
	second := rotated(t, first, noise(4, 32))
	for at := range 8 * 32 {
		draw := noise(4, 32)
		draw[at/8] ^= 1 << (at % 8)
		other, _ := ring.New(2, draw)
		if same(other.Keys[0], first.Keys[0]) {
			t.Errorf("New: bit %d of the draw makes no difference", at)
		}
		if same(rotated(t, first, draw).Keys[1], second.Keys[1]) {
			t.Errorf("Rotate: bit %d of the draw makes no difference", at)
		}
	}
	if bytes.Equal(first.Keys[0].Bytes, second.Keys[1].Bytes) {
		t.Error("the epochs 1 and 2 have one key under one draw")
	}
}

// firsts is epochs from which count keys may go on, at the edges and where another of the four bytes changes.
func firsts(count int) []int {
	out := []int{}
	for _, last := range []int{api.MaxEpoch, api.MaxEpoch - 1, 257, 256, 255, 65537, 65536, 65535, 1<<19 + 77} {
		out = append(out, last-count+1)
	}
	return append(out, 1, 2, 100)
}

// P9.1: rings that are valid, each Keep with each number of keys.
func TestRight(t *testing.T) {
	for _, keep := range keeps() {
		for count := 1; count <= keep; count++ {
			for _, first := range firsts(count) {
				if !ring.Right(ringOf(keep, first, count)) {
					t.Errorf("Right of Keep %d, %d keys from %d on: false", keep, count, first)
				}
			}
		}
	}
	zeros := api.Ring{Keep: 1, Keys: []api.Key{{Epoch: 1, Bytes: make([]byte, 32)}}}
	if !ring.Right(zeros) {
		t.Error("Right of a key of zero bytes: false")
	}
	twice := ringOf(2, 1, 2)
	twice.Keys[1].Bytes = twice.Keys[0].Bytes
	if !ring.Right(twice) {
		t.Error("Right of two epochs with one key: false")
	}
}

// wrong is a ring that is not valid for one reason.
type wrong struct {
	about string
	ring  api.Ring
}

// wrongKeeps is rings of as many keys as there may be, but for their Keep.
func wrongKeeps() []wrong {
	out := []wrong{}
	for _, keep := range noKeeps() {
		for _, count := range []int{1, 2, api.MaxKeep, api.MaxKeep + 1} {
			out = append(out, wrong{"a Keep that may not be", ringOf(keep, 5, count)})
		}
	}
	return out
}

// wrongCounts is rings without keys, and with more than Keep.
func wrongCounts() []wrong {
	out := []wrong{{"a plain ring", api.Ring{}}}
	for _, keep := range keeps() {
		out = append(out, wrong{"no keys", api.Ring{Keep: keep}}, wrong{"no keys", api.Ring{Keep: keep, Keys: []api.Key{}}})
		for _, more := range []int{1, 2, 16, 100} {
			out = append(out, wrong{"too many keys", ringOf(keep, 3, keep+more)})
		}
	}
	return out
}

// wrongLengths is rings of which one key, or each, does not have 32 bytes.
func wrongLengths() []wrong {
	out := []wrong{}
	for count := 1; count <= 4; count++ {
		for _, b := range noDraws() {
			all := ringOf(4, 7, count)
			for at := range count {
				one := ringOf(4, 7, count)
				one.Keys[at].Bytes, all.Keys[at].Bytes = b, b
				out = append(out, wrong{"a key of another length", one})
			}
			out = append(out, wrong{"keys of another length", all})
		}
	}
	return out
}

// wrongEpochs is rings whose epochs are out of bounds, or do not go on one by one.
func wrongEpochs() []wrong {
	out := []wrong{}
	for _, list := range [][]int{
		{0}, {-1}, {math.MinInt32}, {math.MinInt}, {0, 1}, {-1, 0}, {-1, 0, 1}, {-2, -1},
		{api.MaxEpoch + 1}, {api.MaxEpoch + 2}, {math.MaxInt32}, {1<<32 + 1}, {math.MaxInt},
		{api.MaxEpoch, api.MaxEpoch + 1}, {api.MaxEpoch - 1, api.MaxEpoch, api.MaxEpoch + 1}, {math.MaxInt - 1, math.MaxInt},
		{math.MaxInt, math.MinInt}, {api.MaxEpoch, 1}, {api.MaxEpoch, 0},
		{1, 1}, {5, 5}, {1, 2, 2}, {1, 1, 2}, {7, 7, 7}, {api.MaxEpoch, api.MaxEpoch},
		{2, 1}, {3, 2, 1}, {5, 6, 5}, {1, 2, 1}, {6, 5, 6}, {2, 3, 1},
		{1, 3}, {1, 2, 4}, {1, 3, 4}, {5, 7, 9}, {1, 10}, {1, 257}, {1, api.MaxEpoch}, {1, 2, 3, 5}, {4, 6, 5},
	} {
		r := ringOf(4, 1, len(list))
		for i, epoch := range list {
			r.Keys[i].Epoch = epoch
		}
		out = append(out, wrong{"epochs that may not be", r})
	}
	return out
}

// wrongPlaces is full rings that are valid but for one key, at each place.
func wrongPlaces() []wrong {
	out := []wrong{}
	for _, keep := range keeps()[1:] {
		for at := 1; at < keep; at++ {
			gap, equal, length := ringOf(keep, 5, keep), ringOf(keep, 5, keep), ringOf(keep, 5, keep)
			for i := at; i < keep; i++ {
				gap.Keys[i].Epoch++
				equal.Keys[i].Epoch--
			}
			length.Keys[at].Bytes = length.Keys[at].Bytes[:31]
			out = append(out, wrong{"a gap", gap}, wrong{"equal epochs", equal}, wrong{"a short key", length})
		}
	}
	return out
}

// wrongs is rings that are not valid.
func wrongs() []wrong {
	return slices.Concat(wrongKeeps(), wrongCounts(), wrongLengths(), wrongEpochs(), wrongPlaces())
}

// P9.1: rings that are not valid, for each of the reasons.
func TestRightOfWrongRings(t *testing.T) {
	for _, w := range wrongs() {
		if ring.Right(w.ring) {
			t.Errorf("%s: Keep %d, epochs %v: true", w.about, w.ring.Keep, epochs(w.ring))
		}
	}
}

// P9.2: rings that are not valid are refused, whatever the draw is, and also if their latest epoch is MaxEpoch.
func TestRotateOfWrongRings(t *testing.T) {
	for _, w := range wrongs() {
		for _, draw := range slices.Concat(draws()[:2], noDraws()[:6]) {
			r, e := ring.Rotate(w.ring, draw)
			refused(t, r, e, api.ErrArg, w.about)
		}
	}
	last := ringOf(3, api.MaxEpoch-2, 3)
	last.Keys[0].Bytes = last.Keys[0].Bytes[:31]
	r, e := ring.Rotate(last, draws()[0])
	refused(t, r, e, api.ErrArg, "a wrong ring whose latest epoch is MaxEpoch")
}

// P9.2: draws that do not have 32 bytes, also where the latest epoch is MaxEpoch.
func TestRotateOfWrongDraw(t *testing.T) {
	for _, keep := range []int{1, 2, api.MaxKeep} {
		for _, draw := range noDraws() {
			for _, first := range []int{1, 9, api.MaxEpoch} {
				r, e := ring.Rotate(ringOf(keep, first, 1), draw)
				refused(t, r, e, api.ErrArg, "Rotate under a draw that is none")
			}
		}
	}
}

// P9.2: a ring whose latest epoch is MaxEpoch, and one that gets there.
func TestRotateAtMaxEpoch(t *testing.T) {
	for _, keep := range keeps() {
		for count := 1; count <= keep; count++ {
			for _, draw := range draws() {
				r, e := ring.Rotate(ringOf(keep, api.MaxEpoch-count+1, count), draw)
				refused(t, r, e, api.ErrLimit, "Rotate at MaxEpoch")
			}
			before := ringOf(keep, api.MaxEpoch-count, count)
			r := rotated(t, before, draws()[3])
			expect(t, r, model(before, draws()[3]), "Rotate to MaxEpoch")
			r, e := ring.Rotate(r, draws()[4])
			refused(t, r, e, api.ErrLimit, "Rotate behind MaxEpoch")
		}
	}
}

// model is a ring that is valid with a key more, as the document says it.
func model(r api.Ring, draw []byte) api.Ring {
	out := clone(r)
	epoch := out.Keys[len(out.Keys)-1].Epoch + 1
	out.Keys = append(out.Keys, api.Key{Epoch: epoch, Bytes: derived(draw, epoch)})
	if len(out.Keys) > out.Keep {
		out.Keys = out.Keys[1:]
	}
	return out
}

// P9.2 and P9.3: rings of each size, full and not.
func TestRotate(t *testing.T) {
	for _, keep := range keeps() {
		for count := 1; count <= keep; count++ {
			for _, first := range firsts(count)[1:] {
				before, draw := ringOf(keep, first, count), noise(uint64(first), 32)
				r := rotated(t, before, draw)
				expect(t, r, model(before, draw), "Rotate")
				if !ring.Right(r) || ring.Now(r) != first+count || len(r.Keys) != min(keep, count+1) {
					t.Errorf("Rotate of Keep %d, epochs %v: epochs %v", keep, epochs(before), epochs(r))
				}
			}
		}
	}
}

// P9.2 and P9.3: rotations up to Keep and beyond it; the keys that remain are as they were.
func TestRotations(t *testing.T) {
	for _, keep := range keeps() {
		r, e := ring.New(keep, noise(1, 32))
		if e != api.OK {
			t.Fatal(e)
		}
		want := api.Ring{Keep: keep, Keys: []api.Key{{Epoch: 1, Bytes: derived(noise(1, 32), 1)}}}
		for epoch := 2; epoch <= 3*keep+300; epoch++ {
			draw := noise(uint64(epoch), 32)
			r, want = rotated(t, r, draw), model(want, draw)
			expect(t, r, want, "after rotations")
			if !ring.Right(r) || ring.Now(r) != epoch || len(r.Keys) != min(keep, epoch) {
				t.Fatalf("Keep %d: epochs %v at the epoch %d", keep, epochs(r), epoch)
			}
		}
	}
}

// P9.2 and P9.3: from the epoch 1 to MaxEpoch, and no further.
func TestAllEpochs(t *testing.T) {
	if testing.Short() {
		t.Skip("a million rotations")
	}
	draw := noise(5, 32)
	r, e := ring.New(2, draw)
	for epoch := 2; epoch <= api.MaxEpoch && e == api.OK; epoch++ {
		r, e = ring.Rotate(r, draw)
	}
	expect(t, r, api.Ring{Keep: 2, Keys: []api.Key{
		{Epoch: api.MaxEpoch - 1, Bytes: derived(draw, api.MaxEpoch-1)},
		{Epoch: api.MaxEpoch, Bytes: derived(draw, api.MaxEpoch)},
	}}, "after all epochs")
	_, last := ring.Rotate(r, draw)
	if e != api.OK || !ring.Right(r) || last != api.ErrLimit {
		t.Errorf("errors %d and %d at the epoch %d", e, last, ring.Now(r))
	}
}

// The chapter's example: with Keep 2, after two rotations, the epochs are 2 and 3.
func TestExample(t *testing.T) {
	r, _ := ring.New(2, noise(1, 32))
	for seed := range 2 {
		r = rotated(t, r, noise(uint64(seed)+2, 32))
	}
	if !slices.Equal(epochs(r), []int{2, 3}) || r.Keep != 2 {
		t.Errorf("Keep %d, epochs %v", r.Keep, epochs(r))
	}
}

// found asks for the key of an epoch.
func found(t *testing.T, r api.Ring, epoch int, want []byte) {
	t.Helper()
	if k, ok := ring.Find(r, epoch); !ok || !bytes.Equal(k, want) {
		t.Errorf("Find of %d in the epochs %v: % x, %t, want % x", epoch, epochs(r), k, ok, want)
	}
}

// missing asks for nothing and false.
func missing(t *testing.T, r api.Ring, epoch int) {
	t.Helper()
	if k, ok := ring.Find(r, epoch); ok || len(k) != 0 {
		t.Errorf("Find of %d in the epochs %v: % x, %t, want nothing", epoch, epochs(r), k, ok)
	}
}

// P9.2: each epoch of a valid ring, those beside it, and ones far off.
func TestFind(t *testing.T) {
	for _, keep := range keeps() {
		for count := 1; count <= keep; count++ {
			for _, first := range firsts(count) {
				r := ringOf(keep, first, count)
				for i, k := range r.Keys {
					found(t, r, first+i, k.Bytes)
				}
				for _, epoch := range []int{first - 1, first + count, 0, -1, -first, math.MinInt, math.MaxInt, first + 1<<32, first - 1<<32} {
					missing(t, r, epoch)
				}
			}
		}
	}
}

// P9.2: what was removed by rotations is not there any more.
func TestFindAfterRotations(t *testing.T) {
	r, _ := ring.New(3, noise(1, 32))
	for epoch := 2; epoch <= 20; epoch++ {
		r = rotated(t, r, noise(uint64(epoch), 32))
		for old := 1; old <= epoch; old++ {
			if old > epoch-3 {
				found(t, r, old, derived(noise(uint64(old), 32), old))
			} else {
				missing(t, r, old)
			}
		}
		missing(t, r, epoch+1)
		missing(t, r, 0)
	}
}

// P9.2: in rings that are not valid Find and Now go by what the keys are.
func TestFindAndNowOfWrongRings(t *testing.T) {
	for _, w := range wrongs() {
		seen := map[int]bool{}
		for _, k := range w.ring.Keys {
			if !seen[k.Epoch] {
				found(t, w.ring, k.Epoch, k.Bytes)
			}
			seen[k.Epoch] = true
		}
		for _, epoch := range []int{0, 1, 2, 12345, -12345} {
			if !seen[epoch] {
				missing(t, w.ring, epoch)
			}
		}
		want := 0
		if len(w.ring.Keys) > 0 {
			want = w.ring.Keys[len(w.ring.Keys)-1].Epoch
		}
		if now := ring.Now(w.ring); now != want {
			t.Errorf("%s: Now of the epochs %v is %d", w.about, epochs(w.ring), now)
		}
	}
}

// P9.2: an epoch that is there several times has the first key, and Now is that of the last one, not the greatest.
func TestEpochsSeveralTimes(t *testing.T) {
	a, b, c, d := noise(6, 32), noise(7, 31), noise(8, 33), noise(9, 32)
	r := api.Ring{Keep: 1, Keys: []api.Key{{Epoch: 5, Bytes: a}, {Epoch: 9, Bytes: b}, {Epoch: 5, Bytes: c}, {Epoch: 9, Bytes: d}, {Epoch: 5, Bytes: d}}}
	found(t, r, 5, a)
	found(t, r, 9, b)
	missing(t, r, 7)
	if now := ring.Now(r); now != 5 {
		t.Errorf("Now is %d, want 5", now)
	}
	empty := api.Ring{Keys: []api.Key{{Epoch: 3}, {Epoch: 3, Bytes: a}, {Epoch: -4, Bytes: b}}}
	found(t, empty, 3, nil)
	found(t, empty, -4, b)
	if now := ring.Now(empty); now != -4 {
		t.Errorf("Now is %d, want -4", now)
	}
}

// P9.2: no keys at all.
func TestNoKeys(t *testing.T) {
	for _, r := range []api.Ring{{}, {Keep: 3}, {Keep: -1, Keys: []api.Key{}}, {Keep: 2, Keys: ringOf(2, 1, 2).Keys[:0]}} {
		for _, epoch := range []int{0, 1, 2, -1, math.MaxInt, math.MinInt} {
			missing(t, r, epoch)
		}
		if now := ring.Now(r); now != 0 {
			t.Errorf("Now without keys is %d", now)
		}
	}
}

// P9.2: Now of valid rings.
func TestNow(t *testing.T) {
	for _, keep := range keeps() {
		for count := 1; count <= keep; count++ {
			for _, first := range firsts(count) {
				if now := ring.Now(ringOf(keep, first, count)); now != first+count-1 {
					t.Errorf("Now of %d keys from %d on is %d", count, first, now)
				}
			}
		}
	}
}

// within is a ring of keys that lie within greater memory, which goes on behind the list and behind each key, and all of that memory.
func within(keep, first, count int) (r, memory api.Ring) {
	memory = ringOf(keep, first, count+5)
	for i := range memory.Keys {
		memory.Keys[i].Bytes = noise(uint64(i)+50, 100)[:32]
	}
	r = api.Ring{Keep: keep, Keys: memory.Keys[:count]}
	return r, memory
}

// whole is the bytes of a ring's keys, and of what lies behind them in memory.
func whole(r api.Ring) api.Ring {
	out := api.Ring{Keep: r.Keep}
	for _, k := range r.Keys {
		out.Keys = append(out.Keys, api.Key{Epoch: k.Epoch, Bytes: slices.Clone(k.Bytes[:cap(k.Bytes)])})
	}
	return out
}

// No argument is changed: not the keys, not their bytes, and not what lies behind them in memory.
func TestArgumentsAreNotChanged(t *testing.T) {
	for _, keep := range keeps() {
		for count := 1; count <= keep; count++ {
			r, memory := within(keep, 10, count)
			drawn := noise(60, 100)
			draw := drawn[:32]
			before, drawnBefore, plain := whole(memory), slices.Clone(drawn), clone(r)
			expect(t, rotated(t, r, draw), model(plain, draw), "a ring within greater memory")
			ring.New(keep, draw)
			ring.Right(r)
			ring.Now(r)
			ring.Find(r, 10)
			expect(t, whole(memory), before, "the memory of the arguments")
			expect(t, r, plain, "the ring")
			if !bytes.Equal(drawn, drawnBefore) {
				t.Error("the memory of the draw was changed")
			}
		}
	}
}

// spoil overwrites bytes, and what lies behind them in memory.
func spoil(b []byte) {
	b = b[:cap(b)]
	for i := range b {
		b[i] ^= 0xff
	}
}

// spoilRing overwrites a ring's keys and their bytes, and what lies behind both in memory.
func spoilRing(r api.Ring) {
	keys := r.Keys[:cap(r.Keys)]
	for i := range keys {
		spoil(keys[i].Bytes)
		keys[i] = api.Key{Epoch: -77}
	}
}

// P9.3: an answer is new memory, which shares none with an argument or with another answer.
func TestAnswersAreNewMemory(t *testing.T) {
	for _, keep := range keeps() {
		for count := 1; count <= keep; count++ {
			r, draw := ringOf(keep, 10, count), noise(61, 32)
			before, drawBefore, want := clone(r), slices.Clone(draw), model(r, draw)
			first, second := rotated(t, r, draw), rotated(t, r, draw)
			spoilRing(first)
			expect(t, second, want, "beside an answer that was overwritten")
			expect(t, r, before, "the ring of an answer that was overwritten")
			expect(t, rotated(t, r, draw), want, "behind an answer that was overwritten")
			if !bytes.Equal(draw, drawBefore) {
				t.Error("an answer is memory of the draw")
			}
			spoilRing(r)
			spoil(draw)
			expect(t, second, want, "the arguments overwritten")
		}
	}
}

// Likewise for New.
func TestNewRingsAreNewMemory(t *testing.T) {
	for _, keep := range keeps() {
		draw := noise(62, 32)
		want := api.Ring{Keep: keep, Keys: []api.Key{{Epoch: 1, Bytes: derived(draw, 1)}}}
		first, _ := ring.New(keep, draw)
		second, _ := ring.New(keep, draw)
		spoilRing(first)
		expect(t, second, want, "beside an answer that was overwritten")
		third, _ := ring.New(keep, draw)
		expect(t, third, want, "behind an answer that was overwritten")
		spoil(draw)
		expect(t, second, want, "the draw overwritten")
	}
}

// No two keys of an answer lie on each other in memory, nor one behind the other, also where those of the argument do.
func TestKeysOfAnAnswerAreApart(t *testing.T) {
	one := noise(63, 64)
	r := api.Ring{Keep: 4}
	for i := range 4 {
		r.Keys = append(r.Keys, api.Key{Epoch: i + 1, Bytes: one[i : i+32]})
	}
	draw := one[8:40]
	want := model(r, draw)
	for at := range 4 {
		got := rotated(t, r, draw)
		spoil(got.Keys[at].Bytes)
		for i, k := range got.Keys {
			if i != at && !same(k, want.Keys[i]) {
				t.Errorf("the key %d lies on the key %d", i, at)
			}
		}
	}
	if !bytes.Equal(one, noise(63, 64)) {
		t.Error("the memory of the arguments was changed")
	}
}

// Nothing is behind an answer's keys: what is appended to them, twice, is in memory of its own each time.
func TestNoSpareCapacity(t *testing.T) {
	for _, keep := range keeps() {
		r, _ := ring.New(keep, noise(64, 32))
		for range 2 * keep {
			r = rotated(t, r, noise(65, 32))
			a := append(r.Keys, api.Key{Epoch: -1})
			b := append(r.Keys, api.Key{Epoch: -2})
			if cap(r.Keys) != len(r.Keys) || a[len(r.Keys)].Epoch != -1 || b[len(r.Keys)].Epoch != -2 {
				t.Errorf("Keep %d: capacity %d behind %d keys", keep, cap(r.Keys), len(r.Keys))
			}
		}
	}
}

// P9.2: what Find answers is new memory.
func TestFoundKeysAreNewMemory(t *testing.T) {
	r := ringOf(3, 5, 3)
	before := clone(r)
	for i, k := range before.Keys {
		first, _ := ring.Find(r, k.Epoch)
		second, _ := ring.Find(r, k.Epoch)
		spoil(first)
		expect(t, r, before, "the ring of a key that was overwritten")
		if !bytes.Equal(second, k.Bytes) {
			t.Errorf("the key %d beside one that was overwritten: % x", i, second)
		}
	}
	kept, _ := ring.Find(r, 6)
	spoilRing(r)
	if !bytes.Equal(kept, before.Keys[1].Bytes) {
		t.Error("a key that was found is memory of the ring")
	}
}

// P9.1 for any keep and draw.
func FuzzNew(f *testing.F) {
	f.Add(1, noise(1, 32))
	f.Add(16, noise(2, 32))
	f.Add(0, noise(3, 32))
	f.Add(17, noise(4, 32))
	f.Add(3, noise(5, 31))
	f.Fuzz(func(t *testing.T, keep int, draw []byte) {
		r, e := ring.New(keep, draw)
		if keep < 1 || keep > 16 || len(draw) != 32 {
			refused(t, r, e, api.ErrArg, "New")
			return
		}
		expect(t, r, api.Ring{Keep: keep, Keys: []api.Key{{Epoch: 1, Bytes: derived(draw, 1)}}}, "New")
		if e != api.OK || !ring.Right(r) {
			t.Errorf("New(%d): error %d", keep, e)
		}
	})
}

// right is whether a ring is valid, by the words of the chapter.
func right(r api.Ring) bool {
	ok := 1 <= r.Keep && r.Keep <= 16 && 1 <= len(r.Keys) && len(r.Keys) <= r.Keep
	for i, k := range r.Keys {
		ok = ok && len(k.Bytes) == 32 && 1 <= k.Epoch && k.Epoch <= 1<<20
		ok = ok && (i == 0 || k.Epoch == r.Keys[i-1].Epoch+1)
	}
	return ok
}

// fuzzed is a ring that is valid but for what the numbers say: at one place another epoch and another length.
func fuzzed(keep, first int, count, at uint8, shift, length int) api.Ring {
	r := ringOf(keep, first, int(count)%20)
	if int(at) < len(r.Keys) {
		r.Keys[at].Epoch += shift
		r.Keys[at].Bytes = noise(9, 32+length%40)
	}
	return r
}

// P9.1, P9.2 and P9.3 for rings and draws of any kind.
func FuzzRotate(f *testing.F) {
	f.Add(2, 1, uint8(2), uint8(9), 0, 0, noise(1, 32))
	f.Add(16, 5, uint8(16), uint8(15), 0, 0, noise(2, 32))
	f.Add(3, api.MaxEpoch-2, uint8(3), uint8(9), 0, 0, noise(3, 32))
	f.Add(3, api.MaxEpoch-1, uint8(3), uint8(9), 0, 0, noise(4, 32))
	f.Add(4, 1, uint8(4), uint8(2), 1, 0, noise(5, 32))
	f.Add(4, 1, uint8(4), uint8(2), 0, -1, noise(6, 32))
	f.Add(4, 0, uint8(4), uint8(9), 0, 0, noise(7, 31))
	f.Add(4, 1, uint8(5), uint8(9), 0, 0, noise(8, 33))
	f.Fuzz(func(t *testing.T, keep, first int, count, at uint8, shift, length int, draw []byte) {
		r := fuzzed(keep, first, count, at, shift, length)
		before, valid := clone(r), right(r)
		got, e := ring.Rotate(r, draw)
		switch {
		case !valid || len(draw) != 32:
			refused(t, got, e, api.ErrArg, "Rotate")
		case r.Keys[len(r.Keys)-1].Epoch == 1<<20:
			refused(t, got, e, api.ErrLimit, "Rotate")
		default:
			expect(t, got, model(before, draw), "Rotate")
			if e != api.OK || !right(got) || !ring.Right(got) {
				t.Errorf("Rotate of Keep %d, epochs %v: error %d", keep, epochs(r), e)
			}
		}
		if ring.Right(r) != valid {
			t.Errorf("Right of Keep %d, epochs %v is not %t", keep, epochs(r), valid)
		}
		expect(t, r, before, "the argument")
	})
}
