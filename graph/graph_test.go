package graph_test

import (
	"bytes"
	"cmp"
	"encoding/binary"
	"hash/crc32"
	"math"
	"slices"
	"testing"

	"viaticum/api"
	"viaticum/graph"
)

const (
	newest    = 1 << 20   // the greatest version
	corner    = 1<<26 - 1 // the greatest coordinate
	heaviest  = 1<<20 - 1 // the greatest weight
	mostStops = 4096      // as many stops as a network may have
	mostLinks = 1 << 14   // as many links
)

// noise is numbers that are spread over all values, the same ones for the same seed.
func noise(seed uint64) func(most int) int {
	x := seed*2654435761 + 88172645463325252
	return func(most int) int {
		x ^= x << 13
		x ^= x >> 7
		x ^= x << 17
		return int(x >> 11 % uint64(most))
	}
}

// plain is the bytes of a number, without the layers below.
func plain(n uint64) []byte {
	return binary.AppendUvarint(nil, n)
}

// summed is bytes with their checksum behind them.
func summed(b []byte) []byte {
	return binary.LittleEndian.AppendUint32(slices.Clone(b), crc32.ChecksumIEEE(b))
}

// framed is a content's frame of a kind, as the document says it.
func framed(kind byte, parts ...[]byte) []byte {
	content := slices.Concat(parts...)
	return summed(slices.Concat([]byte{0xc7, kind}, plain(uint64(len(content))), content))
}

// numbers is all numbers of a network, in the order of its bytes.
func numbers(n api.Network) []int {
	out := []int{n.Version, len(n.Stops)}
	for _, s := range n.Stops {
		out = append(out, s.X, s.Y)
	}
	out = append(out, len(n.Links))
	for _, l := range n.Links {
		out = append(out, l.A, l.B, l.W)
	}
	return out
}

// bounds is how great each of these numbers may be where it is read.
func bounds(n api.Network) []int {
	out := []int{newest, mostStops}
	for range n.Stops {
		out = append(out, corner, corner)
	}
	out = append(out, mostLinks)
	for range n.Links {
		out = append(out, mostStops-1, mostStops-1, heaviest)
	}
	return out
}

// written is the bytes of numbers, however great, one behind the other.
func written(numbers []int) []byte {
	var out []byte
	for _, n := range numbers {
		out = append(out, plain(uint64(n))...)
	}
	return out
}

// made is a network's bytes, as the chapter says them, whether or not it is valid.
func made(n api.Network) []byte {
	return framed(3, written(numbers(n)))
}

// right is whether a network is valid, by the words of the chapter.
func right(n api.Network) bool {
	ok := n.Version >= 1 && n.Version <= newest && len(n.Stops) <= mostStops && len(n.Links) <= mostLinks
	for _, s := range n.Stops {
		ok = ok && s.X >= 0 && s.X <= corner && s.Y >= 0 && s.Y <= corner
	}
	for i, l := range n.Links {
		ok = ok && l.A >= 0 && l.B > l.A && l.B <= len(n.Stops)-1 && l.W >= 1 && l.W <= heaviest
		ok = ok && (i == 0 || order(n.Links[i-1], l) < 0)
	}
	return ok
}

// order is below 0 if one link comes ahead of another one.
func order(a, b api.Link) int {
	return cmp.Or(cmp.Compare(a.A, b.A), cmp.Compare(a.B, b.B))
}

// number is the number that bytes begin with, up to most, as the document says it.
func number(b []byte, most uint64) (uint64, int, api.Errno) {
	n, size := binary.Uvarint(b)
	switch {
	case size == 0 && len(b) < 10:
		return 0, 0, api.ErrEnd
	case size <= 0 || size > 1 && b[size-1] == 0:
		return 0, 0, api.ErrForm
	case n > most:
		return 0, 0, api.ErrLimit
	}
	return n, size, api.OK
}

// whole is the content of bytes that are a frame of networks' kind, as the document says it.
func whole(b []byte) ([]byte, api.Errno) {
	switch {
	case len(b) == 0:
		return nil, api.ErrEnd
	case b[0] != 0xc7:
		return nil, api.ErrForm
	case len(b) == 1:
		return nil, api.ErrEnd
	}
	n, size, e := number(b[2:], 1<<20)
	if e != api.OK {
		return nil, e
	}
	end := 2 + size + int(n)
	switch {
	case len(b) < end+4:
		return nil, api.ErrEnd
	case !bytes.Equal(summed(b[:end]), b[:end+4]):
		return nil, api.ErrSum
	case b[1] != 3:
		return nil, api.ErrForm
	case len(b) > end+4:
		return nil, api.ErrExtra
	}
	return b[2+size : end], api.OK
}

// taken is what Take has to return, as the document says it, without the layers below.
func taken(b []byte) (api.Network, api.Errno) {
	var none, n api.Network
	content, first := whole(b)
	next := func(most uint64) int {
		if first != api.OK {
			return 0
		}
		var found uint64
		var size int
		found, size, first = number(content, most)
		content = content[size:]
		return int(found)
	}
	n.Version = next(newest)
	for range next(mostStops) {
		x := next(corner)
		y := next(corner)
		n.Stops = append(n.Stops, api.Stop{X: x, Y: y})
	}
	for range next(mostLinks) {
		a := next(mostStops - 1)
		b := next(mostStops - 1)
		w := next(heaviest)
		n.Links = append(n.Links, api.Link{A: a, B: b, W: w})
	}
	switch {
	case first != api.OK:
		return none, first
	case len(content) > 0:
		return none, api.ErrExtra
	case !right(n):
		return none, api.ErrArg
	}
	return n, api.OK
}

// near is the links of each stop to its neighbors, in order, by the words of the chapter.
func near(n api.Network) [][]api.Link {
	out := make([][]api.Link, len(n.Stops))
	for _, l := range n.Links {
		out[l.A] = append(out[l.A], l)
		out[l.B] = append(out[l.B], api.Link{A: l.B, B: l.A, W: l.W})
	}
	for _, l := range out {
		slices.SortFunc(l, order)
	}
	return out
}

// parted is the part of each stop, by the words of the chapter: the lesser ones go on along the links as long as that changes any.
func parted(n api.Network) []int {
	out := make([]int, len(n.Stops))
	for i := range out {
		out[i] = i
	}
	for changed := true; changed; {
		changed = false
		lower := func(l api.Link) {
			least := min(out[l.A], out[l.B])
			changed = changed || out[l.A] > least || out[l.B] > least
			out[l.A], out[l.B] = least, least
		}
		for _, l := range n.Links {
			lower(l)
		}
		for _, l := range slices.Backward(n.Links) {
			lower(l)
		}
	}
	return out
}

// clone is a network in memory of its own.
func clone(n api.Network) api.Network {
	return api.Network{Version: n.Version, Stops: slices.Clone(n.Stops), Links: slices.Clone(n.Links)}
}

// equal tells whether two networks are the same one.
func equal(a, b api.Network) bool {
	return a.Version == b.Version && slices.Equal(a.Stops, b.Stops) && slices.Equal(a.Links, b.Links)
}

// empty tells whether a network has nothing.
func empty(n api.Network) bool {
	return equal(n, api.Network{})
}

// places is so many positions, all over the plane.
func places(count int) []api.Stop {
	l := make([]api.Stop, count)
	next := noise(uint64(count))
	for i := range l {
		l[i] = api.Stop{X: next(corner + 1), Y: next(corner + 1)}
	}
	return l
}

// of is a network of so many stops, and of links whose A, B and W follow each other.
func of(stops int, l ...int) api.Network {
	n := api.Network{Version: 1 + stops, Stops: places(stops)}
	for i := 0; i+2 < len(l); i += 3 {
		n.Links = append(n.Links, api.Link{A: l[i], B: l[i+1], W: l[i+2]})
	}
	return n
}

// joined is a network of so many stops with links between these pairs, in order, each once.
func joined(stops int, pairs [][2]int) api.Network {
	n := of(stops)
	next := noise(uint64(len(pairs)))
	for _, p := range pairs {
		n.Links = append(n.Links, api.Link{A: min(p[0], p[1]), B: max(p[0], p[1]), W: 1 + next(heaviest)})
	}
	slices.SortFunc(n.Links, order)
	n.Links = slices.CompactFunc(n.Links, func(a, b api.Link) bool { return a.A == b.A && a.B == b.B })
	return n
}

// chain is a network in which each one of these stops is the neighbor of the next one.
func chain(stops []int) api.Network {
	var pairs [][2]int
	for i := 1; i < len(stops); i++ {
		pairs = append(pairs, [2]int{stops[i-1], stops[i]})
	}
	return joined(len(stops), pairs)
}

// star is a network in which one stop is the neighbor of all others.
func star(stops, center int) api.Network {
	var pairs [][2]int
	for i := range stops {
		if i != center {
			pairs = append(pairs, [2]int{center, i})
		}
	}
	return joined(stops, pairs)
}

// meshed is a network of so many stops, of which all are neighbors.
func meshed(stops int) api.Network {
	var pairs [][2]int
	for b := range stops {
		for a := range b {
			pairs = append(pairs, [2]int{a, b})
		}
	}
	return joined(stops, pairs)
}

// scattered is a network of so many stops, and about as many links as that.
func scattered(seed uint64, stops, links int) api.Network {
	next := noise(seed)
	var pairs [][2]int
	for range links {
		if a, b := next(stops), next(stops); a != b {
			pairs = append(pairs, [2]int{a, b})
		}
	}
	return joined(stops, pairs)
}

// full is a network of MaxStops stops and more than MaxLinks links by this number.
func full(more int) api.Network {
	n := of(mostStops)
	for i := range mostLinks + more {
		n.Links = append(n.Links, api.Link{A: i / 8, B: i/8 + 1 + i%8*250, W: 1 + i})
	}
	return n
}

// upwards is the first numbers.
func upwards(count int) []int {
	l := make([]int, count)
	for i := range l {
		l[i] = i
	}
	return l
}

// mixed is the first numbers in another order.
func mixed(seed uint64, count int) []int {
	next, l := noise(seed), upwards(count)
	for i := len(l) - 1; i > 0; i-- {
		j := next(i + 1)
		l[i], l[j] = l[j], l[i]
	}
	return l
}

// inwards is the first numbers, from both ends on by turns, so that great ones lie between small ones.
func inwards(count int) []int {
	var l []int
	for i := range count {
		if i%2 == 0 {
			l = append(l, i/2)
		} else {
			l = append(l, count-1-i/2)
		}
	}
	return l
}

// small is valid networks of few stops.
func small() []api.Network {
	out := []api.Network{
		{Version: 1},
		{Version: newest, Stops: []api.Stop{}, Links: []api.Link{}},
		{Version: 1, Stops: []api.Stop{{}}},
		{Version: 1, Stops: []api.Stop{{X: corner, Y: corner}}},
		{Version: 300, Stops: make([]api.Stop, 5)},
		{Version: newest, Stops: []api.Stop{{X: corner}, {Y: corner}}, Links: []api.Link{{A: 0, B: 1, W: heaviest}}},
		{Version: 2, Stops: make([]api.Stop, 2), Links: []api.Link{{A: 0, B: 1, W: 1}}},
		of(2),
		of(3, 0, 2, 5),
		of(3, 0, 1, 4, 1, 2, 6),
		of(3, 0, 2, 5, 1, 2, 5),
		of(3, 0, 1, 5, 0, 2, 5),
		of(4, 0, 3, 5, 1, 2, 5),
		of(4, 0, 1, 1, 2, 3, heaviest),
		of(6, 0, 5, 1, 1, 2, 1, 1, 4, 1, 2, 3, 1, 3, 4, 1),
		of(6, 1, 5, 9, 2, 4, 8, 3, 5, 7, 4, 5, 6),
	}
	for count := 1; count < 9; count++ {
		out = append(out, of(count), meshed(count), star(count, 0), star(count, count-1), star(count, count/2))
		out = append(out, chain(upwards(count)), chain(inwards(count)), chain(mixed(uint64(count), count)))
		out = append(out, scattered(uint64(count), count, count/2), scattered(uint64(count), count, count), scattered(uint64(count), count, 2*count))
	}
	return out
}

// networks is valid networks of many kinds.
func networks() []api.Network {
	out := small()
	for _, count := range []int{20, 127, 128, 129, 300} {
		out = append(out, of(count), chain(upwards(count)), chain(inwards(count)), chain(mixed(1, count)), star(count, count/2))
		out = append(out, scattered(2, count, count/3), scattered(3, count, count), scattered(4, count, 3*count))
	}
	out = append(out, meshed(181), of(mostStops-1), of(mostStops), star(mostStops, 0), star(mostStops, mostStops-1), star(mostStops, 1000))
	out = append(out, chain(upwards(mostStops)), chain(inwards(mostStops)), chain(mixed(5, mostStops)))
	return append(out, scattered(6, mostStops, 1000), scattered(7, mostStops, 3000), scattered(8, mostStops, 16000), full(-1), full(0))
}

// several is a valid network, all of whose numbers are different ones.
func several() api.Network {
	return api.Network{
		Version: 300,
		Stops:   []api.Stop{{X: 10, Y: 2000}, {X: 11, Y: 21}, {X: 400000, Y: 22}, {X: 13, Y: 23}, {X: 14, Y: 50000000}},
		Links:   []api.Link{{A: 0, B: 1, W: 5}, {A: 0, B: 4, W: 600}, {A: 1, B: 3, W: 70000}, {A: 2, B: 3, W: 8}, {A: 3, B: 4, W: 900000}},
	}
}

// withStop is a network with another stop at a place.
func withStop(n api.Network, place int, s api.Stop) api.Network {
	out := clone(n)
	out.Stops[place] = s
	return out
}

// withLink is a network with another link at a place.
func withLink(n api.Network, place int, l api.Link) api.Network {
	out := clone(n)
	out.Links[place] = l
	return out
}

// front is the first elements of a list, to be told.
func front[T any](l []T) []T {
	return l[:min(len(l), 30)]
}

// accepts asks that a network is valid, that it has these bytes, and that they are taken back.
func accepts(t *testing.T, n api.Network, b []byte) {
	t.Helper()
	before := clone(n)
	if e := graph.Check(n); e != api.OK {
		t.Errorf("Check of %v: error %d", front(numbers(n)), e)
	}
	if got, e := graph.Put(n); e != api.OK || !bytes.Equal(got, b) {
		t.Errorf("Put of %v: error %d, %d bytes % x, want %d bytes % x", front(numbers(n)), e, len(got), front(got), len(b), front(b))
	}
	if l, e := graph.Parts(n); e != api.OK || len(l) != len(n.Stops) {
		t.Errorf("Parts of %v: error %d, %d of %d stops", front(numbers(n)), e, len(l), len(n.Stops))
	}
	if !equal(n, before) {
		t.Errorf("%v was changed", front(numbers(n)))
	}
	takes(t, b, n)
}

// takes asks that bytes are taken as this network.
func takes(t *testing.T, b []byte, want api.Network) {
	t.Helper()
	before := slices.Clone(b)
	if n, e := graph.Take(b); e != api.OK || !equal(n, want) {
		t.Errorf("Take of % x: error %d, %v, want %v", front(b), e, front(numbers(n)), front(numbers(want)))
	}
	if !bytes.Equal(b, before) {
		t.Errorf("Take of % x changed the bytes", front(before))
	}
}

// refuses asks that bytes are not taken, but give an error, with nothing beside it.
func refuses(t *testing.T, b []byte, want api.Errno) {
	t.Helper()
	before := slices.Clone(b)
	if n, e := graph.Take(b); e != want || !empty(n) {
		t.Errorf("Take of %d bytes % x: error %d, %v, want error %d and nothing", len(b), front(b), e, front(numbers(n)), want)
	}
	if !bytes.Equal(b, before) {
		t.Errorf("Take of % x changed the bytes", front(before))
	}
}

// agrees asks that Take of bytes agrees with the words of the document.
func agrees(t *testing.T, b []byte) {
	t.Helper()
	if want, e := taken(b); e == api.OK {
		takes(t, b, want)
	} else {
		refuses(t, b, e)
	}
}

// rejects asks that a network is not valid: Check, Put and Parts have the error, with nothing beside it, and its bytes, if there are any, are refused too.
func rejects(t *testing.T, n api.Network, want api.Errno) {
	t.Helper()
	before := clone(n)
	if e := graph.Check(n); e != want {
		t.Errorf("Check of %v: error %d, want error %d", front(numbers(n)), e, want)
	}
	if b, e := graph.Put(n); e != want || len(b) != 0 {
		t.Errorf("Put of %v: error %d, % x, want error %d and nothing", front(numbers(n)), e, front(b), want)
	}
	if l, e := graph.Parts(n); e != want || len(l) != 0 {
		t.Errorf("Parts of %v: error %d, %v, want error %d and nothing", front(numbers(n)), e, front(l), want)
	}
	// What it answers is not promised, but it ends, and does not panic.
	for _, stop := range []int{0, 1, len(n.Stops) - 1, len(n.Stops), -1, math.MinInt, math.MaxInt} {
		graph.Near(n, stop)
	}
	if !equal(n, before) {
		t.Errorf("%v was changed", front(numbers(before)))
	}
	if _, e := taken(made(n)); e == api.OK {
		t.Fatalf("%v is valid", front(numbers(n)))
	}
	agrees(t, made(n))
}

// P15.1: networks whose bytes are known.
func TestNetworksThatAreKnown(t *testing.T) {
	// The whole of it, the checksums too.
	accepts(t, api.Network{Version: 1}, []byte{0xc7, 3, 3, 1, 0, 0, 0xa6, 0x30, 0xf8, 0xe9})
	accepts(t, api.Network{Version: 1, Stops: []api.Stop{{X: 5, Y: 6}, {X: 7, Y: 8}, {X: 9, Y: 10}}, Links: []api.Link{{A: 0, B: 2, W: 4}}},
		[]byte{0xc7, 3, 12, 1, 3, 5, 6, 7, 8, 9, 10, 1, 0, 2, 4, 0x52, 0x4c, 0x73, 0x60})

	accepts(t, api.Network{Version: newest}, summed([]byte{0xc7, 3, 5, 0x80, 0x80, 0x40, 0, 0}))
	accepts(t, api.Network{Version: 2, Stops: []api.Stop{{}}}, summed([]byte{0xc7, 3, 5, 2, 1, 0, 0, 0}))
	accepts(t, api.Network{Version: 2, Stops: []api.Stop{{X: corner, Y: 300}}}, summed([]byte{0xc7, 3, 9, 2, 1, 0xff, 0xff, 0xff, 0x1f, 0xac, 2, 0}))
	accepts(t, api.Network{Version: 2, Stops: []api.Stop{{X: 300, Y: corner}}}, summed([]byte{0xc7, 3, 9, 2, 1, 0xac, 2, 0xff, 0xff, 0xff, 0x1f, 0}))
	accepts(t, api.Network{Version: 9, Stops: make([]api.Stop, 2), Links: []api.Link{{A: 0, B: 1, W: heaviest}}},
		summed([]byte{0xc7, 3, 12, 9, 2, 0, 0, 0, 0, 1, 0, 1, 0xff, 0xff, 0x3f}))
	accepts(t, api.Network{Version: 7, Stops: []api.Stop{{X: 1, Y: 2}, {X: 5, Y: 1}, {X: 9, Y: 1}, {X: 50, Y: 51}}, Links: []api.Link{{A: 0, B: 1, W: 4}, {A: 1, B: 2, W: 6}}},
		summed([]byte{0xc7, 3, 17, 7, 4, 1, 2, 5, 1, 9, 1, 50, 51, 2, 0, 1, 4, 1, 2, 6}))
}

// P15.1: as many stops and links as there may be, and a link of the last stops.
func TestNetworkOfAllThatThereMayBe(t *testing.T) {
	n := api.Network{Version: 5, Stops: make([]api.Stop, mostStops), Links: []api.Link{{A: mostStops - 2, B: mostStops - 1, W: 1}}}
	accepts(t, n, framed(3, []byte{5, 0x80, 0x20}, make([]byte, 2*mostStops), []byte{1, 0xfe, 0x1f, 0xff, 0x1f, 1}))
	n.Links = nil
	content := slices.Concat([]byte{5, 0x80, 0x20}, make([]byte, 2*mostStops), []byte{0x80, 0x80, 1})
	for a := range 129 {
		for b := 128; b < 256 && len(n.Links) < mostLinks; b++ {
			if a < b {
				n.Links = append(n.Links, api.Link{A: a, B: b, W: 3})
				content = slices.Concat(content, plain(uint64(a)), plain(uint64(b)), []byte{3})
			}
		}
	}
	accepts(t, n, framed(3, content))
}

// P15.1, P15.3: networks of many kinds are valid, have their bytes, and are taken back from them.
func TestNetworks(t *testing.T) {
	for _, n := range networks() {
		if !right(n) {
			t.Fatalf("%v is not valid", front(numbers(n)))
		}
		accepts(t, n, made(n))
	}
}

// outside is numbers that are neither from least to most nor next to that, and those next to it.
func outside(least, most int) []int {
	var out []int
	for _, n := range []int{least - 1, least - 2, -1, -2, -most, most + 1, most + 2, 2*most + 2, 1<<32 + 1, -1<<32 + 1, 1 << 40, 1 << 62, 1<<62 + 1, math.MinInt32, math.MaxInt32, math.MinInt, math.MinInt + 1, math.MaxInt, math.MaxInt - 1} {
		if n < least || n > most {
			out = append(out, n)
		}
	}
	return out
}

// P15.1: versions from 1 to MaxVersion, and others.
func TestVersions(t *testing.T) {
	for _, n := range []api.Network{{}, of(1), several(), full(0)} {
		for _, version := range []int{1, 2, 127, 128, newest / 2, newest - 1, newest} {
			n.Version = version
			accepts(t, n, made(n))
		}
		for _, version := range append(outside(1, newest), 0) {
			n.Version = version
			rejects(t, n, api.ErrArg)
		}
	}
	rejects(t, api.Network{}, api.ErrArg)
}

// P15.1: a stop that is at the edge of the plane, or is no position, at each place.
func TestPositionsOfStops(t *testing.T) {
	for _, n := range []api.Network{of(1), several(), meshed(5)} {
		for place := range n.Stops {
			for _, at := range []int{0, 1, corner - 1, corner} {
				for _, s := range []api.Stop{{X: at}, {Y: at}, {X: at, Y: at}, {X: at, Y: corner}, {X: corner, Y: at}} {
					other := withStop(n, place, s)
					accepts(t, other, made(other))
				}
			}
			for _, at := range outside(0, corner) {
				for _, s := range []api.Stop{{X: at}, {Y: at}, {X: at, Y: at}, {X: at, Y: corner}, {X: corner, Y: at}} {
					rejects(t, withStop(n, place, s), api.ErrArg)
				}
			}
		}
	}
	for _, place := range []int{0, 1, mostStops / 2, mostStops - 1} {
		rejects(t, withStop(full(0), place, api.Stop{X: corner + 1}), api.ErrArg)
		rejects(t, withStop(of(mostStops), place, api.Stop{Y: -1}), api.ErrArg)
	}
	// Stops may be at one place, also if a link connects them.
	n := withStop(several(), 1, several().Stops[0])
	accepts(t, n, made(n))
}

// P15.1: weights from 1 to MaxWeight - 1, and others, at each place.
func TestWeights(t *testing.T) {
	for _, n := range []api.Network{of(2, 0, 1, 5), several(), meshed(5)} {
		for place, l := range n.Links {
			for _, weight := range []int{1, 2, 127, 128, heaviest - 1, heaviest} {
				l.W = weight
				other := withLink(n, place, l)
				accepts(t, other, made(other))
			}
			for _, weight := range append(outside(1, heaviest), 0) {
				l.W = weight
				rejects(t, withLink(n, place, l), api.ErrArg)
			}
		}
	}
	for _, place := range []int{0, 1, mostLinks / 2, mostLinks - 1} {
		l := full(0).Links[place]
		l.W = 0
		rejects(t, withLink(full(0), place, l), api.ErrArg)
		l.W = heaviest + 1
		rejects(t, withLink(full(0), place, l), api.ErrArg)
	}
}

// P15.1: links of a stop with itself, with A above B, and of what is no stop.
func TestEndsOfLinks(t *testing.T) {
	asks := func(stops int, ends []int) {
		for _, a := range ends {
			for _, b := range ends {
				n := of(stops, a, b, 5)
				if 0 <= a && a < b && b < stops {
					accepts(t, n, made(n))
				} else {
					rejects(t, n, api.ErrArg)
				}
			}
		}
	}
	for _, stops := range []int{0, 1, 2, 3, 5} {
		asks(stops, append(outside(0, stops-1), upwards(stops)...))
	}
	for _, stops := range []int{mostStops - 1, mostStops} {
		asks(stops, []int{-1, 0, 1, stops / 2, stops - 2, stops - 1, stops, stops + 1, math.MinInt, math.MaxInt})
	}
}

// P15.1: a link that is wrong at each place, in order with those beside it.
func TestEndsOfLinksAmongOthers(t *testing.T) {
	for place, l := range several().Links {
		for _, wrong := range []api.Link{{A: l.A, B: l.A, W: 5}, {A: l.B, B: l.A, W: 5}, {A: l.A, B: 5, W: 5}, {A: l.A, B: 4096, W: 5}, {A: l.A, B: -1, W: 5}, {A: l.A, B: math.MaxInt, W: 5}} {
			rejects(t, withLink(several(), place, wrong), api.ErrArg)
		}
	}
	rejects(t, withLink(several(), 0, api.Link{A: -1, B: 1, W: 5}), api.ErrArg)
	rejects(t, withLink(several(), 0, api.Link{A: math.MinInt, B: 4, W: 5}), api.ErrArg)
	rejects(t, withLink(several(), 4, api.Link{A: 4, B: 5, W: 5}), api.ErrArg)
	rejects(t, withLink(several(), 4, api.Link{A: 5, B: 6, W: 5}), api.ErrArg)
	rejects(t, withLink(several(), 3, api.Link{A: 3, B: 3, W: 5}), api.ErrArg)
	// What is a stop hangs on how many of them there are.
	n := several()
	n.Stops = n.Stops[:4]
	rejects(t, n, api.ErrArg)
	n.Stops = nil
	rejects(t, n, api.ErrArg)
}

// P15.1: links in order by A, then by B, and such as are not.
func TestOrderOfLinks(t *testing.T) {
	for _, l := range [][]int{
		{0, 1, 9, 0, 2, 8},
		{0, 1, 5, 0, 2, 5, 0, 3, 5, 0, 4, 5},
		{0, 1, 5, 1, 2, 5, 2, 3, 5, 3, 4, 5},
		{0, 4, 5, 1, 2, 5},
		{0, 4, 5, 1, 4, 5, 2, 4, 5, 3, 4, 5},
		{0, 4, 5, 1, 3, 5, 2, 3, 5},
		{0, 1, 5, 3, 4, 5},
		{0, 3, 9, 1, 2, 8, 2, 4, 7},
	} {
		accepts(t, of(5, l...), made(of(5, l...)))
	}
	for _, l := range [][]int{
		{0, 1, 5, 0, 1, 5},
		{0, 1, 5, 0, 1, 6},
		{0, 1, 6, 0, 1, 5},
		{0, 2, 5, 0, 1, 5},
		{1, 2, 5, 0, 1, 5},
		{1, 2, 5, 0, 3, 5},
		{1, 2, 5, 0, 4, 9},
		{0, 1, 5, 0, 2, 5, 0, 2, 5},
		{0, 1, 5, 0, 1, 5, 0, 2, 5},
		{0, 1, 5, 0, 3, 5, 0, 2, 5},
		{0, 2, 5, 0, 1, 5, 0, 3, 5},
		{0, 1, 5, 0, 2, 5, 0, 1, 5},
		{0, 1, 5, 1, 2, 5, 0, 1, 5},
		{0, 1, 5, 2, 3, 5, 1, 2, 5},
		{0, 1, 5, 2, 3, 5, 1, 4, 5},
		{1, 2, 5, 0, 1, 5, 3, 4, 5},
		{3, 4, 5, 2, 3, 5, 1, 2, 5, 0, 1, 5},
		{0, 1, 5, 1, 0, 5},
		{1, 0, 5, 0, 1, 5},
	} {
		rejects(t, of(5, l...), api.ErrArg)
	}
}

// P15.1: two links of a long list, next to each other or not, that changed places, and links that are there twice.
func TestOrderOfManyLinks(t *testing.T) {
	for _, n := range []api.Network{several(), meshed(9), full(0)} {
		last := len(n.Links) - 1
		for _, place := range []int{0, 1, 2, last / 2, last - 2, last - 1} {
			for _, other := range []int{place + 1, last, last / 3} {
				swapped := clone(n)
				swapped.Links[place], swapped.Links[other] = n.Links[other], n.Links[place]
				if place != other {
					rejects(t, swapped, api.ErrArg)
				}
			}
			rejects(t, withLink(n, place+1, n.Links[place]), api.ErrArg)
			rejects(t, withLink(n, place, n.Links[place+1]), api.ErrArg)
		}
		backwards := clone(n)
		slices.Reverse(backwards.Links)
		rejects(t, backwards, api.ErrArg)
	}
}

// faults is networks of too many stops or links, with what else may be wrong.
func faults(n api.Network) []api.Network {
	var out []api.Network
	for _, version := range []int{0, -1, newest + 1, math.MaxInt} {
		other := clone(n)
		other.Version = version
		out = append(out, other)
	}
	for _, place := range []int{0, len(n.Stops) / 2, len(n.Stops) - 1} {
		if len(n.Stops) > 0 {
			out = append(out, withStop(n, place, api.Stop{X: -1}), withStop(n, place, api.Stop{Y: corner + 1}))
		}
	}
	for _, place := range []int{0, len(n.Links) / 2, len(n.Links) - 1} {
		if len(n.Links) > 0 {
			out = append(out, withLink(n, place, api.Link{}), withLink(n, place, api.Link{A: 5, B: -4, W: -1}), withLink(n, place, api.Link{A: 0, B: math.MaxInt, W: heaviest + 1}))
		}
	}
	return out
}

// P15.1: more stops or links than there may be, whatever else is wrong.
func TestLimits(t *testing.T) {
	manyStops := full(0)
	manyStops.Stops = places(mostStops + 1)
	both := full(1)
	both.Stops = places(mostStops + 1)
	for _, n := range []api.Network{of(mostStops + 1), of(mostStops + 2), of(2 * mostStops), of(20 * mostStops), full(1), full(2), full(500), manyStops, both} {
		rejects(t, n, api.ErrLimit)
		for _, other := range faults(n) {
			rejects(t, other, api.ErrLimit)
		}
	}
	noStops := full(1)
	noStops.Stops = nil
	for _, n := range []api.Network{
		noStops,
		{Version: 1, Links: make([]api.Link, mostLinks+1)},
		{Version: 1, Links: make([]api.Link, 10*mostLinks)},
		{Links: make([]api.Link, mostLinks+1)},
		{Stops: make([]api.Stop, mostStops+1)},
		{Stops: make([]api.Stop, mostStops+1), Links: make([]api.Link, mostLinks+1)},
		{Stops: make([]api.Stop, mostStops+1), Links: make([]api.Link, 1)},
	} {
		rejects(t, n, api.ErrLimit)
	}
	// As many as there may be, and something else that is wrong.
	for _, n := range []api.Network{full(0), of(mostStops), meshed(181)} {
		for _, other := range faults(n) {
			rejects(t, other, api.ErrArg)
		}
	}
	rejects(t, api.Network{Version: 1, Links: make([]api.Link, mostLinks)}, api.ErrArg)
	rejects(t, api.Network{Stops: make([]api.Stop, mostStops)}, api.ErrArg)
}

// P15.1: the errors of layer 4 for what is no whole frame of the kind.
func TestTakeAsksLayer4(t *testing.T) {
	refuses(t, nil, api.ErrEnd)
	refuses(t, []byte{}, api.ErrEnd)
	for _, n := range []api.Network{{Version: 1}, of(3, 0, 2, 5), several()} {
		b := made(n)
		for size := range b {
			refuses(t, b[:size], api.ErrEnd)
		}
		for kind := range 256 {
			if kind != api.KindNetwork {
				refuses(t, framed(byte(kind), written(numbers(n))), api.ErrForm)
			}
		}
		for _, more := range [][]byte{{0}, {0xc7}, {0, 0, 0}, b} {
			refuses(t, slices.Concat(b, more), api.ErrExtra)
		}
		for at := 3; at < len(b); at++ {
			for bit := range 8 {
				other := slices.Clone(b)
				other[at] ^= 1 << bit
				refuses(t, other, api.ErrSum)
			}
		}
		refuses(t, append([]byte{0xc6}, b[1:]...), api.ErrForm)
		refuses(t, b[1:], api.ErrForm)
	}
	refuses(t, []byte{0xc7, 3, 0x80, 0}, api.ErrForm)
	refuses(t, slices.Concat([]byte{0xc7, 3}, plain(1<<20+1)), api.ErrLimit)
	refuses(t, slices.Concat([]byte{0xc7, 3}, plain(math.MaxUint64)), api.ErrLimit)
	refuses(t, framed(3, make([]byte, 1<<20+1)), api.ErrLimit)
	refuses(t, framed(3, make([]byte, 1<<20)), api.ErrExtra)
}

// P15.1: which of several errors of layer 4 is the first, and that all of them come ahead of those of the content.
func TestTakeAsksLayer4First(t *testing.T) {
	content := written(numbers(several()))
	none := several()
	none.Version = 0
	for _, inside := range [][]byte{content, content[:5], append(slices.Clone(content), 0), written(numbers(none)), {0x80, 0}, plain(newest + 1), {}} {
		refuses(t, framed(4, inside), api.ErrForm)
		refuses(t, append(framed(4, inside), 0), api.ErrForm)
		b := framed(3, inside)
		refuses(t, append(slices.Clone(b), 0), api.ErrExtra)
		refuses(t, b[:len(b)-1], api.ErrEnd)
		b[len(b)-1] ^= 0x80
		refuses(t, b, api.ErrSum)
		refuses(t, append(b, 0), api.ErrSum)
	}
}

// starts is where each number of a content begins, and where the last one ends.
func starts(n api.Network) []int {
	out := []int{0}
	for _, number := range numbers(n) {
		out = append(out, out[len(out)-1]+len(plain(uint64(number))))
	}
	return out
}

// P15.1: each number above its bound, up to the greatest one that bytes can have, whatever follows it.
func TestTakeBeyondEachBound(t *testing.T) {
	for _, n := range []api.Network{{Version: 1}, of(2, 0, 1, 5), several()} {
		content, at, most := written(numbers(n)), starts(n), bounds(n)
		for i := range most {
			bound := uint64(most[i])
			for _, above := range []uint64{bound + 1, bound + 2, 2*bound + 2, 1 << 31, 1 << 32, 1<<32 + 1, 1 << 40, 1 << 62, 1<<62 + 1, math.MaxInt, math.MaxInt + 1, math.MaxUint64} {
				ahead := slices.Concat(content[:at[i]], plain(above))
				refuses(t, framed(3, ahead), api.ErrLimit)
				refuses(t, framed(3, ahead, content[at[i+1]:]), api.ErrLimit)
				refuses(t, framed(3, ahead, content[at[i+1]:], []byte{0}), api.ErrLimit)
				refuses(t, framed(3, ahead, []byte{0x80, 0}), api.ErrLimit)
			}
			// The bound itself is read, whatever becomes of it.
			for _, number := range []uint64{0, 1, bound - 1, bound} {
				agrees(t, framed(3, content[:at[i]], plain(number), content[at[i+1]:]))
				agrees(t, framed(3, content[:at[i]], plain(number), []byte{0x80, 0}))
			}
		}
	}
}

// P15.1: numbers that layer 1 refuses, at each place.
func TestTakeOfMalformedNumbers(t *testing.T) {
	nine, zeros := bytes.Repeat([]byte{0xff}, 9), bytes.Repeat([]byte{0x80}, 9)
	for _, n := range []api.Network{{Version: 1}, of(2, 0, 1, 5), several()} {
		content, at := written(numbers(n)), starts(n)
		for i := range len(at) - 1 {
			for _, b := range [][]byte{{0x80, 0}, {0x81, 0}, {0x80, 0x80, 0}, slices.Concat(zeros, []byte{0}), slices.Concat(zeros, []byte{2}), slices.Concat(nine, []byte{2}), slices.Concat(nine, []byte{0x81, 0})} {
				refuses(t, framed(3, content[:at[i]], b), api.ErrForm)
				refuses(t, framed(3, content[:at[i]], b, content[at[i+1]:]), api.ErrForm)
				refuses(t, framed(3, content[:at[i]], b, content[at[i+1]:], []byte{0}), api.ErrForm)
				refuses(t, framed(3, content[:at[i]], b, plain(1<<40)), api.ErrForm)
			}
			for size := 1; size <= 9; size++ {
				refuses(t, framed(3, content[:at[i]], nine[:size]), api.ErrEnd)
				refuses(t, framed(3, content[:at[i]], zeros[:size]), api.ErrEnd)
			}
		}
	}
}

// P15.1: contents that end within a number, or between two of them.
func TestTakeOfBytesThatEnd(t *testing.T) {
	for _, n := range small() {
		content := written(numbers(n))
		for size := range content {
			refuses(t, framed(3, content[:size]), api.ErrEnd)
		}
	}
	for _, n := range []api.Network{full(0), of(mostStops), meshed(181)} {
		content := written(numbers(n))
		for _, size := range []int{1, 2, 3, 5, 1000, len(content) / 2, len(content) - 2, len(content) - 1} {
			refuses(t, framed(3, content[:size]), api.ErrEnd)
		}
	}
	refuses(t, framed(3), api.ErrEnd)
	refuses(t, framed(3, []byte{0}), api.ErrEnd)
	refuses(t, framed(3, []byte{0, 0}), api.ErrEnd)
	refuses(t, framed(3, []byte{1, 0}), api.ErrEnd)
}

// P15.1: bytes that remain in the content, ahead of what else is wrong with the network.
func TestTakeOfBytesThatRemain(t *testing.T) {
	for _, n := range small() {
		none, self := clone(n), clone(n)
		none.Version = 0
		self.Links = append(self.Links, api.Link{A: 0, B: 0, W: 5})
		for _, more := range [][]byte{{0}, {1}, {0x80}, {0x80, 0}, made(n), make([]byte, 1000)} {
			for _, other := range []api.Network{n, none, self} {
				refuses(t, framed(3, written(numbers(other)), more), api.ErrExtra)
			}
		}
	}
	for _, n := range []api.Network{full(0), of(mostStops)} {
		refuses(t, framed(3, written(numbers(n)), []byte{0}), api.ErrExtra)
	}
}

// P15.1: a number of stops or links above or below what the content has.
func TestTakeOfOtherCounts(t *testing.T) {
	content := []byte{9, 4, 1, 2, 3, 4, 5, 6, 7, 8, 2, 0, 1, 5, 1, 2, 6}
	takes(t, framed(3, content), api.Network{Version: 9, Stops: []api.Stop{{X: 1, Y: 2}, {X: 3, Y: 4}, {X: 5, Y: 6}, {X: 7, Y: 8}}, Links: []api.Link{{A: 0, B: 1, W: 5}, {A: 1, B: 2, W: 6}}})
	for count := range 20 {
		other := slices.Clone(content)
		other[1] = byte(count)
		agrees(t, framed(3, other))
		other = slices.Clone(content)
		other[10] = byte(count)
		switch {
		case count < 2:
			refuses(t, framed(3, other), api.ErrExtra)
		case count > 2:
			refuses(t, framed(3, other), api.ErrEnd)
		}
	}
	for _, count := range []int{9, 127, 128, mostStops - 1, mostStops} {
		refuses(t, framed(3, []byte{9}, plain(uint64(count)), content[2:]), api.ErrEnd)
	}
	for _, count := range []int{3, 127, 128, mostLinks - 1, mostLinks} {
		refuses(t, framed(3, content[:10], plain(uint64(count)), content[11:]), api.ErrEnd)
	}
	// As many stops or links as the number says do not help one that is too great.
	for _, n := range []api.Network{of(mostStops + 1), full(1)} {
		refuses(t, made(n), api.ErrLimit)
	}
}

// P15.1: bytes that are read, but are no valid network.
func TestTakeOfNone(t *testing.T) {
	for _, content := range [][]byte{
		{0, 0, 0},
		{0, 1, 5, 5, 0},
		{1, 0, 1, 0, 1, 5},
		{1, 1, 5, 5, 1, 0, 1, 5},
		{1, 1, 5, 5, 1, 0, 0, 5},
		{1, 2, 5, 5, 5, 5, 1, 0, 0, 5},
		{1, 2, 5, 5, 5, 5, 1, 1, 1, 5},
		{1, 2, 5, 5, 5, 5, 1, 1, 0, 5},
		{1, 2, 5, 5, 5, 5, 1, 0, 2, 5},
		{1, 2, 5, 5, 5, 5, 1, 1, 2, 5},
		{1, 2, 5, 5, 5, 5, 1, 0, 1, 0},
		{0, 2, 5, 5, 5, 5, 1, 0, 1, 5},
		{1, 2, 5, 5, 5, 5, 2, 0, 1, 5, 0, 1, 5},
		{1, 3, 5, 5, 5, 5, 5, 5, 2, 0, 2, 5, 0, 1, 5},
		{1, 3, 5, 5, 5, 5, 5, 5, 2, 1, 2, 5, 0, 1, 5},
	} {
		refuses(t, framed(3, content), api.ErrArg)
	}
	takes(t, framed(3, []byte{1, 2, 5, 5, 5, 5, 1, 0, 1, 5}), api.Network{Version: 1, Stops: []api.Stop{{X: 5, Y: 5}, {X: 5, Y: 5}}, Links: []api.Link{{A: 0, B: 1, W: 5}}})
}

// P15.1: bytes and contents with one byte that is another one.
func TestTakeOfOtherBytes(t *testing.T) {
	for _, n := range []api.Network{{Version: 1}, of(3, 0, 2, 5), several()} {
		b, content := made(n), written(numbers(n))
		for c := range 256 {
			for at := range b {
				other := slices.Clone(b)
				other[at] = byte(c)
				agrees(t, other)
			}
			for at := range content {
				other := slices.Clone(content)
				other[at] = byte(c)
				agrees(t, framed(3, other))
			}
		}
	}
}

// neighbors asks for the links of a stop to its neighbors, whose B and W follow each other.
func neighbors(t *testing.T, n api.Network, stop int, want ...int) {
	t.Helper()
	var links []api.Link
	for i := 0; i+1 < len(want); i += 2 {
		links = append(links, api.Link{A: stop, B: want[i], W: want[i+1]})
	}
	if l := graph.Near(n, stop); !slices.Equal(l, links) {
		t.Errorf("Near of %d of %d stops over %v is %v, want %v", stop, len(n.Stops), front(n.Links), front(l), front(links))
	}
}

// P15.2: neighbors that are known: of a stop without any, of one that is A of its links, B of them, or both.
func TestNear(t *testing.T) {
	n := of(5, 0, 1, 4, 1, 2, 6)
	neighbors(t, n, 0, 1, 4)
	neighbors(t, n, 1, 0, 4, 2, 6)
	neighbors(t, n, 2, 1, 6)
	neighbors(t, n, 3)
	neighbors(t, n, 4)

	n = of(6, 0, 3, 10, 1, 3, 20, 2, 3, 30, 2, 5, 40, 3, 4, 50, 3, 5, 60)
	neighbors(t, n, 0, 3, 10)
	neighbors(t, n, 1, 3, 20)
	neighbors(t, n, 2, 3, 30, 5, 40)
	neighbors(t, n, 3, 0, 10, 1, 20, 2, 30, 4, 50, 5, 60)
	neighbors(t, n, 4, 3, 50)
	neighbors(t, n, 5, 2, 40, 3, 60)

	n = of(4, 0, 1, 3, 0, 2, 2, 0, 3, 1)
	neighbors(t, n, 0, 1, 3, 2, 2, 3, 1)
	neighbors(t, n, 1, 0, 3)
	neighbors(t, n, 3, 0, 1)

	n = of(4, 0, 3, 3, 1, 3, 2, 2, 3, 1)
	neighbors(t, n, 3, 0, 3, 1, 2, 2, 1)
	neighbors(t, n, 0, 3, 3)
	neighbors(t, n, 2, 3, 1)

	n = of(2, 0, 1, heaviest)
	neighbors(t, n, 0, 1, heaviest)
	neighbors(t, n, 1, 0, heaviest)

	neighbors(t, several(), 0, 1, 5, 4, 600)
	neighbors(t, several(), 1, 0, 5, 3, 70000)
	neighbors(t, several(), 2, 3, 8)
	neighbors(t, several(), 3, 1, 70000, 2, 8, 4, 900000)
	neighbors(t, several(), 4, 0, 600, 3, 900000)
}

// P15.2: what is no stop has no neighbors, and neither have the stops of a network without links.
func TestNearOfNone(t *testing.T) {
	for _, n := range append(networks(), api.Network{}) {
		count := len(n.Stops)
		for _, stop := range []int{-1, -2, -count, count, count + 1, 2*count + 1, mostStops, 1 << 32, 1<<32 + 1, -1 << 32, math.MinInt, math.MaxInt} {
			if stop < 0 || stop >= count {
				neighbors(t, n, stop)
			}
		}
	}
	for _, count := range []int{1, 2, 100, mostStops} {
		for stop := range count {
			neighbors(t, of(count), stop)
		}
	}
}

// P15.2: the neighbors of all stops of networks of many kinds.
func TestNearOfNetworks(t *testing.T) {
	for _, n := range networks() {
		before, want := clone(n), near(n)
		for stop := range n.Stops {
			if l := graph.Near(n, stop); !slices.Equal(l, want[stop]) {
				t.Fatalf("Near of %d of %d stops is %v, want %v", stop, len(n.Stops), front(l), front(want[stop]))
			}
		}
		if !equal(n, before) {
			t.Errorf("%v was changed", front(numbers(before)))
		}
	}
}

// P15.3: being neighbors is symmetric, with the same weight, and each link is one of two stops alone.
func TestNeighborsAreSymmetric(t *testing.T) {
	for _, n := range networks() {
		var near [][]api.Link
		for stop := range n.Stops {
			near = append(near, graph.Near(n, stop))
		}
		count := 0
		for stop, links := range near {
			for _, l := range links {
				count++
				if !slices.Contains(near[l.B], api.Link{A: l.B, B: stop, W: l.W}) {
					t.Fatalf("%d is no neighbor of %d, which is one of it over %v", stop, l.B, l)
				}
			}
		}
		if count != 2*len(n.Links) {
			t.Errorf("%d neighbors over %d links", count, len(n.Links))
		}
	}
}

// parts asks for the parts of all stops.
func parts(t *testing.T, n api.Network, want ...int) {
	t.Helper()
	if l, e := graph.Parts(n); e != api.OK || !slices.Equal(l, want) {
		t.Errorf("Parts of %d stops over %v: error %d, %v, want %v", len(n.Stops), front(n.Links), e, front(l), front(want))
	}
}

// P15.2: the chapter's example, and other parts that are known.
func TestParts(t *testing.T) {
	parts(t, of(3, 0, 2, 5), 0, 1, 0)
	parts(t, of(0))
	parts(t, of(1), 0)
	parts(t, of(2), 0, 1)
	parts(t, of(2, 0, 1, 5), 0, 0)
	parts(t, of(5), 0, 1, 2, 3, 4)
	parts(t, of(5, 3, 4, 5), 0, 1, 2, 3, 3)
	parts(t, of(5, 1, 2, 5, 2, 3, 5), 0, 1, 1, 1, 4)
	// Over a greater one alone.
	parts(t, of(3, 0, 2, 5, 1, 2, 5), 0, 0, 0)
	parts(t, of(4, 1, 3, 5, 2, 3, 5), 0, 1, 1, 1)
	parts(t, of(5, 0, 4, 5, 1, 3, 5, 2, 3, 5, 2, 4, 5), 0, 0, 0, 0, 0)
	parts(t, of(6, 0, 3, 5, 1, 4, 5, 2, 5, 5, 3, 4, 5, 4, 5, 5), 0, 0, 0, 0, 0, 0)
	// Two parts of equal size.
	parts(t, of(4, 0, 1, 5, 2, 3, 5), 0, 0, 2, 2)
	parts(t, of(4, 0, 2, 5, 1, 3, 5), 0, 1, 0, 1)
	parts(t, of(4, 0, 3, 5, 1, 2, 5), 0, 1, 1, 0)
	parts(t, of(6, 0, 2, 5, 1, 3, 5, 2, 4, 5, 3, 5, 5), 0, 1, 0, 1, 0, 1)
	parts(t, of(6, 0, 5, 5, 1, 2, 5, 1, 3, 5, 4, 5, 5), 0, 1, 1, 1, 0, 0)
	// Rings of stops.
	parts(t, of(6, 0, 1, 5, 0, 2, 5, 1, 2, 5, 3, 4, 5, 3, 5, 5, 4, 5, 5), 0, 0, 0, 3, 3, 3)
	// One part more, and less, by a link.
	parts(t, of(7, 0, 6, 5, 1, 5, 5, 2, 4, 5), 0, 1, 2, 3, 2, 1, 0)
	parts(t, of(7, 0, 6, 5, 1, 5, 5, 2, 4, 5, 4, 5, 5), 0, 1, 1, 3, 1, 1, 0)
	parts(t, of(7, 0, 6, 5, 1, 5, 5, 2, 4, 5, 4, 5, 5, 5, 6, 5), 0, 0, 0, 3, 0, 0, 0)
	parts(t, several(), 0, 0, 0, 0, 0)
}

// P15.2: no link at all, one long chain, in whatever order its stops are, and long chains of two parts.
func TestPartsOfManyStops(t *testing.T) {
	for _, count := range []int{2, 3, 50, mostStops - 1, mostStops} {
		zeros := make([]int, count)
		parts(t, of(count), upwards(count)...)
		parts(t, chain(upwards(count)), zeros...)
		parts(t, chain(inwards(count)), zeros...)
		for seed := range 10 {
			parts(t, chain(mixed(uint64(seed), count)), zeros...)
		}
		parts(t, star(count, 0), zeros...)
		parts(t, star(count, count-1), zeros...)
		parts(t, star(count, count/2), zeros...)
		var pairs [][2]int
		want := []int{0, 1}
		for i := 2; i < count; i++ {
			pairs = append(pairs, [2]int{i - 2, i})
			want = append(want, i%2)
		}
		parts(t, joined(count, pairs), want[:count]...)
	}
	parts(t, meshed(181), make([]int, 181)...)
}

// P15.2, P15.3: the parts of networks of many kinds; neighbors belong to the same one.
func TestPartsOfNetworks(t *testing.T) {
	for _, n := range networks() {
		parts(t, n, parted(n)...)
		l, _ := graph.Parts(n)
		for i, a := range n.Links {
			if l[a.A] != l[a.B] {
				t.Fatalf("the link %d is of the parts %d and %d", i, l[a.A], l[a.B])
			}
		}
		for stop, part := range l {
			if part > stop || l[part] != part {
				t.Fatalf("the part of %d is %d, whose part is %d", stop, part, l[part])
			}
		}
	}
}

// P15.2: weights, positions and versions make no difference to the parts.
func TestPartsHangOnLinksAlone(t *testing.T) {
	for _, n := range small() {
		want := parted(n)
		for _, weight := range []int{1, heaviest} {
			other := clone(n)
			other.Version = newest
			for i := range other.Links {
				other.Links[i].W = weight
			}
			for i := range other.Stops {
				other.Stops[i] = api.Stop{}
			}
			parts(t, other, want...)
		}
	}
}

// spare is a copy of a list with memory behind its end, which holds something.
func spare[T any](l []T, something T) []T {
	out := slices.Clone(l)
	for range 20 {
		out = append(out, something)
	}
	return out[:len(l)]
}

// No argument is changed: not a network, not bytes, and not what lies behind them in memory.
func TestArgumentsAreNotChanged(t *testing.T) {
	for _, n := range networks() {
		stops, links := spare(n.Stops, api.Stop{X: -7}), spare(n.Links, api.Link{A: -7})
		b := spare(made(n), 77)
		other := api.Network{Version: n.Version, Stops: stops, Links: links}
		accepts(t, other, b)
		graph.Near(other, 0)
		if !slices.Equal(stops[:len(stops)+20], append(slices.Clone(n.Stops), slices.Repeat([]api.Stop{{X: -7}}, 20)...)) {
			t.Errorf("stops of %v, or what lies behind them, were changed", front(numbers(n)))
		}
		if !slices.Equal(links[:len(links)+20], append(slices.Clone(n.Links), slices.Repeat([]api.Link{{A: -7}}, 20)...)) {
			t.Errorf("links of %v, or what lies behind them, were changed", front(numbers(n)))
		}
		if !bytes.Equal(b[:len(b)+20], append(made(n), bytes.Repeat([]byte{77}, 20)...)) {
			t.Errorf("the bytes of %v, or what lies behind them, were changed", front(numbers(n)))
		}
	}
}

// spoil overwrites all memory of a list.
func spoil[T any](l []T, with T) {
	l = l[:cap(l)]
	for i := range l {
		l[i] = with
	}
}

// An answer is new memory, which shares none with an argument or with another answer, and nothing is kept.
func TestAnswersAreNewMemory(t *testing.T) {
	for _, want := range append(small(), full(0)) {
		n := clone(want)
		for range 2 {
			b, _ := graph.Put(n)
			accepts(t, n, b)
			first, _ := graph.Take(b)
			second, _ := graph.Take(b)
			spoil(b, 77)
			spoil(first.Stops, api.Stop{X: -7})
			if !equal(api.Network{Version: first.Version, Stops: second.Stops, Links: first.Links}, want) {
				t.Errorf("stops and links of an answer of Take are memory of each other, or of the bytes")
			}
			spoil(first.Links, api.Link{A: -7})
			if !equal(second, want) {
				t.Errorf("an answer of Take is memory of another one, or of the bytes")
			}
			for stop := range min(len(n.Stops), 10) {
				spoil(graph.Near(n, stop), api.Link{A: -7})
			}
			l, _ := graph.Parts(n)
			other, _ := graph.Parts(n)
			spoil(l, -7)
			if !slices.Equal(other, parted(want)) || !equal(n, want) {
				t.Errorf("an answer of Near or Parts is memory of the network, or of another answer")
			}
		}
	}
}

// P15.1 for bytes of any kind, as they are and within a right frame.
func FuzzTake(f *testing.F) {
	for _, n := range append(small(), several()) {
		f.Add(made(n))
		f.Add(written(numbers(n)))
		f.Add(written(numbers(n))[1:])
	}
	f.Add([]byte{})
	f.Add([]byte{1, 2, 5, 5, 5, 5, 2, 0, 1, 5, 0, 1, 5})
	f.Fuzz(func(t *testing.T, b []byte) {
		three := written(numbers(of(3)))
		for _, c := range [][]byte{b, framed(3, b), framed(2, b), framed(3, []byte{1}, b), framed(3, three[:len(three)-1], b)} {
			agrees(t, c)
			if n, e := graph.Take(c); e == api.OK {
				accepts(t, n, c)
			}
		}
	})
}

// P15.1, P15.2 and P15.3 for networks of any kind, with another number at one place.
func FuzzNetwork(f *testing.F) {
	f.Add(uint64(1), 10, 20, 0, 1)
	f.Add(uint64(2), mostStops, 3000, 1, corner+1)
	f.Add(uint64(3), mostStops+1, 16000, 2, 5)
	f.Add(uint64(4), 3, 3, 9, -1)
	f.Add(uint64(5), 30, 20, 63, 5)
	f.Add(uint64(6), 300, 20000, 1000, 0)
	f.Add(uint64(7), 1000, 40000, 0, 7)
	f.Fuzz(func(t *testing.T, seed uint64, stops, links, place, with int) {
		n := scattered(seed, 1+stops&(2*mostStops-1), links&(4*mostLinks-1))
		judges(t, n)
		n = scattered(seed, 1+stops&63, links&127)
		judges(t, n)
		for _, other := range []api.Network{n, scattered(seed, 1+stops&7, links&7)} {
			l := numbers(other)
			at := place & math.MaxInt % len(l)
			first := 2 + 2*len(other.Stops)
			switch {
			case at == 0:
				other.Version = with
			case at > first:
				link := &other.Links[(at-first-1)/3]
				*[]*int{&link.A, &link.B, &link.W}[(at-first-1)%3] = with
			case at > 1 && at < first:
				stop := &other.Stops[(at-2)/2]
				*[]*int{&stop.X, &stop.Y}[at%2] = with
			}
			judges(t, other)
			agrees(t, framed(3, written(slices.Replace(l, at, at+1, with))))
		}
	})
}

// judges asks that all calls agree with the words of the document for a network.
func judges(t *testing.T, n api.Network) {
	t.Helper()
	switch {
	case right(n):
		accepts(t, n, made(n))
		parts(t, n, parted(n)...)
		want := near(n)
		for stop := range min(len(n.Stops), 100) {
			if l := graph.Near(n, stop); !slices.Equal(l, want[stop]) {
				t.Errorf("Near of %d of %d stops is %v, want %v", stop, len(n.Stops), front(l), front(want[stop]))
			}
		}
	case len(n.Stops) > mostStops || len(n.Links) > mostLinks:
		rejects(t, n, api.ErrLimit)
	default:
		rejects(t, n, api.ErrArg)
	}
}
