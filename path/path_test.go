package path_test

import (
	"cmp"
	"math"
	"slices"
	"testing"

	"viaticum/api"
	"viaticum/path"
)

const (
	newest    = 1 << 20   // the greatest version
	corner    = 1<<26 - 1 // the greatest coordinate
	heaviest  = 1<<20 - 1 // the greatest weight
	mostStops = 4096      // as many stops as a network may have
	mostLinks = 1 << 14   // as many links
)

// noise is numbers that are spread over all values, the same ones for the same seed.
func noise(seed uint64) func(most int) int {
	x := seed*2654435761 + 88172645463325252
	return func(most int) int {
		x ^= x << 13
		x ^= x >> 7
		x ^= x << 17
		return int(x >> 11 % uint64(most))
	}
}

// order is below 0 if one link comes ahead of another one.
func order(a, b api.Link) int {
	return cmp.Or(cmp.Compare(a.A, b.A), cmp.Compare(a.B, b.B))
}

// right is whether a network is valid, by the words of layer 15.
func right(n api.Network) bool {
	ok := n.Version >= 1 && n.Version <= newest && len(n.Stops) <= mostStops && len(n.Links) <= mostLinks
	for _, s := range n.Stops {
		ok = ok && s.X >= 0 && s.X <= corner && s.Y >= 0 && s.Y <= corner
	}
	for i, l := range n.Links {
		ok = ok && l.A >= 0 && l.B > l.A && l.B <= len(n.Stops)-1 && l.W >= 1 && l.W <= heaviest
		ok = ok && (i == 0 || order(n.Links[i-1], l) < 0)
	}
	return ok
}

// distances is those of all stops from one of them, by the words of the chapter: they sink along the links as long as that changes any.
func distances(n api.Network, from int) []int {
	out := slices.Repeat([]int{-1}, len(n.Stops))
	out[from] = 0
	changed := true
	sink := func(a, b, w int) {
		if out[a] >= 0 && (out[b] < 0 || out[b] > out[a]+w) {
			out[b] = out[a] + w
			changed = true
		}
	}
	for changed {
		changed = false
		for _, l := range n.Links {
			sink(l.A, l.B, l.W)
			sink(l.B, l.A, l.W)
		}
		for _, l := range slices.Backward(n.Links) {
			sink(l.A, l.B, l.W)
			sink(l.B, l.A, l.W)
		}
	}
	return out
}

// preceding is the stop before another one, by the words of the chapter: the least neighbor that suits.
func preceding(n api.Network, far []int, stop int) int {
	least := math.MaxInt
	for _, l := range n.Links {
		if l.B == stop && far[l.A]+l.W == far[stop] {
			least = min(least, l.A)
		}
		if l.A == stop && far[l.B]+l.W == far[stop] {
			least = min(least, l.B)
		}
	}
	return least
}

// best is the best path to a stop that has these distances from the first one, by the words of the chapter.
func best(n api.Network, far []int, from, to int) []int {
	out := []int{to}
	for to != from {
		to = preceding(n, far, to)
		out = slices.Insert(out, 0, to)
	}
	return out
}

// weight is the weight of a path, and whether it is one, by the words of the chapter.
func weight(n api.Network, way []int) (int, bool) {
	sum := 0
	for i, stop := range way {
		if stop < 0 || stop >= len(n.Stops) {
			return 0, false
		}
		if i == 0 {
			continue
		}
		at := slices.IndexFunc(n.Links, func(l api.Link) bool {
			return l.A == way[i-1] && l.B == stop || l.B == way[i-1] && l.A == stop
		})
		if at < 0 {
			return 0, false
		}
		sum += n.Links[at].W
	}
	return sum, len(way) > 0
}

// clone is a network in memory of its own.
func clone(n api.Network) api.Network {
	return api.Network{Version: n.Version, Stops: slices.Clone(n.Stops), Links: slices.Clone(n.Links)}
}

// equal tells whether two networks are the same one.
func equal(a, b api.Network) bool {
	return a.Version == b.Version && slices.Equal(a.Stops, b.Stops) && slices.Equal(a.Links, b.Links)
}

// of is a network of so many stops, and of links whose A, B and W follow each other.
func of(stops int, l ...int) api.Network {
	n := api.Network{Version: 1 + stops, Stops: make([]api.Stop, stops)}
	for i := range n.Stops {
		n.Stops[i] = api.Stop{X: corner - 7*i, Y: i * i}
	}
	for i := 0; i+2 < len(l); i += 3 {
		n.Links = append(n.Links, api.Link{A: l[i], B: l[i+1], W: l[i+2]})
	}
	return n
}

// joined is a network of so many stops with links between these pairs, in order, each once, of weights up to most.
func joined(stops, most int, pairs [][2]int) api.Network {
	n := of(stops)
	next := noise(uint64(len(pairs)))
	for _, p := range pairs {
		n.Links = append(n.Links, api.Link{A: min(p[0], p[1]), B: max(p[0], p[1]), W: 1 + next(most)})
	}
	slices.SortFunc(n.Links, order)
	n.Links = slices.CompactFunc(n.Links, func(a, b api.Link) bool { return a.A == b.A && a.B == b.B })
	return n
}

// chain is a network in which each one of these stops is the neighbor of the next one.
func chain(most int, stops []int) api.Network {
	var pairs [][2]int
	for i := 1; i < len(stops); i++ {
		pairs = append(pairs, [2]int{stops[i-1], stops[i]})
	}
	return joined(len(stops), most, pairs)
}

// circle is a chain whose last stop is the neighbor of its first one.
func circle(most int, stops []int) api.Network {
	var pairs [][2]int
	for i := range stops {
		pairs = append(pairs, [2]int{stops[i], stops[(i+1)%len(stops)]})
	}
	return joined(len(stops), most, pairs)
}

// star is a network in which one stop is the neighbor of all others.
func star(stops, most, center int) api.Network {
	var pairs [][2]int
	for i := range stops {
		if i != center {
			pairs = append(pairs, [2]int{center, i})
		}
	}
	return joined(stops, most, pairs)
}

// meshed is a network of so many stops, of which all are neighbors.
func meshed(stops, most int) api.Network {
	var pairs [][2]int
	for b := range stops {
		for a := range b {
			pairs = append(pairs, [2]int{a, b})
		}
	}
	return joined(stops, most, pairs)
}

// squares is a network of stops in rows, each of which is the neighbor of that beside it and of that above it.
func squares(rows, columns, most int) api.Network {
	var pairs [][2]int
	for i := range rows * columns {
		if i%columns > 0 {
			pairs = append(pairs, [2]int{i - 1, i})
		}
		if i >= columns {
			pairs = append(pairs, [2]int{i - columns, i})
		}
	}
	return joined(rows*columns, most, pairs)
}

// scattered is a network of so many stops, and about as many links as that.
func scattered(seed uint64, stops, links, most int) api.Network {
	next := noise(seed)
	var pairs [][2]int
	for range links {
		if a, b := next(stops), next(stops); a != b {
			pairs = append(pairs, [2]int{a, b})
		}
	}
	return joined(stops, most, pairs)
}

// full is a network of MaxStops stops and more than MaxLinks links by this number.
func full(more int) api.Network {
	n := of(mostStops)
	for i := range mostLinks + more {
		n.Links = append(n.Links, api.Link{A: i / 8, B: i/8 + 1 + i%8*250, W: 1 + i})
	}
	return n
}

// upwards is the first numbers.
func upwards(count int) []int {
	l := make([]int, count)
	for i := range l {
		l[i] = i
	}
	return l
}

// mixed is the first numbers in another order.
func mixed(seed uint64, count int) []int {
	next, l := noise(seed), upwards(count)
	for i := len(l) - 1; i > 0; i-- {
		j := next(i + 1)
		l[i], l[j] = l[j], l[i]
	}
	return l
}

// small is valid networks of few stops: with weights of which many paths have the same, and with all weights.
func small() []api.Network {
	out := []api.Network{
		{Version: 1, Stops: []api.Stop{{}}},
		{Version: newest, Stops: []api.Stop{{X: corner, Y: corner}}, Links: []api.Link{}},
		{Version: 1, Stops: make([]api.Stop, 5)},
		of(2),
		of(2, 0, 1, 1),
		of(2, 0, 1, heaviest),
		of(3, 0, 2, 5),
		of(3, 0, 1, 4, 1, 2, 6),
		of(4, 0, 3, 5, 1, 2, 5),
		of(6, 0, 5, 1, 1, 2, 1, 1, 4, 1, 2, 3, 1, 3, 4, 1),
		of(6, 1, 5, 9, 2, 4, 8, 3, 5, 7, 4, 5, 6),
	}
	for _, most := range []int{1, 2, 5, 300, heaviest} {
		for count := 1; count < 9; count++ {
			out = append(out, meshed(count, most), star(count, most, 0), star(count, most, count-1), star(count, most, count/2))
			out = append(out, chain(most, upwards(count)), chain(most, mixed(uint64(count), count)))
			out = append(out, scattered(uint64(count), count, count/2, most), scattered(uint64(count), count, count, most), scattered(uint64(count), count, 2*count, most))
			if count > 2 {
				out = append(out, circle(most, upwards(count)), circle(most, mixed(uint64(count), count)))
			}
		}
		out = append(out, squares(2, 5, most), squares(3, 3, most))
	}
	return out
}

// middle is valid networks of more stops.
func middle() []api.Network {
	var out []api.Network
	for _, most := range []int{1, 3, 1000, heaviest} {
		out = append(out, of(40), meshed(24, most), star(30, most, 11), chain(most, upwards(40)), chain(most, mixed(3, 50)), circle(most, mixed(4, 45)), squares(6, 7, most))
		for seed := range uint64(4) {
			out = append(out, scattered(seed, 40, 20, most), scattered(seed, 50, 60, most), scattered(seed, 30, 100, most))
		}
	}
	return out
}

// great is valid networks of as many stops or links as there may be.
func great() []api.Network {
	var out []api.Network
	for _, most := range []int{1, 4, heaviest} {
		out = append(out, meshed(181, most), star(mostStops, most, 1000), squares(64, 64, most))
		out = append(out, scattered(6, mostStops, 3000, most), scattered(7, mostStops, 16000, most))
	}
	return append(out, of(mostStops), full(0))
}

// front is the first elements of a list, to be told.
func front[T any](l []T) []T {
	return l[:min(len(l), 30)]
}

// from asks for the distances from a stop.
func from(t *testing.T, n api.Network, stop int, want ...int) {
	t.Helper()
	if far, e := path.From(n, stop); e != api.OK || !slices.Equal(far, want) {
		t.Errorf("From %d of %d stops over %v: error %d, %v, want %v", stop, len(n.Stops), front(n.Links), e, front(far), front(want))
	}
}

// goes asks for the best path from its first stop to its last one, and for their distance.
func goes(t *testing.T, n api.Network, far int, want ...int) {
	t.Helper()
	a, b := want[0], want[len(want)-1]
	if way, sum, e := path.Way(n, a, b); e != api.OK || sum != far || !slices.Equal(way, want) {
		t.Errorf("Way from %d to %d over %v: error %d, %v of %d, want %v of %d", a, b, front(n.Links), e, front(way), sum, front(want), far)
	}
	weighs(t, n, far, want...)
}

// apart asks that there is no path between two stops, in both directions.
func apart(t *testing.T, n api.Network, a, b int) {
	t.Helper()
	fails(t, n, a, b, api.ErrNone)
	fails(t, n, b, a, api.ErrNone)
}

// fails asks that Way has an error, and nothing beside it.
func fails(t *testing.T, n api.Network, a, b int, want api.Errno) {
	t.Helper()
	if way, sum, e := path.Way(n, a, b); e != want || sum != 0 || len(way) != 0 {
		t.Errorf("Way from %d to %d of %d stops over %v: error %d, %v of %d, want error %d and nothing", a, b, len(n.Stops), front(n.Links), e, front(way), sum, want)
	}
}

// lacks asks that From has an error, and nothing beside it.
func lacks(t *testing.T, n api.Network, stop int, want api.Errno) {
	t.Helper()
	if far, e := path.From(n, stop); e != want || len(far) != 0 {
		t.Errorf("From %d of %d stops over %v: error %d, %v, want error %d and nothing", stop, len(n.Stops), front(n.Links), e, front(far), want)
	}
}

// weighs asks for the weight of a path.
func weighs(t *testing.T, n api.Network, want int, way ...int) {
	t.Helper()
	if sum, ok := path.Weight(n, way); sum != want || !ok {
		t.Errorf("Weight of %v over %v is %d, %v, want %d", front(way), front(n.Links), sum, ok, want)
	}
}

// noWay asks that Weight says that stops are no path.
func noWay(t *testing.T, n api.Network, way ...int) {
	t.Helper()
	if sum, ok := path.Weight(n, way); sum != 0 || ok {
		t.Errorf("Weight of %v of %d stops over %v is %d, %v, want nothing", front(way), len(n.Stops), front(n.Links), sum, ok)
	}
}

// suits asks that From of a stop, and Way to these, agree with the words of the chapter.
func suits(t *testing.T, n api.Network, stop int, ends ...int) {
	t.Helper()
	far := distances(n, stop)
	from(t, n, stop, far...)
	for _, end := range ends {
		if far[end] < 0 {
			fails(t, n, stop, end, api.ErrNone)
		} else {
			goes(t, n, far[end], best(n, far, stop, end)...)
		}
	}
}

// P17.1, P17.2: the example of the chapter.
func TestExample(t *testing.T) {
	n := of(3, 0, 1, 4, 1, 2, 6)
	from(t, n, 0, 0, 4, 10)
	from(t, n, 1, 4, 0, 6)
	from(t, n, 2, 10, 6, 0)
	goes(t, n, 10, 0, 1, 2)
	goes(t, n, 10, 2, 1, 0)
	goes(t, n, 4, 0, 1)
	weighs(t, n, 10, 0, 1, 2)
}

// P17.1, P17.2: one stop, two without a link and with one, and no stop at all.
func TestFewestStops(t *testing.T) {
	from(t, of(1), 0, 0)
	goes(t, of(1), 0, 0)
	weighs(t, of(1), 0, 0)
	noWay(t, of(1), 0, 0)

	from(t, of(2), 0, 0, -1)
	from(t, of(2), 1, -1, 0)
	apart(t, of(2), 0, 1)
	noWay(t, of(2), 0, 1)

	for _, w := range []int{1, 2, 1000, heaviest - 1, heaviest} {
		n := of(2, 0, 1, w)
		from(t, n, 0, 0, w)
		from(t, n, 1, w, 0)
		goes(t, n, w, 0, 1)
		goes(t, n, w, 1, 0)
	}

	for _, stop := range []int{0, 1, -1, math.MinInt, math.MaxInt} {
		lacks(t, of(0), stop, api.ErrArg)
		fails(t, of(0), stop, stop, api.ErrArg)
		noWay(t, of(0), stop)
	}
}

// P17.1, P17.2: -1 for the stops of other parts, between which there is no path.
func TestParts(t *testing.T) {
	n := of(8, 0, 3, 5, 1, 2, 4, 1, 6, 1, 3, 7, 2)
	from(t, n, 0, 0, -1, -1, 5, -1, -1, -1, 7)
	from(t, n, 1, -1, 0, 4, -1, -1, -1, 1, -1)
	from(t, n, 2, -1, 4, 0, -1, -1, -1, 5, -1)
	from(t, n, 3, 5, -1, -1, 0, -1, -1, -1, 2)
	from(t, n, 4, -1, -1, -1, -1, 0, -1, -1, -1)
	from(t, n, 5, -1, -1, -1, -1, -1, 0, -1, -1)
	from(t, n, 6, -1, 1, 5, -1, -1, -1, 0, -1)
	from(t, n, 7, 7, -1, -1, 2, -1, -1, -1, 0)
	part := []int{0, 1, 1, 0, 2, 3, 1, 0}
	for a := range part {
		for b := range part {
			if part[a] != part[b] {
				apart(t, n, a, b)
			}
		}
	}
	goes(t, n, 7, 0, 3, 7)
	goes(t, n, 5, 6, 1, 2)
}

// P17.1, P17.2: 0 from a stop to itself, and the way from a stop to itself is the stop.
func TestStopToItself(t *testing.T) {
	for _, n := range slices.Concat(small(), middle(), []api.Network{of(mostStops), full(0)}) {
		for _, stop := range []int{0, len(n.Stops) / 2, len(n.Stops) - 1} {
			goes(t, n, 0, stop)
			if far, e := path.From(n, stop); e != api.OK || far[stop] != 0 {
				t.Errorf("from %d to itself: error %d, %d", stop, e, far[stop])
			}
		}
	}
}

// P17.2: of paths with the same weight the one that has the least stop before each stop, seen from its end.
func TestPathsOfTheSameWeight(t *testing.T) {
	// Over 1 or over 2.
	square := of(4, 0, 1, 5, 0, 2, 5, 1, 3, 5, 2, 3, 5)
	goes(t, square, 10, 0, 1, 3)
	goes(t, square, 10, 3, 1, 0)
	goes(t, square, 10, 1, 0, 2)
	goes(t, square, 10, 2, 0, 1)
	// Of different links, the lighter one first or last.
	goes(t, of(4, 0, 1, 9, 0, 2, 1, 1, 3, 1, 2, 3, 9), 10, 0, 1, 3)
	goes(t, of(4, 0, 1, 1, 0, 2, 9, 1, 3, 9, 2, 3, 1), 10, 0, 1, 3)
	// 2 is reached ahead of 1, and 1 by the greater number of links.
	goes(t, of(5, 0, 2, 4, 0, 4, 2, 1, 3, 2, 1, 4, 4, 2, 3, 4), 8, 0, 4, 1, 3)

	// The least stop in front of the end leads over the greater one behind the beginning, and the other way round.
	cross := of(6, 0, 1, 1, 0, 2, 1, 1, 4, 1, 2, 3, 1, 3, 5, 1, 4, 5, 1)
	goes(t, cross, 3, 0, 2, 3, 5)
	goes(t, cross, 3, 5, 4, 1, 0)

	// A single link, or several: the least stop decides, not the number of links.
	goes(t, of(3, 0, 1, 5, 0, 2, 10, 1, 2, 5), 10, 0, 2)
	goes(t, of(3, 0, 1, 5, 0, 2, 10, 1, 2, 5), 10, 2, 1, 0)
	goes(t, of(3, 0, 1, 10, 0, 2, 5, 1, 2, 5), 10, 1, 0)
	goes(t, of(3, 0, 1, 10, 0, 2, 5, 1, 2, 5), 10, 0, 1)
	goes(t, of(3, 0, 1, 5, 0, 2, 5, 1, 2, 10), 10, 1, 0, 2)
	goes(t, of(3, 0, 1, 5, 0, 2, 5, 1, 2, 10), 10, 2, 0, 1)

	// Any order of many in the middle.
	n := of(12)
	for _, at := range []int{0, 11} {
		for i := 1; i < 11; i++ {
			n.Links = append(n.Links, api.Link{A: min(at, i), B: max(at, i), W: 5})
		}
	}
	slices.SortFunc(n.Links, order)
	goes(t, n, 10, 0, 1, 11)
	goes(t, n, 10, 11, 1, 0)
	for i := 2; i < 11; i++ {
		goes(t, n, 10, 1, 0, i)
		goes(t, n, 10, i, 0, 1)
	}

	// All paths to the right and downwards: over the upper stops first, where the end is approached from above.
	rows := squares(4, 4, 1)
	goes(t, rows, 6, 0, 1, 2, 3, 7, 11, 15)
	goes(t, rows, 6, 15, 11, 7, 3, 2, 1, 0)
	goes(t, rows, 6, 12, 8, 4, 0, 1, 2, 3)
	goes(t, rows, 6, 3, 2, 1, 0, 4, 8, 12)
}

// P17.1, P17.2: a way of more links that is shorter than one of fewer, by little and by much.
func TestMoreLinks(t *testing.T) {
	n := of(3, 0, 1, 4, 0, 2, 11, 1, 2, 6)
	from(t, n, 0, 0, 4, 10)
	goes(t, n, 10, 0, 1, 2)
	goes(t, n, 10, 2, 1, 0)
	goes(t, of(3, 0, 1, 4, 0, 2, 9, 1, 2, 6), 9, 0, 2)

	n = of(5, 0, 1, 1, 0, 4, 5, 1, 2, 1, 2, 3, 1, 3, 4, 1)
	from(t, n, 0, 0, 1, 2, 3, 4)
	goes(t, n, 4, 0, 1, 2, 3, 4)
	n = of(5, 0, 1, heaviest, 0, 4, 1, 1, 2, 1, 2, 3, 1, 3, 4, 1)
	from(t, n, 0, 0, 4, 3, 2, 1)
	goes(t, n, 4, 0, 4, 3, 2, 1)

	// A stop that is reached three times, each time by more links of less weight.
	n = of(6, 0, 1, 1, 0, 2, 10, 0, 3, 100, 0, 4, 1000, 1, 2, 2, 2, 3, 4, 3, 4, 8, 4, 5, 16)
	from(t, n, 0, 0, 1, 3, 7, 15, 31)
	goes(t, n, 31, 0, 1, 2, 3, 4, 5)
	goes(t, n, 31, 5, 4, 3, 2, 1, 0)

	// All stops in a row, and a link from the first one to the last one.
	long := circle(1, upwards(mostStops))
	at := slices.IndexFunc(long.Links, func(l api.Link) bool { return l.B == mostStops-1 && l.A == 0 })
	long.Links[at].W = mostStops
	goes(t, long, mostStops-1, upwards(mostStops)...)
	long.Links[at].W = mostStops - 1
	goes(t, long, mostStops-1, 0, mostStops-1)
}

// P17.1, P17.2: a chain of all stops with the greatest weights, in order and not.
func TestLongestChain(t *testing.T) {
	for _, stops := range [][]int{upwards(mostStops), mixed(5, mostStops)} {
		n := chain(1, stops)
		for i := range n.Links {
			n.Links[i].W = heaviest
		}
		far := make([]int, mostStops)
		for i, stop := range stops {
			far[stop] = i * heaviest
		}
		from(t, n, stops[0], far...)
		goes(t, n, 4095*1048575, stops...)
		for i, stop := range stops {
			far[stop] = (mostStops - 1 - i) * heaviest
		}
		from(t, n, stops[mostStops-1], far...)
		slices.Reverse(stops)
		goes(t, n, 4095*1048575, stops...)
		goes(t, n, 95*heaviest, stops[1000:1096]...)
	}
}

// P17.1, P17.2, P17.3: each stop as the first one and as the last one, by the words of the chapter.
func TestNetworks(t *testing.T) {
	for _, n := range slices.Concat(small(), middle()) {
		if !right(n) {
			t.Fatalf("%v is not valid", front(n.Links))
		}
		for stop := range n.Stops {
			suits(t, n, stop, upwards(len(n.Stops))...)
		}
	}
}

// P17.1, P17.2: networks of as many stops or links as there may be.
func TestGreatNetworks(t *testing.T) {
	for _, n := range great() {
		if !right(n) {
			t.Fatalf("%v is not valid", front(n.Links))
		}
		last := len(n.Stops) - 1
		for _, stop := range []int{0, 1, last / 2, last} {
			suits(t, n, stop, 0, 1, last/3, last/2, last-1, last)
		}
	}
}

// each is all networks of so many stops, each two of which have a link of a weight up to most, or none.
func each(stops, most int) func(yield func(api.Network) bool) {
	return func(yield func(api.Network) bool) {
		var pairs [][2]int
		for a := range stops {
			for b := a + 1; b < stops; b++ {
				pairs = append(pairs, [2]int{a, b})
			}
		}
		count := 1
		for range pairs {
			count *= most + 1
		}
		for code := range count {
			n := of(stops)
			for _, p := range pairs {
				if w := code % (most + 1); w > 0 {
					n.Links = append(n.Links, api.Link{A: p[0], B: p[1], W: w})
				}
				code /= most + 1
			}
			if !yield(n) {
				return
			}
		}
	}
}

// P17.1, P17.2: every network of up to four stops with weights up to 3, and of five with weights of 1.
func TestEveryNetwork(t *testing.T) {
	for _, size := range [][2]int{{1, 3}, {2, 3}, {3, 6}, {4, 3}, {5, 1}} {
		for n := range each(size[0], size[1]) {
			for stop := range n.Stops {
				suits(t, n, stop, upwards(len(n.Stops))...)
			}
		}
	}
}

// lightest is the least weight of a path that comes by no stop twice, over each of these; -1 if there is none.
func lightest(n api.Network, way []int, to int) int {
	last := way[len(way)-1]
	if last == to {
		sum, _ := weight(n, way)
		return sum
	}
	least := -1
	for _, l := range n.Links {
		for _, next := range []api.Link{l, {A: l.B, B: l.A}} {
			if next.A != last || slices.Contains(way, next.B) {
				continue
			}
			if sum := lightest(n, append(slices.Clone(way), next.B), to); sum >= 0 && (least < 0 || sum < least) {
				least = sum
			}
		}
	}
	return least
}

// P17.3: the distance is the least weight of all paths, and the best path has exactly this weight.
func TestNoPathIsLighter(t *testing.T) {
	for _, n := range small() {
		if len(n.Stops) > 6 {
			continue
		}
		for a := range n.Stops {
			far, e := path.From(n, a)
			for b := range n.Stops {
				least := lightest(n, []int{a}, b)
				if e != api.OK || far[b] != least {
					t.Fatalf("From %d over %v: error %d, %v, but the lightest path to %d has %d", a, n.Links, e, far, b, least)
				}
				way, sum, e := path.Way(n, a, b)
				if least < 0 {
					fails(t, n, a, b, api.ErrNone)
					continue
				}
				if e != api.OK || sum != least || way[0] != a || way[len(way)-1] != b {
					t.Fatalf("Way from %d to %d over %v: error %d, %v of %d, but the lightest path has %d", a, b, n.Links, e, way, sum, least)
				}
				weighs(t, n, least, way...)
			}
		}
	}
}

// table is all distances of a network, by From.
func table(t *testing.T, n api.Network) [][]int {
	t.Helper()
	var out [][]int
	for stop := range n.Stops {
		far, e := path.From(n, stop)
		if e != api.OK || len(far) != len(n.Stops) {
			t.Fatalf("From %d of %d stops: error %d, %d distances", stop, len(n.Stops), e, len(far))
		}
		out = append(out, far)
	}
	return out
}

// P17.3: distances are the same both ways, no path over a third stop is shorter, and no path along a link.
func TestSymmetry(t *testing.T) {
	for _, n := range append(middle(), meshed(60, heaviest), scattered(9, 100, 150, heaviest), scattered(10, 100, 400, 9), squares(10, 10, 50)) {
		far := table(t, n)
		for a := range far {
			if far[a][a] != 0 {
				t.Fatalf("%d from %d to itself", far[a][a], a)
			}
			for b := range far {
				if far[a][b] != far[b][a] || a != b && far[a][b] == 0 || far[a][b] < -1 {
					t.Fatalf("%d from %d to %d, %d back, over %v", far[a][b], a, b, far[b][a], front(n.Links))
				}
				for c := range far {
					if far[a][c] < 0 || far[c][b] < 0 {
						continue
					}
					if far[a][b] < 0 || far[a][b] > far[a][c]+far[c][b] {
						t.Fatalf("%d from %d to %d, but over %d %d and %d", far[a][b], a, b, c, far[a][c], far[c][b])
					}
				}
			}
		}
		for _, l := range n.Links {
			if far[l.A][l.B] < 1 || far[l.A][l.B] > l.W {
				t.Fatalf("%d from %d to %d, which have a link of %d", far[l.A][l.B], l.A, l.B, l.W)
			}
		}
	}
}

// P17.2: each piece of a best path that begins where it begins is a best path.
func TestBeginningsOfBestPaths(t *testing.T) {
	for _, n := range middle() {
		last := len(n.Stops) - 1
		far, e := path.From(n, last)
		if e != api.OK {
			t.Fatal(e)
		}
		for stop := range n.Stops {
			way, _, _ := path.Way(n, last, stop)
			for size := 1; size <= len(way); size++ {
				goes(t, n, far[way[size-1]], way[:size]...)
			}
		}
	}
}

// P17.1: the weight of a link is the same in both directions, for each link.
func TestWeightOfLinks(t *testing.T) {
	for _, n := range append(middle(), full(0), meshed(181, heaviest), star(mostStops, heaviest, 7)) {
		step := 1 + len(n.Links)/300
		for i := 0; i < len(n.Links); i += step {
			l := n.Links[i]
			weighs(t, n, l.W, l.A, l.B)
			weighs(t, n, l.W, l.B, l.A)
		}
		for i := range n.Stops[:min(len(n.Stops), 40)] {
			weighs(t, n, 0, i)
		}
	}
}

// P17.1: paths of one stop, that go there and back, that turn in a circle, and that are not the best ones.
func TestWeightOfPaths(t *testing.T) {
	n := of(5, 0, 1, 4, 0, 2, 100, 1, 2, 6, 1, 3, 10, 2, 4, heaviest)
	for stop := range 5 {
		weighs(t, n, 0, stop)
	}
	weighs(t, n, 10, 0, 1, 2)
	weighs(t, n, 100, 0, 2)
	weighs(t, n, 8, 0, 1, 0)
	weighs(t, n, 12, 0, 1, 0, 1)
	weighs(t, n, 20, 1, 3, 1)
	weighs(t, n, 110, 0, 1, 2, 0)
	weighs(t, n, 110, 0, 2, 1, 0)
	weighs(t, n, 220, 0, 1, 2, 0, 1, 2, 0)
	weighs(t, n, 130, 1, 0, 2, 1, 3, 1)
	weighs(t, n, 120+2*heaviest, 3, 1, 2, 4, 2, 0, 1)
	weighs(t, n, 16+heaviest, 4, 2, 1, 3)
}

// P17.1: what is no path: nothing, stops that do not exist at each place, stops that are not neighbors, a stop twice in a row.
func TestWeightOfNoPaths(t *testing.T) {
	n := of(5, 0, 1, 4, 0, 2, 100, 1, 2, 6, 1, 3, 10, 2, 4, heaviest)
	noWay(t, n)
	noWay(t, of(1))
	if sum, ok := path.Weight(n, []int{}); sum != 0 || ok {
		t.Errorf("an empty way has the weight %d", sum)
	}
	paths := [][]int{{0}, {0, 1}, {2, 1}, {0, 1, 2}, {3, 1, 2, 4}, {0, 1, 0}, {0, 1, 2, 0, 1}}
	strangers := []int{-1, -2, 5, 6, 100, mostStops, 1 << 32, 1<<32 + 1, -1 << 32, math.MinInt, math.MaxInt}
	for _, way := range paths {
		for place := range len(way) + 1 {
			for _, stranger := range strangers {
				noWay(t, n, slices.Insert(slices.Clone(way), place, stranger)...)
				if place < len(way) {
					noWay(t, n, slices.Replace(slices.Clone(way), place, place+1, stranger)...)
				}
			}
			if place < len(way) {
				noWay(t, n, slices.Insert(slices.Clone(way), place, way[place])...)
			}
		}
	}
	for _, stranger := range strangers {
		noWay(t, n, stranger)
		noWay(t, n, stranger, stranger)
	}
	for _, way := range [][]int{{0, 3}, {3, 0}, {0, 4}, {3, 2}, {3, 4}, {1, 4}, {0, 1, 4}, {3, 0, 1}, {0, 1, 3, 2}, {0, 1, 2, 3}, {4, 2, 0, 3}, {4, 3, 1, 0}} {
		noWay(t, n, way...)
	}
	// A number too great for the stops, though it is in bounds for others.
	noWay(t, of(mostStops), 0, mostStops-1)
	noWay(t, of(mostStops), mostStops)
	weighs(t, of(mostStops), 0, mostStops-1)
}

// P17.1: Weight of every list of up to four numbers, in every network of three stops and some of four.
func TestWeightOfEveryWay(t *testing.T) {
	some := []api.Network{of(4, 0, 1, 7, 1, 2, 5, 1, 3, 3), of(4, 0, 3, 1, 1, 2, 1), of(4, 0, 2, 9, 0, 3, 8, 1, 3, 7, 2, 3, 6), meshed(4, heaviest)}
	for n := range each(3, 2) {
		some = append(some, n)
	}
	for _, n := range some {
		width := len(n.Stops) + 2
		for size := range 5 {
			count := 1
			for range size {
				count *= width
			}
			for code := range count {
				way := make([]int, size)
				for i := range way {
					way[i] = code%width - 1
					code /= width
				}
				if want, ok := weight(n, way); ok {
					weighs(t, n, want, way...)
				} else {
					noWay(t, n, way...)
				}
			}
		}
	}
}

// P17.1: a path of very many stops, whose weight is far above each distance, and one that fails at its end.
func TestWeightOfLongPaths(t *testing.T) {
	n := full(0)
	last := n.Links[len(n.Links)-1]
	way := slices.Repeat([]int{last.A, last.B}, 1<<19)
	weighs(t, n, (1<<20-1)*last.W, way...)
	noWay(t, n, append(way, last.B)...)
	noWay(t, n, append(way, mostStops)...)
	weighs(t, n, (1<<20)*last.W, append(way, last.A)...)

	round := of(2, 0, 1, heaviest)
	weighs(t, round, (1<<20-1)*heaviest, slices.Repeat([]int{0, 1}, 1<<19)...)
}

// P17.1, P17.2: a stop that does not exist, as each of the arguments.
func TestStopsThatDoNotExist(t *testing.T) {
	for _, n := range append(small(), of(mostStops), full(0)) {
		count := len(n.Stops)
		for _, stranger := range []int{-1, -2, -count, count, count + 1, 2 * count, 1<<32 + count - 1, 1 << 32, -1 << 32, math.MinInt, math.MinInt + 1, math.MaxInt, math.MaxInt - 1} {
			lacks(t, n, stranger, api.ErrArg)
			fails(t, n, stranger, stranger, api.ErrArg)
			fails(t, n, stranger, -1, api.ErrArg)
			fails(t, n, count, stranger, api.ErrArg)
			for _, stop := range []int{0, count / 2, count - 1} {
				fails(t, n, stranger, stop, api.ErrArg)
				fails(t, n, stop, stranger, api.ErrArg)
			}
		}
	}
	if far, e := path.From(of(mostStops), mostStops-1); e != api.OK || far[mostStops-1] != 0 {
		t.Error(e)
	}
}

// refused is networks that Check of layer 15 refuses, each in one of its ways, with the error.
func refused() map[api.Errno][]api.Network {
	base := of(5, 0, 1, 4, 0, 2, 5, 1, 2, 6, 1, 3, 10, 3, 4, 7)
	var wrong []api.Network
	for _, version := range []int{0, -1, newest + 1, math.MinInt, math.MaxInt} {
		n := clone(base)
		n.Version = version
		wrong = append(wrong, n)
	}
	for _, at := range []int{-1, corner + 1, math.MinInt, math.MaxInt} {
		for _, s := range []api.Stop{{X: at}, {Y: at}} {
			for place := range base.Stops {
				n := clone(base)
				n.Stops[place] = s
				wrong = append(wrong, n)
			}
		}
	}
	for place, l := range base.Links {
		for _, other := range []api.Link{
			{A: l.A, B: l.B}, {A: l.A, B: l.B, W: -1}, {A: l.A, B: l.B, W: heaviest + 1}, {A: l.A, B: l.B, W: math.MinInt}, {A: l.A, B: l.B, W: math.MaxInt},
			{A: l.A, B: l.A, W: 5}, {A: l.B, B: l.A, W: 5}, {A: -1, B: l.B, W: 5}, {A: l.A, B: -1, W: 5}, {A: l.A, B: 5, W: 5}, {A: 5, B: 6, W: 5},
			{A: math.MinInt, B: l.B, W: 5}, {A: l.A, B: math.MaxInt, W: 5}, {},
		} {
			n := clone(base)
			n.Links[place] = other
			wrong = append(wrong, n)
		}
		for other := range place {
			n := clone(base)
			n.Links[place], n.Links[other] = n.Links[other], n.Links[place]
			wrong = append(wrong, n)
		}
		n := clone(base)
		n.Links = slices.Insert(n.Links, place, l)
		wrong = append(wrong, n)
	}
	short, none := clone(base), clone(base)
	short.Stops, none.Stops = short.Stops[:4], nil
	wrong = append(wrong, short, none, api.Network{}, api.Network{Stops: make([]api.Stop, 5)})

	manyStops := full(0)
	manyStops.Stops = make([]api.Stop, mostStops+1)
	many := []api.Network{of(mostStops + 1), of(3 * mostStops), full(1), full(500), manyStops, {Stops: make([]api.Stop, mostStops+1)}, {Links: make([]api.Link, mostLinks+1)}}
	return map[api.Errno][]api.Network{api.ErrArg: wrong, api.ErrLimit: many}
}

// P17.1, P17.2: the error of Check comes first, whatever the stops are.
func TestNetworksThatAreRefused(t *testing.T) {
	for want, l := range refused() {
		for _, n := range l {
			before := clone(n)
			if right(n) {
				t.Fatalf("%v is valid", front(n.Links))
			}
			for _, a := range []int{0, 1, 4, len(n.Stops) - 1, len(n.Stops), -1, math.MinInt, math.MaxInt} {
				lacks(t, n, a, want)
				for _, b := range []int{0, 2, 4, len(n.Stops), -1, math.MaxInt} {
					fails(t, n, a, b, want)
				}
			}
			// What Weight answers here is not promised: it has nothing to tell.
			for _, way := range [][]int{nil, {0}, {0, 1}, {1, 0}, {0, 1, 2}, {0, 0}, {4, 3, 1}, {-1}, {5, 6}, {0, 5}, {math.MaxInt, math.MinInt}} {
				noWay(t, n, way...)
			}
			if !equal(n, before) {
				t.Errorf("%v was changed", front(before.Links))
			}
		}
	}
}

// P17.1, P17.2: positions and versions make no difference, nor does a nil list or an empty one.
func TestDistancesHangOnLinksAlone(t *testing.T) {
	for _, n := range small() {
		other := clone(n)
		other.Version = newest
		for i := range other.Stops {
			other.Stops[i] = api.Stop{X: i, Y: corner}
		}
		if len(other.Links) == 0 {
			other.Links = []api.Link{}
		}
		for stop := range n.Stops {
			from(t, other, stop, distances(n, stop)...)
			suits(t, other, stop, 0, len(n.Stops)-1)
		}
	}
}

// spare is a copy of a list with memory behind its end, which holds something.
func spare[T any](l []T, something T) []T {
	out := slices.Clone(l)
	for range 20 {
		out = append(out, something)
	}
	return out[:len(l)]
}

// intact asks that a list, and what lies behind its end, is as it was.
func intact[T comparable](t *testing.T, l, before []T, something T) {
	t.Helper()
	if !slices.Equal(l[:len(l)+20], append(slices.Clone(before), slices.Repeat([]T{something}, 20)...)) {
		t.Errorf("%v, or what lies behind it, became %v", front(before), front(l))
	}
}

// No argument is changed: not a network, not a way, and not what lies behind them in memory.
func TestArgumentsAreNotChanged(t *testing.T) {
	for _, n := range append(small(), squares(6, 6, 2), full(0)) {
		stops, links := spare(n.Stops, api.Stop{X: -7}), spare(n.Links, api.Link{A: -7})
		other := api.Network{Version: n.Version, Stops: stops, Links: links}
		last := len(n.Stops) - 1
		suits(t, other, 0, last, 0)
		suits(t, other, last, 0)
		way := spare([]int{last, 0, last, 0}, -7)
		path.Weight(other, way)
		lacks(t, other, -1, api.ErrArg)
		intact(t, stops, n.Stops, api.Stop{X: -7})
		intact(t, links, n.Links, api.Link{A: -7})
		intact(t, way, []int{last, 0, last, 0}, -7)
	}
}

// spoil overwrites all memory of a list.
func spoil(l []int) {
	l = l[:cap(l)]
	for i := range l {
		l[i] = -7
	}
}

// An answer is new memory, and nothing is kept: the same call has the same answer again, and a network that changes has others.
func TestAnswersAreNewMemory(t *testing.T) {
	for _, n := range append(small(), squares(6, 6, 2), full(0)) {
		before, last := clone(n), len(n.Stops)-1
		want := distances(n, last)
		for range 3 {
			far, _ := path.From(n, last)
			other, _ := path.From(n, last)
			spoil(far)
			if !slices.Equal(other, want) {
				t.Errorf("the answers of From share memory")
			}
			if want[0] >= 0 {
				way, _, _ := path.Way(n, last, 0)
				again, _, _ := path.Way(n, last, 0)
				spoil(way)
				if !slices.Equal(again, best(n, want, last, 0)) {
					t.Errorf("the answers of Way share memory")
				}
			}
			suits(t, n, last, 0)
		}
		if !equal(n, before) {
			t.Errorf("the network was changed with an answer")
		}
		for i := range n.Links {
			n.Links[i].W = 1 + n.Links[i].W/2
		}
		suits(t, n, last, 0, last/2)
	}
}

// all asks that all calls agree with the words of the chapter for a network of any kind.
func all(t *testing.T, n api.Network, a, b int, way []int) {
	t.Helper()
	stops := func(l ...int) bool {
		return !slices.ContainsFunc(l, func(stop int) bool { return stop < 0 || stop >= len(n.Stops) })
	}
	refusal := api.ErrArg
	if len(n.Stops) > mostStops || len(n.Links) > mostLinks {
		refusal = api.ErrLimit
	}
	if right(n) && stops(a, b) {
		suits(t, n, a, a, b)
		suits(t, n, b, a)
	} else {
		fails(t, n, a, b, refusal)
	}
	if !right(n) || !stops(a) {
		lacks(t, n, a, refusal)
	}
	if want, ok := weight(n, way); ok && right(n) {
		weighs(t, n, want, way...)
	} else {
		noWay(t, n, way...)
	}
}

// walk is stops that follow each other along links, by the bytes, and now and then do not.
func walk(n api.Network, b []byte) []int {
	var out []int
	for i, c := range b {
		var near []int
		for _, l := range n.Links {
			if i > 0 && l.A == out[i-1] {
				near = append(near, l.B)
			}
			if i > 0 && l.B == out[i-1] {
				near = append(near, l.A)
			}
		}
		if len(near) == 0 || c == 255 {
			out = append(out, int(c)%(len(n.Stops)+2)-1)
		} else {
			out = append(out, near[int(c)%len(near)])
		}
	}
	return out
}

// P17.1, P17.2 and P17.3 for networks of any kind, valid ones and others, stops of any kind, and ways.
func FuzzPath(f *testing.F) {
	f.Add(uint64(1), 10, 20, 0, 0, 9, 0, []byte{0, 1, 2, 3})
	f.Add(uint64(2), 60, 100, 3, 5, 50, 0, []byte{9, 8, 7, 6, 5, 4, 3, 2, 1})
	f.Add(uint64(3), 30, 200, heaviest-1, 30, 1, 0, []byte{255, 255})
	f.Add(uint64(4), 5, 5, 0, -1, 2, 0, []byte{0, 255, 0})
	f.Add(uint64(5), 20, 60, 1, 2, 2, 5, []byte{})
	f.Add(uint64(6), 200, 900, 7, 2, 190, 60000, []byte{1, 1, 1, 1, 1, 1, 1, 1})
	f.Fuzz(func(t *testing.T, seed uint64, stops, links, most, a, b, wrong int, steps []byte) {
		n := scattered(seed, 1+stops&127, links&511, 1+most&(heaviest-1))
		way := walk(n, steps[:min(len(steps), 200)])
		all(t, n, a, b, way)
		all(t, n, (a&math.MaxInt)%len(n.Stops), (b&math.MaxInt)%len(n.Stops), way)
		if len(n.Links) == 0 {
			return
		}
		l := &n.Links[(a&math.MaxInt)%len(n.Links)]
		*[]*int{&l.A, &l.B, &l.W}[(b&math.MaxInt)%3] = wrong
		all(t, n, (a&math.MaxInt)%len(n.Stops), 0, way)
	})
}
