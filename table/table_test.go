package table_test

import (
	"cmp"
	"math"
	"runtime"
	"slices"
	"testing"

	"viaticum/api"
	"viaticum/table"
)

const (
	newest    = 1 << 20   // the greatest version
	corner    = 1<<26 - 1 // the greatest coordinate
	heaviest  = 1<<20 - 1 // the greatest weight
	mostStops = 4096      // as many stops as a network may have
	mostLinks = 1 << 14   // as many links
	mostRound = 512       // as many stops as Round answers for
)

// noise is numbers that are spread over all values, the same ones for the same seed.
func noise(seed uint64) func(most int) int {
	x := seed*2654435761 + 88172645463325252
	return func(most int) int {
		x ^= x << 13
		x ^= x >> 7
		x ^= x << 17
		return int(x >> 11 % uint64(most))
	}
}

// order is below 0 if one link comes ahead of another one.
func order(a, b api.Link) int {
	return cmp.Or(cmp.Compare(a.A, b.A), cmp.Compare(a.B, b.B))
}

// right is whether a network is valid, by the words of layer 15.
func right(n api.Network) bool {
	ok := n.Version >= 1 && n.Version <= newest && len(n.Stops) <= mostStops && len(n.Links) <= mostLinks
	for _, s := range n.Stops {
		ok = ok && s.X >= 0 && s.X <= corner && s.Y >= 0 && s.Y <= corner
	}
	for i, l := range n.Links {
		ok = ok && l.A >= 0 && l.B > l.A && l.B <= len(n.Stops)-1 && l.W >= 1 && l.W <= heaviest
		ok = ok && (i == 0 || order(n.Links[i-1], l) < 0)
	}
	return ok
}

// distances is those of all stops from one of them, by the words of the chapter: they sink along the links as long as that changes any.
func distances(n api.Network, from int) []int {
	out := slices.Repeat([]int{-1}, len(n.Stops))
	out[from] = 0
	changed := true
	sink := func(a, b, w int) {
		if out[a] >= 0 && (out[b] < 0 || out[b] > out[a]+w) {
			out[b] = out[a] + w
			changed = true
		}
	}
	for changed {
		changed = false
		for _, l := range n.Links {
			sink(l.A, l.B, l.W)
			sink(l.B, l.A, l.W)
		}
		for _, l := range slices.Backward(n.Links) {
			sink(l.A, l.B, l.W)
			sink(l.B, l.A, l.W)
		}
	}
	return out
}

// clone is a network in memory of its own.
func clone(n api.Network) api.Network {
	return api.Network{Version: n.Version, Stops: slices.Clone(n.Stops), Links: slices.Clone(n.Links)}
}

// equal tells whether two networks are the same one.
func equal(a, b api.Network) bool {
	return a.Version == b.Version && slices.Equal(a.Stops, b.Stops) && slices.Equal(a.Links, b.Links)
}

// of is a network of so many stops, and of links whose A, B and W follow each other.
func of(stops int, l ...int) api.Network {
	n := api.Network{Version: 1 + stops, Stops: make([]api.Stop, stops)}
	for i := range n.Stops {
		n.Stops[i] = api.Stop{X: corner - 7*i, Y: i * i}
	}
	for i := 0; i+2 < len(l); i += 3 {
		n.Links = append(n.Links, api.Link{A: l[i], B: l[i+1], W: l[i+2]})
	}
	return n
}

// joined is a network of so many stops with links between these pairs, in order, each once, of weights up to most.
func joined(stops, most int, pairs [][2]int) api.Network {
	n := of(stops)
	next := noise(uint64(len(pairs)))
	for _, p := range pairs {
		n.Links = append(n.Links, api.Link{A: min(p[0], p[1]), B: max(p[0], p[1]), W: 1 + next(most)})
	}
	slices.SortFunc(n.Links, order)
	n.Links = slices.CompactFunc(n.Links, func(a, b api.Link) bool { return a.A == b.A && a.B == b.B })
	return n
}

// chain is a network in which each one of these stops is the neighbor of the next one.
func chain(most int, stops []int) api.Network {
	var pairs [][2]int
	for i := 1; i < len(stops); i++ {
		pairs = append(pairs, [2]int{stops[i-1], stops[i]})
	}
	return joined(len(stops), most, pairs)
}

// circle is a chain whose last stop is the neighbor of its first one.
func circle(most int, stops []int) api.Network {
	var pairs [][2]int
	for i := range stops {
		pairs = append(pairs, [2]int{stops[i], stops[(i+1)%len(stops)]})
	}
	return joined(len(stops), most, pairs)
}

// star is a network in which one stop is the neighbor of all others.
func star(stops, most, center int) api.Network {
	var pairs [][2]int
	for i := range stops {
		if i != center {
			pairs = append(pairs, [2]int{center, i})
		}
	}
	return joined(stops, most, pairs)
}

// meshed is a network of so many stops, of which all are neighbors.
func meshed(stops, most int) api.Network {
	var pairs [][2]int
	for b := range stops {
		for a := range b {
			pairs = append(pairs, [2]int{a, b})
		}
	}
	return joined(stops, most, pairs)
}

// squares is a network of stops in rows, each of which is the neighbor of that beside it and of that above it.
func squares(rows, columns, most int) api.Network {
	var pairs [][2]int
	for i := range rows * columns {
		if i%columns > 0 {
			pairs = append(pairs, [2]int{i - 1, i})
		}
		if i >= columns {
			pairs = append(pairs, [2]int{i - columns, i})
		}
	}
	return joined(rows*columns, most, pairs)
}

// scattered is a network of so many stops, and about as many links as that.
func scattered(seed uint64, stops, links, most int) api.Network {
	next := noise(seed)
	var pairs [][2]int
	for range links {
		if a, b := next(stops), next(stops); a != b {
			pairs = append(pairs, [2]int{a, b})
		}
	}
	return joined(stops, most, pairs)
}

// full is a network of MaxStops stops and more than MaxLinks links by this number.
func full(more int) api.Network {
	n := of(mostStops)
	for i := range mostLinks + more {
		n.Links = append(n.Links, api.Link{A: i / 8, B: i/8 + 1 + i%8*250, W: 1 + i})
	}
	return n
}

// upwards is the first numbers.
func upwards(count int) []int {
	l := make([]int, count)
	for i := range l {
		l[i] = i
	}
	return l
}

// mixed is the first numbers in another order.
func mixed(seed uint64, count int) []int {
	next, l := noise(seed), upwards(count)
	for i := len(l) - 1; i > 0; i-- {
		j := next(i + 1)
		l[i], l[j] = l[j], l[i]
	}
	return l
}

// small is valid networks of few stops: with weights of which many paths have the same, and with all weights.
func small() []api.Network {
	out := []api.Network{
		{Version: 1, Stops: []api.Stop{{}}},
		{Version: newest, Stops: []api.Stop{{X: corner, Y: corner}}, Links: []api.Link{}},
		{Version: 1, Stops: make([]api.Stop, 5)},
		of(2),
		of(2, 0, 1, 1),
		of(2, 0, 1, heaviest),
		of(3, 0, 2, 5),
		of(3, 0, 1, 4, 1, 2, 6),
		of(4, 0, 3, 5, 1, 2, 5),
		of(6, 0, 5, 1, 1, 2, 1, 1, 4, 1, 2, 3, 1, 3, 4, 1),
		of(6, 1, 5, 9, 2, 4, 8, 3, 5, 7, 4, 5, 6),
	}
	for _, most := range []int{1, 2, 5, 300, heaviest} {
		for count := 1; count < 9; count++ {
			out = append(out, meshed(count, most), star(count, most, 0), star(count, most, count-1), star(count, most, count/2))
			out = append(out, chain(most, upwards(count)), chain(most, mixed(uint64(count), count)))
			out = append(out, scattered(uint64(count), count, count/2, most), scattered(uint64(count), count, count, most), scattered(uint64(count), count, 2*count, most))
			if count > 2 {
				out = append(out, circle(most, upwards(count)), circle(most, mixed(uint64(count), count)))
			}
		}
		out = append(out, squares(2, 5, most), squares(3, 3, most))
	}
	return out
}

// middle is valid networks of more stops.
func middle() []api.Network {
	var out []api.Network
	for _, most := range []int{1, 3, 1000, heaviest} {
		out = append(out, of(40), meshed(24, most), star(30, most, 11), chain(most, upwards(40)), chain(most, mixed(3, 50)), circle(most, mixed(4, 45)), squares(6, 7, most))
		for seed := range uint64(4) {
			out = append(out, scattered(seed, 40, 20, most), scattered(seed, 50, 60, most), scattered(seed, 30, 100, most))
		}
	}
	return out
}

// front is the first elements of a list, to be told.
func front[T any](l []T) []T {
	return l[:min(len(l), 30)]
}

// each is all networks of so many stops, each two of which have a link of a weight up to most, or none.
func each(stops, most int) func(yield func(api.Network) bool) {
	return func(yield func(api.Network) bool) {
		var pairs [][2]int
		for a := range stops {
			for b := a + 1; b < stops; b++ {
				pairs = append(pairs, [2]int{a, b})
			}
		}
		count := 1
		for range pairs {
			count *= most + 1
		}
		for code := range count {
			n := of(stops)
			for _, p := range pairs {
				if w := code % (most + 1); w > 0 {
					n.Links = append(n.Links, api.Link{A: p[0], B: p[1], W: w})
				}
				code /= most + 1
			}
			if !yield(n) {
				return
			}
		}
	}
}

// refused is networks that Check of layer 15 refuses, each in one of its ways, with the error.
func refused() map[api.Errno][]api.Network {
	base := of(5, 0, 1, 4, 0, 2, 5, 1, 2, 6, 1, 3, 10, 3, 4, 7)
	var wrong []api.Network
	for _, version := range []int{0, -1, newest + 1, math.MinInt, math.MaxInt} {
		n := clone(base)
		n.Version = version
		wrong = append(wrong, n)
	}
	for _, at := range []int{-1, corner + 1, math.MinInt, math.MaxInt} {
		for _, s := range []api.Stop{{X: at}, {Y: at}} {
			for place := range base.Stops {
				n := clone(base)
				n.Stops[place] = s
				wrong = append(wrong, n)
			}
		}
	}
	for place, l := range base.Links {
		for _, other := range []api.Link{
			{A: l.A, B: l.B}, {A: l.A, B: l.B, W: -1}, {A: l.A, B: l.B, W: heaviest + 1}, {A: l.A, B: l.B, W: math.MinInt}, {A: l.A, B: l.B, W: math.MaxInt},
			{A: l.A, B: l.A, W: 5}, {A: l.B, B: l.A, W: 5}, {A: -1, B: l.B, W: 5}, {A: l.A, B: -1, W: 5}, {A: l.A, B: 5, W: 5}, {A: 5, B: 6, W: 5},
			{A: math.MinInt, B: l.B, W: 5}, {A: l.A, B: math.MaxInt, W: 5}, {},
		} {
			n := clone(base)
			n.Links[place] = other
			wrong = append(wrong, n)
		}
		for other := range place {
			n := clone(base)
			n.Links[place], n.Links[other] = n.Links[other], n.Links[place]
			wrong = append(wrong, n)
		}
		n := clone(base)
		n.Links = slices.Insert(n.Links, place, l)
		wrong = append(wrong, n)
	}
	short, none := clone(base), clone(base)
	short.Stops, none.Stops = short.Stops[:4], nil
	wrong = append(wrong, short, none, api.Network{}, api.Network{Stops: make([]api.Stop, 5)})

	manyStops := full(0)
	manyStops.Stops = make([]api.Stop, mostStops+1)
	many := []api.Network{of(mostStops + 1), of(3 * mostStops), full(1), full(500), manyStops, {Stops: make([]api.Stop, mostStops+1)}, {Links: make([]api.Link, mostLinks+1)}}
	return map[api.Errno][]api.Network{api.ErrArg: wrong, api.ErrLimit: many}
}

// spare is a copy of a list with memory behind its end, which holds something.
func spare[T any](l []T, something T) []T {
	out := slices.Clone(l)
	for range 20 {
		out = append(out, something)
	}
	return out[:len(l)]
}

// intact asks that a list, and what lies behind its end, is as it was.
func intact[T comparable](t *testing.T, l, before []T, something T) {
	t.Helper()
	if !slices.Equal(l[:len(l)+20], append(slices.Clone(before), slices.Repeat([]T{something}, 20)...)) {
		t.Errorf("%v, or what lies behind it, became %v", front(before), front(l))
	}
}

// pairs is all distances of a network, by the words of layer 17.
func pairs(n api.Network) [][]int {
	out := make([][]int, len(n.Stops))
	for stop := range out {
		out[stop] = distances(n, stop)
	}
	return out
}

// furthest is the two stops with the greatest distance of all these, by the words of the chapter.
func furthest(all [][]int) (a, b, far int) {
	far = -1
	for i := range all {
		for j := i; j < len(all); j++ {
			if all[i][j] > far {
				a, b, far = i, j, all[i][j]
			}
		}
	}
	return a, b, far
}

// made is a network's table.
func made(t *testing.T, n api.Network) *table.Table {
	t.Helper()
	x, e := table.New(n)
	if e != api.OK || x == nil {
		t.Fatalf("New of %d stops over %v: error %d, %v", len(n.Stops), front(n.Links), e, x)
	}
	counts(t, x, len(n.Stops), n.Version)
	return x
}

// counts asks for the number of stops, and for the network's version.
func counts(t *testing.T, x *table.Table, stops, version int) {
	t.Helper()
	if x.Len() != stops || x.Version() != version {
		t.Errorf("%d stops of version %d, want %d of %d", x.Len(), x.Version(), stops, version)
	}
}

// apart asks for the distance of two stops, in both directions, and again.
func apart(t *testing.T, x *table.Table, a, b, want int) {
	for range 2 {
		if far, back := x.Far(a, b), x.Far(b, a); far != want || back != want {
			t.Helper()
			t.Fatalf("Far of %d and %d of %d stops is %d, and %d back, want %d", a, b, x.Len(), far, back, want)
		}
	}
}

// rounds asks for the two stops that are furthest from one another.
func rounds(t *testing.T, x *table.Table, a, b, far int) {
	t.Helper()
	for range 2 {
		if first, second, most, ok := x.Round(); first != a || second != b || most != far || !ok {
			t.Fatalf("Round of %d stops is %d, %d, %d, %v, want %d, %d, %d", x.Len(), first, second, most, ok, a, b, far)
		}
	}
}

// noRound asks that Round has nothing to tell.
func noRound(t *testing.T, x *table.Table) {
	t.Helper()
	for range 2 {
		if a, b, far, ok := x.Round(); a != 0 || b != 0 || far != 0 || ok {
			t.Fatalf("Round of %d stops is %d, %d, %d, %v, want nothing", x.Len(), a, b, far, ok)
		}
	}
}

// turns asks for Round by the words of the chapter, of a network that has these distances.
func turns(t *testing.T, x *table.Table, all [][]int) {
	t.Helper()
	if len(all) == 0 || len(all) > mostRound {
		noRound(t, x)
		return
	}
	a, b, far := furthest(all)
	rounds(t, x, a, b, far)
}

// strangers is numbers of stops that a network of so many does not have.
func strangers(count int) []int {
	return []int{-1, -2, -count - 1, count, count + 1, 2*count + 1, 1 << 20, 1<<32 + count/2, 1 << 32, -1 << 32, math.MinInt, math.MinInt + 1, math.MaxInt, math.MaxInt - 1}
}

// strange asks for -1 where a stop does not exist, as either argument and as both, beside each of these stops.
func strange(t *testing.T, x *table.Table, stops ...int) {
	t.Helper()
	for _, stranger := range strangers(x.Len()) {
		apart(t, x, stranger, stranger, -1)
		apart(t, x, stranger, -1, -1)
		apart(t, x, stranger, x.Len(), -1)
		for _, stop := range stops {
			apart(t, x, stop, stranger, -1)
		}
	}
}

// suits asks that all calls agree with the words of the chapter, whichever comes first.
func suits(t *testing.T, n api.Network) {
	t.Helper()
	all := pairs(n)
	late, early, back := made(t, n), made(t, n), made(t, n)
	turns(t, early, all)
	for a := range all {
		for b := range all {
			apart(t, late, a, b, all[a][b])
			apart(t, early, a, b, all[a][b])
			last := len(all) - 1
			apart(t, back, last-a, last-b, all[last-a][last-b])
		}
	}
	for _, x := range []*table.Table{late, early, back} {
		strange(t, x, 0, len(all)/2, len(all)-1)
		turns(t, x, all)
		counts(t, x, len(n.Stops), n.Version)
	}
}

// some asks for distances between each of some stops and some others, by the words of the chapter.
func some(t *testing.T, n api.Network, stops, others []int) {
	t.Helper()
	x := made(t, n)
	for _, stop := range stops {
		far := distances(n, stop)
		for _, other := range others {
			apart(t, x, other, stop, far[other])
			apart(t, x, stop, other, far[other])
		}
		apart(t, x, stop, stop, 0)
	}
	strange(t, x, stops...)
}

// P18.1, P18.2: the example of the chapter.
func TestExample(t *testing.T) {
	x := made(t, of(3, 0, 1, 4, 1, 2, 6))
	counts(t, x, 3, 4)
	apart(t, x, 0, 1, 4)
	apart(t, x, 1, 2, 6)
	apart(t, x, 0, 2, 10)
	rounds(t, x, 0, 2, 10)
}

// P18.1, P18.2: no stop, one stop, two without a link and with one.
func TestFewestStops(t *testing.T) {
	for _, version := range []int{1, 2, 1000, newest - 1, newest} {
		n := api.Network{Version: version}
		x := made(t, n)
		counts(t, x, 0, version)
		strange(t, x, 0)
		noRound(t, x)
	}

	x := made(t, of(1))
	apart(t, x, 0, 0, 0)
	strange(t, x, 0)
	rounds(t, x, 0, 0, 0)

	x = made(t, of(2))
	apart(t, x, 0, 0, 0)
	apart(t, x, 1, 1, 0)
	apart(t, x, 0, 1, -1)
	rounds(t, x, 0, 0, 0)

	for _, w := range []int{1, 2, 1000, heaviest - 1, heaviest} {
		x = made(t, of(2, 0, 1, w))
		apart(t, x, 0, 1, w)
		apart(t, x, 0, 0, 0)
		apart(t, x, 1, 1, 0)
		strange(t, x, 0, 1)
		rounds(t, x, 0, 1, w)
	}
}

// P18.1, P18.2: -1 for stops of different parts; the greatest distance may be in any of them.
func TestParts(t *testing.T) {
	n := of(8, 0, 3, 5, 1, 2, 4, 1, 6, 1, 3, 7, 2)
	x := made(t, n)
	part := []int{0, 1, 1, 0, 2, 3, 1, 0}
	for a := range part {
		for b := range part {
			if part[a] != part[b] {
				apart(t, x, a, b, -1)
			}
		}
		apart(t, x, a, a, 0)
	}
	apart(t, x, 0, 3, 5)
	apart(t, x, 0, 7, 7)
	apart(t, x, 3, 7, 2)
	apart(t, x, 1, 2, 4)
	apart(t, x, 1, 6, 1)
	apart(t, x, 2, 6, 5)
	rounds(t, x, 0, 7, 7)
	rounds(t, made(t, of(8, 0, 3, 5, 1, 2, 4, 1, 6, 4, 3, 7, 2)), 2, 6, 8)
	rounds(t, made(t, of(8, 0, 3, 5, 3, 7, 2, 4, 5, 8)), 4, 5, 8)
	rounds(t, made(t, of(8, 6, 7, 1)), 6, 7, 1)
}

// P18.2: of several pairs with the greatest distance that with the least a, then the least b.
func TestPairsOfTheSameDistance(t *testing.T) {
	// All of them, those around a center, and those across a circle.
	for count := 2; count < 12; count++ {
		n := meshed(count, 1)
		rounds(t, made(t, n), 0, 1, 1)
	}
	rounds(t, made(t, star(6, 1, 0)), 1, 2, 2)
	rounds(t, made(t, star(6, 1, 1)), 0, 2, 2)
	rounds(t, made(t, star(6, 1, 2)), 0, 1, 2)
	rounds(t, made(t, star(6, 1, 5)), 0, 1, 2)
	rounds(t, made(t, circle(1, upwards(6))), 0, 3, 3)
	rounds(t, made(t, circle(1, upwards(7))), 0, 3, 3)
	rounds(t, made(t, circle(1, []int{0, 3, 1, 2})), 0, 1, 2)

	// The least a, though its b is greater.
	rounds(t, made(t, of(4, 0, 3, 7, 1, 2, 7)), 0, 3, 7)
	rounds(t, made(t, of(6, 1, 5, 9, 2, 3, 9)), 1, 5, 9)
	rounds(t, made(t, of(6, 0, 5, 8, 1, 4, 9, 2, 3, 9)), 1, 4, 9)
	// The least b of the same a, whether one link leads there or several.
	rounds(t, made(t, of(4, 0, 1, 5, 1, 2, 5, 1, 3, 5, 2, 3, 1)), 0, 2, 10)
	rounds(t, made(t, of(4, 0, 1, 5, 0, 2, 10, 1, 3, 5, 2, 3, 1)), 0, 2, 10)
	rounds(t, made(t, of(4, 0, 1, 5, 0, 3, 10, 1, 2, 5, 2, 3, 1)), 0, 2, 10)
	// By one more, it is another pair.
	rounds(t, made(t, of(4, 0, 1, 5, 0, 3, 11, 1, 2, 5, 2, 3, 1)), 0, 3, 11)
	rounds(t, made(t, of(6, 0, 5, 9, 1, 4, 9, 2, 3, 10)), 2, 3, 10)
}

// P18.2: where no two stops have a path, and where a stop is furthest from itself: the stop 0, twice.
func TestRoundWithoutPaths(t *testing.T) {
	for _, count := range []int{1, 2, 3, 10, mostRound - 1, mostRound} {
		rounds(t, made(t, of(count)), 0, 0, 0)
	}
	rounds(t, made(t, of(3, 1, 2, 1)), 1, 2, 1)
}

// P18.1, P18.2 and P18.3 for networks of all kinds, by the words of the chapter.
func TestNetworks(t *testing.T) {
	for _, n := range append(append(small(), middle()...), of(0)) {
		if !right(n) {
			t.Fatalf("%v is not valid", front(n.Links))
		}
		suits(t, n)
	}
}

// P18.1, P18.2: every network of up to four stops with weights up to 3, and of five with weights of 1.
func TestEveryNetwork(t *testing.T) {
	for _, size := range [][2]int{{1, 3}, {2, 3}, {3, 6}, {4, 3}, {5, 1}} {
		for n := range each(size[0], size[1]) {
			suits(t, n)
		}
	}
}

// around is networks of as many stops as Round answers for, or of one stop less or more.
func around(count int) []api.Network {
	out := []api.Network{of(count), chain(heaviest, mixed(8, count)), circle(1, upwards(count)), star(count, heaviest, count/3)}
	return append(out, scattered(1, count, count/2, 9), scattered(2, count, 2*count, heaviest))
}

// P18.1, P18.2: networks of MaxTable stops, for which Round answers, and of one stop more, for which it does not.
func TestNetworksOfMaxTableStops(t *testing.T) {
	for _, count := range []int{mostRound - 1, mostRound, mostRound + 1} {
		for _, n := range around(count) {
			if !right(n) {
				t.Fatalf("%v is not valid", front(n.Links))
			}
			suits(t, n)
		}
	}
	dense := scattered(4, mostRound, mostLinks, heaviest)
	turns(t, made(t, dense), pairs(dense))
	rounds(t, made(t, circle(1, upwards(mostRound))), 0, mostRound/2, mostRound/2)
	noRound(t, made(t, circle(1, upwards(mostRound+1))))
	noRound(t, made(t, of(mostRound+1)))
	for _, count := range []int{600, 1024, mostStops - 1, mostStops} {
		noRound(t, made(t, of(count)))
		noRound(t, made(t, star(count, 5, 3)))
	}
}

// P18.2: the two ends of a chain of MaxTable stops with the greatest weights, wherever they are.
func TestRoundOfLongestChain(t *testing.T) {
	for seed := range uint64(5) {
		stops := mixed(seed, mostRound)
		n := chain(1, stops)
		for i := range n.Links {
			n.Links[i].W = heaviest
		}
		a, b := stops[0], stops[mostRound-1]
		rounds(t, made(t, n), min(a, b), max(a, b), 511*1048575)
	}
}

// great is valid networks of as many stops or links as there may be.
func great() []api.Network {
	var out []api.Network
	for _, most := range []int{1, heaviest} {
		out = append(out, star(mostStops, most, 1000), squares(64, 64, most))
		out = append(out, scattered(6, mostStops, 3000, most), scattered(7, mostStops, 16000, most))
	}
	return append(out, of(mostStops), full(0), meshed(181, heaviest))
}

// P18.1: networks of as many stops or links as there may be: each of some stops beside some others.
func TestGreatNetworks(t *testing.T) {
	for _, n := range great() {
		if !right(n) {
			t.Fatalf("%v is not valid", front(n.Links))
		}
		count := len(n.Stops)
		some(t, n, []int{0, 1, count / 2, count - 1}, mixed(9, count)[:100])
		some(t, n, mixed(10, count)[:10], mixed(11, count)[:30])
	}
}

// P18.1: the ends of a chain of all stops with the greatest weights, and each stop of it.
func TestLongestChain(t *testing.T) {
	for _, stops := range [][]int{upwards(mostStops), mixed(5, mostStops)} {
		n := chain(1, stops)
		for i := range n.Links {
			n.Links[i].W = heaviest
		}
		x := made(t, n)
		apart(t, x, stops[0], stops[mostStops-1], 4095*1048575)
		for i, stop := range stops {
			apart(t, x, stops[0], stop, i*heaviest)
			apart(t, x, stop, stops[3000], max(3000-i, i-3000)*heaviest)
		}
		noRound(t, x)
	}
}

// P18.3: all pairs again and again, each time in another order, beside a table that is asked in one order only.
func TestAnyOrder(t *testing.T) {
	for _, n := range []api.Network{squares(6, 7, 3), scattered(3, 40, 30, heaviest), circle(5, mixed(2, 30)), scattered(4, 600, 900, 50), of(5)} {
		count := min(len(n.Stops), 60)
		all, x := pairs(n), made(t, n)
		for seed := range uint64(4) {
			y := made(t, n)
			for _, code := range mixed(seed, count*count) {
				a, b := code/count, code%count
				for _, each := range []*table.Table{x, y} {
					if far := each.Far(a, b); far != all[a][b] {
						t.Fatalf("Far of %d and %d is %d, want %d", a, b, far, all[a][b])
					}
				}
				if code%97 == 0 {
					turns(t, x, all)
					strange(t, x, a)
				}
			}
			turns(t, x, all)
			turns(t, y, all)
		}
	}
}

// P18.1: a stop that does not exist, as each of the arguments, also of a table that has been asked before.
func TestStopsThatDoNotExist(t *testing.T) {
	for _, n := range append(small(), of(0), of(mostRound), of(mostRound+1), of(mostStops), full(0)) {
		x, last := made(t, n), max(0, len(n.Stops)-1)
		for range 2 {
			for _, stop := range []int{0, last / 2, last} {
				strange(t, x, stop)
			}
			for _, stranger := range strangers(len(n.Stops)) {
				for _, other := range strangers(len(n.Stops)) {
					if far := x.Far(stranger, other); far != -1 {
						t.Errorf("Far of %d and %d of %d stops is %d", stranger, other, len(n.Stops), far)
					}
				}
			}
			x.Far(0, last)
			x.Far(last, last)
		}
	}
	x := made(t, full(0))
	apart(t, x, mostStops-1, mostStops-1, 0)
	apart(t, x, mostStops-1, mostStops, -1)
	apart(t, x, 0, -1, -1)
}

// P18.1: New has the error of Check, and no table beside it.
func TestNetworksThatAreRefused(t *testing.T) {
	for want, l := range refused() {
		for _, n := range l {
			before := clone(n)
			if right(n) {
				t.Fatalf("%v is valid", front(n.Links))
			}
			if x, e := table.New(n); e != want || x != nil {
				t.Errorf("New of version %d, %d stops, %v: error %d, %v, want error %d", n.Version, len(n.Stops), front(n.Links), e, x, want)
			}
			if !equal(n, before) {
				t.Errorf("%v was changed", front(before.Links))
			}
		}
	}
}

// P18.1: versions make no difference to distances, nor do positions.
func TestDistancesHangOnLinksAlone(t *testing.T) {
	for _, n := range small() {
		all := pairs(n)
		for i := range n.Stops {
			n.Stops[i] = api.Stop{X: i, Y: corner}
		}
		for _, version := range []int{1, 2, 77777, newest - 1, newest} {
			n.Version = version
			x := made(t, n)
			for a := range all {
				apart(t, x, a, len(all)-1, all[a][len(all)-1])
			}
			turns(t, x, all)
		}
	}
}

// empty asks that a table says that there is nothing.
func empty(t *testing.T, x *table.Table) {
	t.Helper()
	for range 2 {
		counts(t, x, 0, 0)
		noRound(t, x)
		for _, a := range append(strangers(0), 1, 5, 512, 4095) {
			for _, b := range append(strangers(0), 1, 5, 512, 4095) {
				if far := x.Far(a, b); far != -1 {
					t.Errorf("Far of %d and %d is %d, want -1", a, b, far)
				}
			}
		}
	}
}

// P18.3: a nil table and a plain one.
func TestNilTable(t *testing.T) {
	empty(t, nil)
	empty(t, &table.Table{})
	empty(t, new(table.Table))
	x, e := table.New(api.Network{})
	if e != api.ErrArg {
		t.Errorf("error %d", e)
	}
	empty(t, x)
}

// The network is not changed, nor what lies behind its lists in memory, by any call.
func TestArgumentsAreNotChanged(t *testing.T) {
	for _, n := range append(small(), squares(6, 6, 2), of(0), full(0)) {
		stops, links := spare(n.Stops, api.Stop{X: -7}), spare(n.Links, api.Link{A: -7})
		x := made(t, api.Network{Version: n.Version, Stops: stops, Links: links})
		last := len(n.Stops) - 1
		x.Far(0, last)
		x.Far(last, 0)
		x.Round()
		strange(t, x, 0)
		intact(t, stops, n.Stops, api.Stop{X: -7})
		intact(t, links, n.Links, api.Link{A: -7})
	}
}

// A network that changes later on changes nothing of its table, whether or not distances were asked for before.
func TestNetworkIsNotKept(t *testing.T) {
	for _, n := range append(small(), squares(6, 6, 2), scattered(3, mostRound+1, 800, 30)) {
		all := pairs(n)
		asked, fresh := made(t, n), made(t, n)
		apart(t, asked, 0, len(all)-1, all[0][len(all)-1])
		for i := range n.Links {
			n.Links[i] = api.Link{A: 0, B: -1}
		}
		for i := range n.Stops {
			n.Stops[i] = api.Stop{X: -1}
		}
		for _, x := range []*table.Table{asked, fresh} {
			counts(t, x, len(n.Stops), n.Version)
			for a := range all {
				apart(t, x, a, 0, all[a][0])
				apart(t, x, len(all)/2, a, all[len(all)/2][a])
			}
			turns(t, x, all)
		}
	}
}

// Tables have nothing in common: those of other networks stay what they are.
func TestTablesAreApart(t *testing.T) {
	networks := small()
	var tables []*table.Table
	for _, n := range networks {
		tables = append(tables, made(t, n))
	}
	for range 2 {
		for i, n := range networks {
			all := pairs(n)
			for a := range all {
				apart(t, tables[i], a, 0, all[a][0])
			}
			turns(t, tables[i], all)
		}
	}
}

// taken is how much memory a call takes.
func taken(call func()) uint64 {
	var before, after runtime.MemStats
	runtime.ReadMemStats(&before)
	call()
	runtime.ReadMemStats(&after)
	return after.TotalAlloc - before.TotalAlloc
}

// Distances are computed on demand, one stop at a time: those of all stops would take 128 MB.
func TestOneStopAtATime(t *testing.T) {
	for _, n := range []api.Network{squares(64, 64, 9), full(0), star(mostStops, 3, 5)} {
		size := taken(func() {
			x := made(t, n)
			x.Far(3, 900)
			x.Far(3, 800)
			x.Far(4000, 3)
			x.Round()
		})
		if size > 20<<20 {
			t.Errorf("%d bytes for one stop of %d", size, len(n.Stops))
		}
	}
}

// Distances that were computed are stored: to ask for them again, from either stop, computes nothing.
func TestDistancesAreStored(t *testing.T) {
	for _, n := range []api.Network{squares(64, 64, 9), squares(20, 20, 9), of(mostRound), of(mostRound + 1)} {
		x := made(t, n)
		x.Far(7, 0)
		want, got, back := distances(n, 7), make([]int, len(n.Stops)), make([]int, len(n.Stops))
		size := taken(func() {
			for stop := range n.Stops {
				got[stop], back[stop] = x.Far(7, stop), x.Far(stop, 7)
			}
		})
		if size > 100000 {
			t.Errorf("%d bytes for distances of %d stops that were computed before", size, len(n.Stops))
		}
		if !slices.Equal(got, want) || !slices.Equal(back, want) {
			t.Errorf("of %d stops %v and %v, want %v", len(n.Stops), front(got), front(back), front(want))
		}
	}
	n := squares(20, 20, 9)
	x := made(t, n)
	turns(t, x, pairs(n))
	if size := taken(func() { x.Round(); x.Far(399, 0); x.Far(200, 300) }); size > 100000 {
		t.Errorf("%d bytes for distances that Round has computed", size)
	}
}

// P18.1, P18.2 and P18.3 for networks of any kind, valid ones and others, asked in any order.
func FuzzTable(f *testing.F) {
	f.Add(uint64(1), 10, 20, 0, 3, 0, 9, 0, []byte{0, 1, 2, 3})
	f.Add(uint64(2), 60, 100, 3, newest, 5, 50, 0, []byte{9, 8, 7, 6, 5, 4, 3, 2, 1})
	f.Add(uint64(3), 30, 200, heaviest-1, 30, 1, 0, 5, []byte{255, 255, 255, 0, 1})
	f.Add(uint64(4), 0, 5, 0, -1, 2, 0, 1, []byte{0, 255, 0})
	f.Add(uint64(5), 63, 511, 1, 2, 2, 2, 60000, []byte{})
	f.Fuzz(func(t *testing.T, seed uint64, stops, links, most, version, at, field, wrong int, asked []byte) {
		n := scattered(seed, 1+stops&63, links&511, 1+most&(heaviest-1))
		n.Version = version
		if len(n.Links) > 0 && wrong&7 > 0 {
			l := &n.Links[at&math.MaxInt%len(n.Links)]
			*[]*int{&l.A, &l.B, &l.W}[field&math.MaxInt%3] = wrong
		}
		x, e := table.New(n)
		if !right(n) {
			if e != api.ErrArg || x != nil {
				t.Fatalf("New of version %d over %v: error %d", n.Version, front(n.Links), e)
			}
			return
		}
		all := pairs(n)
		for i := 1; i < len(asked); i++ {
			a, b := int(asked[i-1])%len(all), int(asked[i])%len(all)
			if far := x.Far(a, b); far != all[a][b] {
				t.Fatalf("Far of %d and %d over %v is %d, want %d", a, b, front(n.Links), far, all[a][b])
			}
			if asked[i]&7 == 0 {
				turns(t, x, all)
			}
			strange(t, x, a)
		}
		suits(t, n)
	})
}
