package revoke_test

import (
	"encoding/binary"
	"maps"
	"math"
	"slices"
	"testing"

	"viaticum/api"
	"viaticum/revoke"
)

const (
	last = 1 << 31 // the greatest number of a trip
	end  = 1 << 40 // the greatest time
	full = 4096    // the greatest number of elements
)

// of is the list of trips and times, which follow each other in pairs.
func of(n ...int) []api.Revoked {
	l := []api.Revoked{}
	for i := 0; i+1 < len(n); i += 2 {
		l = append(l, api.Revoked{Trip: n[i], Until: n[i+1]})
	}
	return l
}

// noise is numbers that are spread over all values, the same ones for the same seed.
func noise(seed uint64) func(most int) int {
	x := seed*2654435761 + 88172645463325252
	return func(most int) int {
		x ^= x << 13
		x ^= x >> 7
		x ^= x << 17
		return int(x >> 11 % uint64(most))
	}
}

// spaced is a valid list of count trips, of which the first is from and each other one is step above the preceding one.
func spaced(count, from, step int) []api.Revoked {
	l := make([]api.Revoked, count)
	for i := range l {
		l[i] = api.Revoked{Trip: from + i*step, Until: 100 + i*37%1000}
	}
	return l
}

// scattered is a valid list of at most count trips up to most, with times up to latest.
func scattered(seed uint64, count, most, latest int) []api.Revoked {
	next := noise(seed)
	untils := map[int]int{}
	for range count {
		untils[1+next(most)] = next(latest + 1)
	}
	return listed(untils)
}

// listed is the list of trips with their times, in order.
func listed(untils map[int]int) []api.Revoked {
	l := []api.Revoked{}
	for _, trip := range slices.Sorted(maps.Keys(untils)) {
		l = append(l, api.Revoked{Trip: trip, Until: untils[trip]})
	}
	return l
}

// with is a list in which the element at a position is another one.
func with(l []api.Revoked, at int, x api.Revoked) []api.Revoked {
	out := slices.Clone(l)
	out[at] = x
	return out
}

// lists is valid lists of many kinds.
func lists() [][]api.Revoked {
	out := [][]api.Revoked{
		nil,
		{},
		of(1, 0),
		of(last, end),
		of(1, end, last, 0),
		of(5, 10),
		of(2, 20, 5, 10, 9, 30),
		of(1, 0, 2, 0, 3, 0, 4, 0),
		of(last-2, 7, last-1, 7, last, 7),
		of(3, 5, 4, 5, 10, 6, 1000, 5, 1001, 4),
	}
	for n := range 12 {
		out = append(out, spaced(n, 3, 1), spaced(n, 10, 10), scattered(uint64(n), n, 20, 10), scattered(uint64(n), n, last, end))
	}
	return append(out, scattered(90, 200, 300, 20), scattered(91, 1000, last, end), spaced(full-1, 5, 3), spaced(full, 5, 3), spaced(full, last-full+1, 1))
}

// wrong is a list that is not valid, and why.
type wrong struct {
	about string
	l     []api.Revoked
}

// wrongs is lists that are not valid, with one fault each.
func wrongs() []wrong {
	out := []wrong{
		{"one more than MaxRevoked", spaced(full+1, 5, 3)},
		{"many more than MaxRevoked", spaced(3*full, 1, 1)},
		{"two elements that are the same", of(5, 10, 5, 10)},
		{"a trip twice, with other times", of(2, 20, 5, 10, 5, 11, 9, 30)},
		{"the first two descend", of(5, 10, 2, 20, 9, 30)},
		{"the last two descend", of(2, 20, 9, 30, 5, 10)},
		{"all descend", of(9, 30, 5, 10, 2, 20)},
		{"not equal to the preceding one, but to the one ahead of that", of(2, 20, 5, 10, 2, 20)},
	}
	for _, trip := range []int{0, -1, -5, last + 1, last + 2, 1<<32 + 5, math.MinInt32, math.MinInt, math.MaxInt} {
		out = append(out, wrong{"a trip out of bounds, alone", of(trip, 10)})
		if trip < 1 {
			out = append(out, wrong{"a trip below 1, ahead of others", of(trip, 10, 5, 10, 9, 30)})
		} else {
			out = append(out, wrong{"a trip above MaxID, behind others", of(5, 10, 9, 30, trip, 10)})
		}
	}
	for _, until := range []int{-1, -2, end + 1, end + 2, 1 << 41, math.MinInt, math.MaxInt} {
		out = append(out, wrong{"an Until out of bounds, alone", of(5, until)})
		for at := range 3 {
			l := of(2, 20, 5, 10, 9, 30)
			l[at].Until = until
			out = append(out, wrong{"an Until out of bounds", l})
		}
	}
	l := spaced(full, 5, 3)
	for _, at := range []int{0, 1, 2, full / 2, full - 2, full - 1} {
		out = append(out, wrong{"a full list, a time of which is negative", with(l, at, api.Revoked{Trip: l[at].Trip, Until: -1})})
		if at > 0 {
			out = append(out, wrong{"a full list, with a trip twice", with(l, at, l[at-1])})
			out = append(out, wrong{"a full list that descends at a place", with(l, at, api.Revoked{Trip: l[at-1].Trip - 1, Until: 5})})
		}
	}
	return out
}

// front is the first elements of a list, to be told.
func front(l []api.Revoked) []api.Revoked {
	return l[:min(len(l), 20)]
}

// expect asks for a list.
func expect(t *testing.T, got, want []api.Revoked, about string) {
	t.Helper()
	if !slices.Equal(got, want) {
		t.Errorf("%s: %d elements %v, want %d elements %v", about, len(got), front(got), len(want), front(want))
	}
}

// right is whether a list is valid, by the words of the chapter.
func right(l []api.Revoked) bool {
	ok := len(l) <= full
	for i, x := range l {
		ok = ok && 1 <= x.Trip && x.Trip <= last && 0 <= x.Until && x.Until <= end
		ok = ok && (i == 0 || l[i-1].Trip < x.Trip)
	}
	return ok
}

// revoked is whether a trip is revoked at a time, by the words of the chapter.
func revoked(l []api.Revoked, trip, now int) bool {
	return slices.ContainsFunc(l, func(x api.Revoked) bool { return x.Trip == trip && x.Until >= now })
}

// kept is the elements whose Until is not below a time.
func kept(l []api.Revoked, now int) []api.Revoked {
	out := []api.Revoked{}
	for _, x := range l {
		if x.Until >= now {
			out = append(out, x)
		}
	}
	return out
}

// both is the trips of two lists, with the greater one of both times.
func both(a, b []api.Revoked) []api.Revoked {
	untils := map[int]int{}
	for _, x := range slices.Concat(a, b) {
		untils[x.Trip] = max(untils[x.Trip], x.Until)
	}
	return listed(untils)
}

// adds asks that an element can be added, and what becomes of the list.
func adds(t *testing.T, l []api.Revoked, x api.Revoked, want []api.Revoked) {
	t.Helper()
	before := slices.Clone(l)
	got, e := revoke.Add(l, x)
	if e != api.OK || !slices.Equal(got, want) {
		t.Errorf("Add of %v to %d elements %v: error %d, %d elements %v, want %d elements %v", x, len(l), front(l), e, len(got), front(got), len(want), front(want))
	}
	if !revoke.Right(got) || !right(got) {
		t.Errorf("Add of %v to %v: a list that is not valid", x, front(l))
	}
	expect(t, l, before, "the argument of Add")
}

// cannotAdd asks that an element can't be added, with an empty list beside the error.
func cannotAdd(t *testing.T, l []api.Revoked, x api.Revoked, want api.Errno, about string) {
	t.Helper()
	before := slices.Clone(l)
	if got, e := revoke.Add(l, x); e != want || len(got) != 0 {
		t.Errorf("%s: Add of %v to %d elements %v: error %d, %d elements, want error %d and none", about, x, len(l), front(l), e, len(got), want)
	}
	expect(t, l, before, "the argument of Add")
}

// merges asks that two lists can be merged, either way round, and to what.
func merges(t *testing.T, a, b, want []api.Revoked) {
	t.Helper()
	beforeA, beforeB := slices.Clone(a), slices.Clone(b)
	for _, c := range [][2][]api.Revoked{{a, b}, {b, a}} {
		got, e := revoke.Merge(c[0], c[1])
		if e != api.OK || !slices.Equal(got, want) {
			t.Errorf("Merge of %d elements %v and %d %v: error %d, %d elements %v, want %d elements %v", len(c[0]), front(c[0]), len(c[1]), front(c[1]), e, len(got), front(got), len(want), front(want))
		}
		if !revoke.Right(got) || !right(got) {
			t.Errorf("Merge of %v and %v: a list that is not valid", front(c[0]), front(c[1]))
		}
	}
	expect(t, a, beforeA, "an argument of Merge")
	expect(t, b, beforeB, "an argument of Merge")
}

// cannotMerge asks that two lists can't be merged, either way round, with an empty list beside the error.
func cannotMerge(t *testing.T, a, b []api.Revoked, want api.Errno, about string) {
	t.Helper()
	beforeA, beforeB := slices.Clone(a), slices.Clone(b)
	for _, c := range [][2][]api.Revoked{{a, b}, {b, a}} {
		if got, e := revoke.Merge(c[0], c[1]); e != want || len(got) != 0 {
			t.Errorf("%s: Merge of %d elements %v and %d %v: error %d, %d elements, want error %d and none", about, len(c[0]), front(c[0]), len(c[1]), front(c[1]), e, len(got), want)
		}
	}
	expect(t, a, beforeA, "an argument of Merge")
	expect(t, b, beforeB, "an argument of Merge")
}

// P12.1: valid lists, from the empty one to the one of MaxRevoked.
func TestRight(t *testing.T) {
	for _, l := range lists() {
		if !revoke.Right(l) {
			t.Errorf("%d elements %v are valid", len(l), front(l))
		}
	}
	for _, l := range [][]api.Revoked{of(1, 5), of(last, 5), of(5, 0), of(5, end), of(1, 0, 2, end, last-1, 0, last, end)} {
		if !revoke.Right(l) {
			t.Errorf("%v is valid", l)
		}
	}
}

// P12.1: lists with one fault.
func TestRightOfWrongLists(t *testing.T) {
	for _, w := range wrongs() {
		if revoke.Right(w.l) {
			t.Errorf("%s: %d elements %v are not valid", w.about, len(w.l), front(w.l))
		}
	}
}

// P12.1: the limits of the numbers of elements; MaxRevoked many may be there, and no more.
func TestRightOfManyElements(t *testing.T) {
	all := spaced(2*full, 1, 7)
	for _, count := range []int{full - 2, full - 1, full} {
		if !revoke.Right(all[:count]) {
			t.Errorf("%d elements are valid", count)
		}
	}
	for _, count := range []int{full + 1, full + 2, 2 * full} {
		if revoke.Right(all[:count]) {
			t.Errorf("%d elements are not valid", count)
		}
	}
}

// P12.1: one fault at each place of a list.
func TestRightAtEachPlace(t *testing.T) {
	l := spaced(50, 10, 10)
	for at := range l {
		for _, c := range []struct {
			x    api.Revoked
			want bool
		}{
			{api.Revoked{Trip: 10 + 10*at, Until: 0}, true},
			{api.Revoked{Trip: 10 + 10*at, Until: end}, true},
			{api.Revoked{Trip: 10 + 10*at, Until: -1}, false},
			{api.Revoked{Trip: 10 + 10*at, Until: end + 1}, false},
			{api.Revoked{Trip: 10*at + 1, Until: 5}, true},
			{api.Revoked{Trip: 10 * at, Until: 5}, false},
			{api.Revoked{Trip: 10*at - 1, Until: 5}, false},
			{api.Revoked{Trip: 10*at + 19, Until: 5}, true},
			{api.Revoked{Trip: 10*at + 20, Until: 5}, at == len(l)-1},
			{api.Revoked{Trip: 10*at + 21, Until: 5}, at == len(l)-1},
			{api.Revoked{Trip: last, Until: 5}, at == len(l)-1},
			{api.Revoked{Trip: last + 1, Until: 5}, false},
		} {
			if got := revoke.Right(with(l, at, c.x)); got != c.want {
				t.Errorf("Right with %v at %d is %t", c.x, at, got)
			}
		}
	}
}

// times is times about one, and ones far off.
func times(until int) []int {
	return []int{until, until - 1, until + 1, until - 1000, until + 1000, 0, -1, 1, end, end + 1, math.MinInt, math.MaxInt}
}

// P12.1: trips that are in a list, at times about their Until.
func TestHas(t *testing.T) {
	for _, l := range lists() {
		for _, x := range l {
			for _, now := range times(x.Until) {
				if got := revoke.Has(l, x.Trip, now); got != (x.Until >= now) {
					t.Errorf("Has of %v at %d is %t", x, now, got)
				}
			}
		}
	}
}

// P12.1: trips that are not in a list are not revoked at any time.
func TestHasNot(t *testing.T) {
	for _, l := range lists() {
		in := map[int]int{}
		for _, x := range l {
			in[x.Trip]++
		}
		near := []int{0, -1, 1, 2, last - 1, last, last + 1, math.MinInt, math.MaxInt}
		for _, x := range l {
			near = append(near, x.Trip-1, x.Trip+1, -x.Trip, x.Trip+1<<32, x.Trip-1<<32)
		}
		for _, trip := range near {
			for _, now := range []int{math.MinInt, -1, 0, 5, 100, end} {
				if in[trip] == 0 && revoke.Has(l, trip, now) {
					t.Errorf("Has of %d at %d in %v", trip, now, front(l))
				}
			}
		}
	}
}

// P12.1: the trips by their places: the first, in the middle, the last, below all, between two, above all.
func TestHasByPlaces(t *testing.T) {
	l := of(10, 5, 20, 0, 30, 7, 40, end)
	for _, c := range []struct {
		trip, now int
		want      bool
	}{
		{10, 4, true}, {10, 5, true}, {10, 6, false},
		{20, -1, true}, {20, 0, true}, {20, 1, false},
		{30, 6, true}, {30, 7, true}, {30, 8, false},
		{40, end - 1, true}, {40, end, true}, {40, end + 1, false},
		{1, 0, false}, {9, 0, false}, {11, 0, false}, {15, 0, false}, {19, 0, false}, {21, 0, false},
		{29, 0, false}, {31, 0, false}, {39, 0, false}, {41, 0, false}, {last, 0, false}, {0, 0, false},
	} {
		if got := revoke.Has(l, c.trip, c.now); got != c.want {
			t.Errorf("Has of %d at %d is %t", c.trip, c.now, got)
		}
	}
	for _, now := range times(0) {
		if revoke.Has(nil, 10, now) || revoke.Has([]api.Revoked{}, 10, now) || revoke.Has(l[:0], 10, now) {
			t.Errorf("Has in an empty list at %d", now)
		}
	}
}

// The chapter's example: a trip until 5 is revoked at 5, and not at 6.
func TestExample(t *testing.T) {
	l, e := revoke.Add(nil, api.Revoked{Trip: 1, Until: 5})
	if e != api.OK || !revoke.Has(l, 1, 5) || revoke.Has(l, 1, 6) {
		t.Errorf("%v, error %d", l, e)
	}
}

// Has ends and does not panic for lists that are not valid, at any trip and time.
func TestHasOfWrongLists(t *testing.T) {
	for _, w := range wrongs() {
		before := slices.Clone(w.l)
		for _, trip := range []int{0, 1, 2, 5, 9, -1, last, last + 1, math.MinInt, math.MaxInt} {
			for _, now := range times(10) {
				if revoke.Has(w.l, trip, now) && !revoked(w.l, trip, now) {
					t.Errorf("%s: Has of %d at %d", w.about, trip, now)
				}
			}
		}
		expect(t, w.l, before, "the argument of Has")
	}
}

// prunes asks what is left of a list at a time.
func prunes(t *testing.T, l []api.Revoked, now int, want []api.Revoked) {
	t.Helper()
	before := slices.Clone(l)
	got := revoke.Prune(l, now)
	if !slices.Equal(got, want) {
		t.Errorf("Prune of %d elements %v at %d: %d elements %v, want %d elements %v", len(l), front(l), now, len(got), front(got), len(want), front(want))
	}
	if right(l) && (!right(got) || !revoke.Right(got)) {
		t.Errorf("Prune of %v at %d: a list that is not valid", front(l), now)
	}
	expect(t, l, before, "the argument of Prune")
}

// P12.1: a list that is empty, kept whole, in part and not at all.
func TestPrune(t *testing.T) {
	l := of(2, 20, 5, 10, 9, 30, 11, 10, 12, 0)
	for _, c := range []struct {
		now  int
		want []api.Revoked
	}{
		{math.MinInt, l},
		{-1, l},
		{0, l},
		{1, l[:4]},
		{9, l[:4]},
		{10, l[:4]},
		{11, of(2, 20, 9, 30)},
		{15, of(2, 20, 9, 30)},
		{20, of(2, 20, 9, 30)},
		{21, of(9, 30)},
		{30, of(9, 30)},
		{31, nil},
		{end, nil},
		{math.MaxInt, nil},
	} {
		prunes(t, l, c.now, c.want)
	}
	for _, now := range times(5) {
		prunes(t, nil, now, nil)
		prunes(t, []api.Revoked{}, now, nil)
	}
	prunes(t, of(1, 0, 2, end), end, of(2, end))
	prunes(t, of(1, end-1, 2, end), end+1, nil)
}

// P12.1 and P12.3: lists of all kinds, at the times of their elements and about them.
func TestPruneOfLists(t *testing.T) {
	for _, l := range lists() {
		for i := 0; i < len(l); i += 1 + len(l)/50 {
			for _, now := range times(l[i].Until) {
				prunes(t, l, now, kept(l, now))
			}
		}
	}
}

// P12.1: of a list that is not valid the elements are those that the words name as well, in order.
func TestPruneOfWrongLists(t *testing.T) {
	for _, w := range wrongs() {
		for _, now := range []int{math.MinInt, -2, -1, 0, 1, 10, 11, 20, 30, 500, end, end + 1, end + 2, math.MaxInt} {
			prunes(t, w.l, now, kept(w.l, now))
		}
	}
	prunes(t, of(9, 30, 5, 10, 9, 30, 2, 20, 5, 9), 10, of(9, 30, 5, 10, 9, 30, 2, 20))
	prunes(t, of(0, -5, -7, -6, last+1, end+1), -5, of(0, -5, last+1, end+1))
}

// P12.2: an element to an empty list, ahead of all, between two, and behind all.
func TestAdd(t *testing.T) {
	for _, x := range of(1, 0, 1, end, last, 0, last, end, 5, 10) {
		adds(t, nil, x, []api.Revoked{x})
		adds(t, []api.Revoked{}, x, []api.Revoked{x})
	}
	l := of(10, 5, 20, 6, 30, 7)
	for _, c := range []struct {
		trip int
		want []api.Revoked
	}{
		{1, of(1, 9, 10, 5, 20, 6, 30, 7)},
		{9, of(9, 9, 10, 5, 20, 6, 30, 7)},
		{11, of(10, 5, 11, 9, 20, 6, 30, 7)},
		{19, of(10, 5, 19, 9, 20, 6, 30, 7)},
		{21, of(10, 5, 20, 6, 21, 9, 30, 7)},
		{29, of(10, 5, 20, 6, 29, 9, 30, 7)},
		{31, of(10, 5, 20, 6, 30, 7, 31, 9)},
		{last, of(10, 5, 20, 6, 30, 7, last, 9)},
	} {
		adds(t, l, api.Revoked{Trip: c.trip, Until: 9}, c.want)
	}
}

// P12.2: a trip that is there, with a smaller, an equal and a greater Until.
func TestAddOfATripThatIsThere(t *testing.T) {
	l := of(10, 5, 20, 6, 30, 7)
	for _, c := range []struct {
		trip, until int
		want        []api.Revoked
	}{
		{10, 0, l}, {10, 4, l}, {10, 5, l}, {10, 6, of(10, 6, 20, 6, 30, 7)}, {10, end, of(10, end, 20, 6, 30, 7)},
		{20, 0, l}, {20, 5, l}, {20, 6, l}, {20, 7, of(10, 5, 20, 7, 30, 7)}, {20, end, of(10, 5, 20, end, 30, 7)},
		{30, 0, l}, {30, 6, l}, {30, 7, l}, {30, 8, of(10, 5, 20, 6, 30, 8)}, {30, end, of(10, 5, 20, 6, 30, end)},
	} {
		adds(t, l, api.Revoked{Trip: c.trip, Until: c.until}, c.want)
	}
	adds(t, of(5, end), api.Revoked{Trip: 5}, of(5, end))
	adds(t, of(5, 0), api.Revoked{Trip: 5}, of(5, 0))
}

// P12.2 and P12.3: elements of all kinds to lists of all kinds.
func TestAddToLists(t *testing.T) {
	for seed, l := range lists() {
		if len(l) == full {
			continue
		}
		next := noise(uint64(seed) + 500)
		trips := []int{1, 2, 5, last - 1, last, 1 + next(last), 1 + next(30)}
		for i := 0; i < len(l); i += 1 + len(l)/30 {
			trips = append(trips, l[i].Trip, max(1, l[i].Trip-1), min(last, l[i].Trip+1))
		}
		for _, trip := range trips {
			for _, until := range []int{0, 5, 1 + next(end), end} {
				x := api.Revoked{Trip: trip, Until: until}
				adds(t, l, x, both(l, []api.Revoked{x}))
			}
		}
	}
}

// P12.2: elements one by one, from the empty list to the full one, in several orders.
func TestAddOneByOne(t *testing.T) {
	for _, step := range []int{1, full - 1, 1001, 2049} {
		want := spaced(full, 3, 5)
		var l []api.Revoked
		for i := range full {
			got, e := revoke.Add(l, want[i*step%full])
			if e != api.OK || len(got) != i+1 {
				t.Fatalf("the element %d: error %d, %d elements", i, e, len(got))
			}
			l = got
		}
		expect(t, l, want, "all elements")
	}
}

// wrongElements is elements that no list may have.
func wrongElements() []api.Revoked {
	return of(0, 0, 0, 5, -1, 5, last+1, 5, math.MinInt, 5, math.MaxInt, 5, 1<<32+5, 5,
		5, -1, 5, end+1, 5, math.MinInt, 5, math.MaxInt, 1, -1, last, end+1, 0, -1, last+1, end+1)
}

// P12.2: ErrArg for an element that may not be, for a list of any kind, also a full one.
func TestAddOfWrongElements(t *testing.T) {
	for _, l := range lists() {
		for _, x := range wrongElements() {
			cannotAdd(t, l, x, api.ErrArg, "an element that may not be")
		}
	}
}

// P12.2: ErrArg for a list that is not valid, also if it is too long or full, and whether or not the trip is there.
func TestAddToWrongLists(t *testing.T) {
	for _, w := range wrongs() {
		for _, x := range slices.Concat(of(1, 5, 5, 10, 5, end, 6, 7, 9, 0, last, 5), wrongElements(), w.l[:1], w.l[len(w.l)-1:]) {
			cannotAdd(t, w.l, x, api.ErrArg, w.about)
		}
	}
}

// P12.2: ErrLimit for a trip that is not in a full list, and no error for one that is.
func TestAddToFullLists(t *testing.T) {
	l := spaced(full, 5, 3)
	for _, trip := range []int{1, 4, 6, 7, 9, 5 + 3*(full/2) + 1, 5 + 3*(full-1) - 1, 5 + 3*(full-1) + 1, last} {
		for _, until := range []int{0, 5, end} {
			x := api.Revoked{Trip: trip, Until: until}
			cannotAdd(t, l, x, api.ErrLimit, "a full list")
			adds(t, l[:full-1], x, both(l[:full-1], []api.Revoked{x}))
		}
	}
	for _, at := range []int{0, 1, full / 2, full - 2, full - 1} {
		x := l[at]
		adds(t, l, api.Revoked{Trip: x.Trip, Until: x.Until - 1}, l)
		adds(t, l, x, l)
		more := api.Revoked{Trip: x.Trip, Until: x.Until + 1}
		adds(t, l, more, with(l, at, more))
	}
}

// P12.2: lists that are empty, without a common trip, with the same trips and other times, and a list with itself.
func TestMerge(t *testing.T) {
	l := of(10, 5, 20, 6, 30, 7)
	merges(t, nil, nil, nil)
	merges(t, nil, []api.Revoked{}, nil)
	merges(t, []api.Revoked{}, []api.Revoked{}, nil)
	merges(t, l, nil, l)
	merges(t, l, []api.Revoked{}, l)
	merges(t, l, l, l)
	merges(t, l, of(1, 1, 2, 2), of(1, 1, 2, 2, 10, 5, 20, 6, 30, 7))
	merges(t, l, of(40, 1, last, 2), of(10, 5, 20, 6, 30, 7, 40, 1, last, 2))
	merges(t, l, of(11, 1, 29, 2), of(10, 5, 11, 1, 20, 6, 29, 2, 30, 7))
	merges(t, l, of(1, 0, 15, 1, 25, 2, 31, 3), of(1, 0, 10, 5, 15, 1, 20, 6, 25, 2, 30, 7, 31, 3))
	merges(t, l, of(10, 4, 20, 6, 30, 8), of(10, 5, 20, 6, 30, 8))
	merges(t, l, of(10, 0, 20, 0, 30, 0), l)
	merges(t, l, of(10, end, 20, end, 30, end), of(10, end, 20, end, 30, end))
	merges(t, l, of(5, 1, 20, 7, 25, 1), of(5, 1, 10, 5, 20, 7, 25, 1, 30, 7))
	merges(t, l, of(20, 5), l)
	merges(t, of(1, 0), of(last, end), of(1, 0, last, end))
}

// P12.2 and P12.3: each two lists of all kinds, and each list with itself.
func TestMergeOfLists(t *testing.T) {
	all := lists()
	for i, a := range all {
		for _, b := range all[i:] {
			if want := both(a, b); len(want) <= full {
				merges(t, a, b, want)
			} else {
				cannotMerge(t, a, b, api.ErrLimit, "more than MaxRevoked")
			}
		}
	}
}

// P12.2: lists that have together MaxRevoked trips, and one more, with and without common ones.
func TestMergeToFullLists(t *testing.T) {
	all := spaced(full+1, 5, 3)
	for _, cut := range []int{0, 1, 2, full / 2, full - 1, full} {
		for _, common := range []int{0, 1, 2, 100, full / 2} {
			from := max(0, cut-common)
			merges(t, all[:cut], all[from:full], all[:full])
			if from > 0 { // so that each of them is valid
				cannotMerge(t, all[:cut], all[from:], api.ErrLimit, "one more than MaxRevoked")
			}
		}
	}
	cannotMerge(t, all[:full], all[full:], api.ErrLimit, "one more than MaxRevoked")
	cannotMerge(t, all[1:], all[:1], api.ErrLimit, "one more than MaxRevoked")
	cannotMerge(t, all[1:], all[:full], api.ErrLimit, "one more than MaxRevoked")
	merges(t, all[:full], all[:full], all[:full])
	merges(t, all[1:], all[1:], all[1:])
}

// P12.2: two full lists whose trips alternate, and ones whose trips are the same.
func TestMergeOfFullLists(t *testing.T) {
	odd, even := spaced(full, 1, 2), spaced(full, 2, 2)
	cannotMerge(t, odd, even, api.ErrLimit, "twice MaxRevoked")
	merges(t, odd[:full/2], even[:full/2], both(odd[:full/2], even[:full/2]))
	cannotMerge(t, odd[:full/2+1], even[:full/2], api.ErrLimit, "one more than MaxRevoked")
	later := slices.Clone(odd)
	for i := range later {
		later[i].Until += i%3 - 1
	}
	merges(t, odd, later, both(odd, later))
}

// P12.2: ErrArg for each of both lists that is not valid, also if there would be too many trips.
func TestMergeOfWrongLists(t *testing.T) {
	for _, w := range wrongs() {
		for _, l := range [][]api.Revoked{nil, {}, of(5, 10), of(1, 0, 2, 20, last, end), spaced(full, 5, 3), spaced(full, 1000, 7), w.l} {
			cannotMerge(t, w.l, l, api.ErrArg, w.about)
		}
	}
}

// P12.3: a trip is revoked in a merged list if and only if it is in one of both.
func TestRevokedInOneOfBoth(t *testing.T) {
	for seed := range uint64(300) {
		a, b := scattered(seed, int(seed%13), 15, 10), scattered(seed+1000, int(seed%11), 15, 10)
		m, e := revoke.Merge(a, b)
		if e != api.OK {
			t.Fatalf("error %d", e)
		}
		for trip := -1; trip <= 17; trip++ {
			for now := -1; now <= 12; now++ {
				got := revoke.Has(m, trip, now)
				if got != (revoke.Has(a, trip, now) || revoke.Has(b, trip, now)) || got != (revoked(a, trip, now) || revoked(b, trip, now)) {
					t.Errorf("Has of %d at %d in %v, merged of %v and %v, is %t", trip, now, m, a, b, got)
				}
			}
		}
	}
}

// P12.1 and P12.3: what is pruned at a time has the same trips revoked at that time, and later.
func TestRevokedAfterPrune(t *testing.T) {
	for seed := range uint64(100) {
		l := scattered(seed, 12, 15, 10)
		for now := -1; now <= 12; now++ {
			p := revoke.Prune(l, now)
			for trip := -1; trip <= 17; trip++ {
				for at := now; at <= 12; at++ {
					if revoke.Has(p, trip, at) != revoke.Has(l, trip, at) {
						t.Errorf("Has of %d at %d in %v, pruned at %d of %v", trip, at, p, now, l)
					}
				}
			}
		}
	}
}

// within is a list that lies within greater memory, and all of that memory.
func within(l []api.Revoked) (inside, memory []api.Revoked) {
	memory = slices.Concat(of(77, 77), l, spaced(len(l)+10, 1, 1))
	return memory[1 : 1+len(l)], memory
}

// spoil overwrites a list, and what lies behind it in memory.
func spoil(l []api.Revoked) {
	l = l[:cap(l)]
	for i := range l {
		l[i] = api.Revoked{Trip: -77, Until: -77}
	}
}

// answers is what the calls return for two lists that may be merged: that of each call twice.
func answers(a, b []api.Revoked) [][]api.Revoked {
	var out [][]api.Revoked
	for range 2 {
		for _, now := range []int{-1, 7, 500, end} {
			out = append(out, revoke.Prune(a, now))
		}
		for _, x := range of(1, 5, 15, 5, 20, 5, 20, end, last, 5) {
			l, _ := revoke.Add(a, x)
			out = append(out, l)
		}
		ab, _ := revoke.Merge(a, b)
		ba, _ := revoke.Merge(b, a)
		aa, _ := revoke.Merge(a, a)
		out = append(out, ab, ba, aa)
	}
	return out
}

// pairs is lists to be merged.
func pairs() [][2][]api.Revoked {
	l := of(10, 5, 20, 6, 30, 7)
	return [][2][]api.Revoked{
		{{}, {}}, {l, {}}, {{}, l}, {l, l}, {l, of(1, 1, 2, 2)}, {l, of(40, 1, 50, 2)}, {l, of(10, 9, 15, 9, 30, 2)},
		{spaced(100, 10, 10), spaced(100, 500, 5)}, {spaced(full, 10, 10), spaced(full, 10, 10)},
	}
}

// No argument is changed: neither the elements, nor what lies about them in memory.
func TestArgumentsAreNotChanged(t *testing.T) {
	for _, c := range pairs() {
		a, memoryA := within(c[0])
		b, memoryB := within(c[1])
		beforeA, beforeB := slices.Clone(memoryA), slices.Clone(memoryB)
		answers(a, b)
		answers(b, a)
		revoke.Right(a)
		revoke.Has(a, 20, 5)
		revoke.Add(a, api.Revoked{})
		revoke.Merge(a, spaced(full, 3, 7))
		expect(t, memoryA, beforeA, "the memory of an argument")
		expect(t, memoryB, beforeB, "the memory of an argument")
	}
}

// An answer is new memory, which shares none with an argument or with another answer.
func TestAnswersAreNewMemory(t *testing.T) {
	for _, c := range pairs() {
		a, b := slices.Clone(c[0]), slices.Clone(c[1])
		want := answers(slices.Clone(c[0]), slices.Clone(c[1]))
		got := answers(a, b)
		for i := range got {
			expect(t, got[i], want[i], "beside answers that were overwritten")
			spoil(got[i])
			expect(t, a, c[0], "the argument of an answer that was overwritten")
			expect(t, b, c[1], "the argument of an answer that was overwritten")
		}
		got = answers(a, b)
		spoil(a)
		spoil(b)
		for i := range got {
			expect(t, got[i], want[i], "the arguments overwritten")
		}
	}
}

// The same arguments have the same answers, whatever was called before.
func TestNothingIsKept(t *testing.T) {
	a, b := of(10, 5, 20, 6), of(10, 6, 15, 2)
	want := answers(a, b)
	answers(b, spaced(100, 1, 1))
	revoke.Add(spaced(full+1, 1, 1), api.Revoked{})
	for i, l := range answers(a, b) {
		expect(t, l, want[i], "once more")
	}
}

// fuzzed is a list of the numbers in bytes; if ordered, the trips are the sums of those numbers, so that the list is mostly valid.
func fuzzed(b []byte, ordered bool) []api.Revoked {
	var l []api.Revoked
	trip := 0
	for len(b) > 0 {
		step, n := binary.Varint(b)
		until, m := binary.Varint(b[max(n, 0):])
		if n <= 0 || m <= 0 {
			break
		}
		b = b[n+m:]
		if ordered {
			trip += int(step)
		} else {
			trip = int(step)
		}
		l = append(l, api.Revoked{Trip: trip, Until: int(until)})
	}
	return l
}

// packed is bytes of which fuzzed, if ordered, makes a list.
func packed(l []api.Revoked) []byte {
	var b []byte
	trip := 0
	for _, x := range l {
		b = binary.AppendVarint(binary.AppendVarint(b, int64(x.Trip-trip)), int64(x.Until))
		trip = x.Trip
	}
	return b
}

// agrees asks that all calls agree with the words of the chapter.
func agrees(t *testing.T, a, b []api.Revoked, x api.Revoked) {
	t.Helper()
	if got := revoke.Right(a); got != right(a) {
		t.Errorf("Right of %v is %t", front(a), got)
	}
	prunes(t, a, x.Until, kept(a, x.Until))
	if got := revoke.Has(a, x.Trip, x.Until); right(a) && got != revoked(a, x.Trip, x.Until) {
		t.Errorf("Has of %v in %v is %t", x, front(a), got)
	}
	switch want := both(a, []api.Revoked{x}); {
	case !right(a) || !right([]api.Revoked{x}):
		cannotAdd(t, a, x, api.ErrArg, "not valid")
	case len(want) > full:
		cannotAdd(t, a, x, api.ErrLimit, "too many")
	default:
		adds(t, a, x, want)
	}
	switch want := both(a, b); {
	case !right(a) || !right(b):
		cannotMerge(t, a, b, api.ErrArg, "not valid")
	case len(want) > full:
		cannotMerge(t, a, b, api.ErrLimit, "too many")
	default:
		merges(t, a, b, want)
	}
}

// P12.1, P12.2 and P12.3 for lists, elements and times of any kind.
func FuzzLists(f *testing.F) {
	f.Add(packed(of(10, 5, 20, 6, 30, 7)), packed(of(10, 6, 15, 2)), 20, 6)
	f.Add(packed(of(1, 0, last, end)), packed(of(1, end, last, 0)), last, end)
	f.Add(packed(of(1, 0, last+1, end)), packed(of(1, end+1)), last+1, end+1)
	f.Add(packed(of(5, 1, 5, 2)), packed(of(5, 1, 4, 2)), 0, -1)
	f.Add([]byte{}, []byte{}, 1, 0)
	f.Add(packed(spaced(full, 5, 3)), packed(spaced(full, 5, 3)), 5, 200)
	f.Add(packed(spaced(full, 5, 3)), packed(spaced(1, 6, 3)), 6, 200)
	f.Add(packed(spaced(full+1, 5, 3)), packed(spaced(1, 5, 3)), 5, 200)
	for _, w := range wrongs()[2:12] {
		f.Add(packed(w.l), packed(of(2, 20)), 2, 20)
	}
	f.Fuzz(func(t *testing.T, first, second []byte, trip, until int) {
		for _, ordered := range []bool{true, false} {
			a, b := fuzzed(first, ordered), fuzzed(second, ordered)
			x := api.Revoked{Trip: trip, Until: until}
			agrees(t, a, b, x)
			agrees(t, b, a, x)
			if len(a) > 0 { // a trip that is there
				agrees(t, a, b, api.Revoked{Trip: a[len(a)/2].Trip, Until: until})
			}
		}
	})
}

// P12.1, P12.2 and P12.3 for valid lists of few trips, so that many are common.
func FuzzValidLists(f *testing.F) {
	f.Add(uint64(1), uint64(2), 10, 10, 20, 5, 5)
	f.Add(uint64(3), uint64(3), 100, 100, 50, 50, 1)
	f.Add(uint64(4), uint64(5), 9000, 20, 12000, 7, 0)
	f.Add(uint64(4), uint64(6), 5000, 5000, 9000, 7, 0)
	f.Fuzz(func(t *testing.T, seedA, seedB uint64, countA, countB, most, trip, until int) {
		most = 1 + most&(1<<14-1)
		a, b := scattered(seedA, countA&(1<<13-1), most, 20), scattered(seedB, countB&(1<<13-1), most, 20)
		agrees(t, a, b, api.Revoked{Trip: trip, Until: until})
		agrees(t, b, a, api.Revoked{Trip: 1 + trip&(1<<14-1)%most, Until: until & 31})
	})
}
