package geo_test

import (
	"math"
	"math/big"
	"slices"
	"testing"

	"viaticum/api"
	"viaticum/geo"
)

const (
	edge     = 1 << 26    // coordinates are below it
	top      = edge - 1   // the greatest coordinate
	farthest = 1 << 12    // the greatest radius of a ring
	highest  = 3037000499 // the root of the greatest int
)

// at is a stop at a position.
func at(x, y int) api.Stop {
	return api.Stop{X: x, Y: y}
}

// noise is numbers that are spread over all values, the same ones for the same seed.
func noise(seed uint64) func(most int) int {
	x := seed*2654435761 + 88172645463325252
	return func(most int) int {
		x ^= x << 13
		x ^= x >> 7
		x ^= x << 17
		return int(x >> 11 % uint64(most))
	}
}

// within is coordinates that a position may have.
func within() []int {
	return []int{0, 1, 2, 1000, edge / 2, top - 1, top}
}

// without is coordinates that no position may have.
func without() []int {
	return []int{-1, -2, -top, -edge, edge, edge + 1, 2 * edge, 1 << 32, 1<<32 + 5, -1 << 32, math.MinInt32, math.MaxInt32, math.MinInt, math.MinInt + 1, math.MaxInt, math.MaxInt - 1}
}

// places is positions: at the limits, near each other, and spread.
func places() []api.Stop {
	out := []api.Stop{at(0, 0), at(top, top), at(top, 0), at(0, top), at(1, 0), at(0, 1), at(1, 1), at(2, 1), at(1, 2), at(top-1, top), at(top, top-1), at(top-1, top-1), at(edge/2, edge/2), at(5, 5), at(8, 9)}
	next := noise(1)
	for range 20 {
		out = append(out, at(next(edge), next(edge)), at(next(10), next(10)))
	}
	return out
}

// nowhere is what is no position: by X, by Y, or by both.
func nowhere() []api.Stop {
	var out []api.Stop
	for _, n := range without() {
		out = append(out, at(n, 0), at(0, n), at(n, 7), at(7, n), at(n, top), at(top, n), at(n, n))
	}
	return append(out, at(-1, edge), at(edge, -1), at(math.MinInt, math.MaxInt), at(math.MaxInt, math.MinInt))
}

// may is whether a stop is at a position, by the words of the chapter.
func may(s api.Stop) bool {
	return s.X >= 0 && s.Y >= 0 && s.X <= 67108863 && s.Y <= 67108863
}

// product is a product of two differences, without bounds.
func product(a, b, c, d int) *big.Int {
	x := new(big.Int).Sub(big.NewInt(int64(a)), big.NewInt(int64(b)))
	y := new(big.Int).Sub(big.NewInt(int64(c)), big.NewInt(int64(d)))
	return x.Mul(x, y)
}

// square is the square of two positions, by the words of the chapter.
func square(a, b api.Stop) int {
	if !may(a) || !may(b) {
		return 0
	}
	sum := product(a.X, b.X, a.X, b.X)
	return int(sum.Add(sum, product(a.Y, b.Y, a.Y, b.Y)).Int64())
}

// side is the side of a line on which a position is, by the words of the chapter.
func side(a, b, c api.Stop) int {
	if !may(a) || !may(b) || !may(c) {
		return 0
	}
	return product(b.X, a.X, c.Y, a.Y).Cmp(product(b.Y, a.Y, c.X, a.X))
}

// P13.1: X and Y at their limits and beyond them, each of them with the other one inside and outside.
func TestMay(t *testing.T) {
	for _, x := range within() {
		for _, y := range within() {
			if !geo.May(x, y) {
				t.Errorf("%d, %d is a position", x, y)
			}
		}
		for _, y := range without() {
			if geo.May(x, y) {
				t.Errorf("%d, %d is no position, by Y", x, y)
			}
			if geo.May(y, x) {
				t.Errorf("%d, %d is no position, by X", y, x)
			}
		}
	}
	for _, x := range without() {
		for _, y := range without() {
			if geo.May(x, y) {
				t.Errorf("%d, %d is no position, by both", x, y)
			}
		}
	}
}

// P13.1: squares that are known, both ways around.
func TestSquare(t *testing.T) {
	for _, c := range []struct {
		a, b api.Stop
		want int
	}{
		{at(0, 0), at(0, 0), 0},
		{at(5, 9), at(5, 9), 0},
		{at(top, top), at(top, top), 0},
		{at(0, top), at(0, top), 0},
		{at(5, 9), at(6, 9), 1},
		{at(5, 9), at(12, 9), 49},
		{at(0, 9), at(top, 9), 4503599493152769},
		{at(5, 9), at(5, 10), 1},
		{at(5, 9), at(5, 2), 49},
		{at(9, 0), at(9, top), 4503599493152769},
		{at(5, 9), at(6, 10), 2},
		{at(3, 4), at(0, 0), 25},
		{at(3, 0), at(0, 4), 25},
		{at(5, 9), at(10, 21), 169},
		{at(10, 9), at(5, 21), 169},
		{at(0, 0), at(top, 1), 4503599493152770},
		{at(0, 0), at(top, top), 9007198986305538},
		{at(top, 0), at(0, top), 9007198986305538},
		{at(1, 0), at(top, top), 9007198852087813},
		{at(60000, 1), at(10000, 70001), 7400000000},
	} {
		if got := geo.Square(c.a, c.b); got != c.want {
			t.Errorf("Square of %v and %v is %d, want %d", c.a, c.b, got, c.want)
		}
		if got := geo.Square(c.b, c.a); got != c.want {
			t.Errorf("Square of %v and %v is %d, want %d", c.b, c.a, got, c.want)
		}
	}
}

// P13.1: squares of all kinds of positions.
func TestSquareOfPlaces(t *testing.T) {
	for _, a := range places() {
		for _, b := range places() {
			if got, want := geo.Square(a, b), square(a, b); got != want {
				t.Errorf("Square of %v and %v is %d, want %d", a, b, got, want)
			}
		}
	}
}

// P13.1: the first argument, the second one, or both are no position.
func TestSquareOfNoPlaces(t *testing.T) {
	for _, a := range nowhere() {
		for _, b := range append(places(), nowhere()...) {
			if got := geo.Square(a, b); got != 0 {
				t.Errorf("Square of %v, which is no position, and %v is %d", a, b, got)
			}
			if got := geo.Square(b, a); got != 0 {
				t.Errorf("Square of %v and %v, which is no position, is %d", b, a, got)
			}
		}
	}
}

// P13.3: the square is at most that of the sum of the absolute differences, and is that one along an axis.
func TestSquareOfSums(t *testing.T) {
	for _, a := range places() {
		for _, b := range places() {
			sum := max(a.X-b.X, b.X-a.X) + max(a.Y-b.Y, b.Y-a.Y)
			got := geo.Square(a, b)
			if got > sum*sum {
				t.Errorf("Square of %v and %v is %d, above %d", a, b, got, sum*sum)
			}
			if alone := a.X == b.X || a.Y == b.Y; alone != (got == sum*sum) {
				t.Errorf("Square of %v and %v is %d, and that of the sum %d", a, b, got, sum*sum)
			}
		}
	}
}

// rooted asks for the greatest number whose square is not above another one.
func rooted(t *testing.T, n int) {
	t.Helper()
	root := geo.Root(n)
	if n < 0 {
		if root != 0 {
			t.Errorf("Root of %d is %d", n, root)
		}
		return
	}
	// Neither square is above the greatest uint64, if the root is at most highest.
	low, high := uint64(root), uint64(root)+1
	if root < 0 || root > highest || low*low > uint64(n) || high*high <= uint64(n) {
		t.Errorf("Root of %d is %d", n, root)
	}
}

// P13.1: roots that are known.
func TestRoot(t *testing.T) {
	for _, c := range [][2]int{
		{-1, 0}, {-2, 0}, {-4, 0}, {-1000000, 0}, {math.MinInt32, 0}, {-1 << 32, 0}, {-1 << 62, 0}, {math.MinInt + 1, 0}, {math.MinInt, 0},
		{0, 0}, {1, 1}, {2, 1}, {3, 1}, {4, 2}, {5, 2}, {8, 2}, {9, 3}, {15, 3}, {16, 4}, {24, 4}, {25, 5}, {99, 9}, {100, 10}, {101, 10},
		{1<<31 - 1, 46340}, {1 << 31, 46340}, {1<<32 - 1, 65535}, {1 << 32, 65536}, {1<<62 - 1, 1<<31 - 1}, {1 << 62, 1 << 31}, {1<<62 + 1, 1 << 31},
		{highest*highest - 1, highest - 1}, {highest * highest, highest}, {highest*highest + 1, highest}, {math.MaxInt - 1, highest}, {math.MaxInt, highest},
		{9007198986305538, 94906264}, // of the farthest corners
	} {
		if got := geo.Root(c[0]); got != c[1] {
			t.Errorf("Root of %d is %d, want %d", c[0], got, c[1])
		}
	}
}

// P13.1: all small numbers, on both sides of 0.
func TestRootOfSmallNumbers(t *testing.T) {
	root := 0
	for n := range 100000 {
		if (root+1)*(root+1) == n {
			root++
		}
		if got := geo.Root(n); got != root {
			t.Fatalf("Root of %d is %d, want %d", n, got, root)
		}
		rooted(t, -n)
	}
}

// P13.1: squares of small and of large numbers, and their neighbours.
func TestRootOfSquares(t *testing.T) {
	var roots []int
	for n := range 2000 {
		roots = append(roots, 2+n, highest-n, edge-1000+n, 94906265-1000+n)
	}
	for bit := range 32 {
		for _, n := range []int{1<<bit - 2, 1<<bit - 1, 1 << bit, 1<<bit + 1} {
			if n >= 2 && n <= highest {
				roots = append(roots, n)
			}
		}
	}
	next := noise(2)
	for range 10000 {
		roots = append(roots, 2+next(highest-1))
	}
	for _, n := range roots {
		if got := geo.Root(n*n - 1); got != n-1 {
			t.Errorf("Root of %d squared less 1 is %d", n, got)
		}
		if got := geo.Root(n * n); got != n {
			t.Errorf("Root of %d squared is %d", n, got)
		}
		if got := geo.Root(n*n + 1); got != n {
			t.Errorf("Root of %d squared and 1 is %d", n, got)
		}
	}
}

// P13.1: numbers of all sizes.
func TestRootOfNumbers(t *testing.T) {
	next := noise(3)
	for bit := range 63 {
		for n := range 200 {
			rooted(t, 1<<bit-100+n)
			rooted(t, next(1<<bit))
			rooted(t, -next(1<<bit))
		}
	}
	for n := range 1000 {
		rooted(t, math.MaxInt-n)
		rooted(t, math.MinInt+n)
	}
}

// cellOf is a cell of a ring by its place in the ring's order, by the words of the chapter.
func cellOf(r, i int) api.Cell {
	if r == 0 {
		return api.Cell{}
	}
	along := 1 + i%(2*r)
	switch i / (2 * r) {
	case 0:
		return api.Cell{X: r, Y: -r + along}
	case 1:
		return api.Cell{X: r - along, Y: r}
	case 2:
		return api.Cell{X: -r, Y: r - along}
	default:
		return api.Cell{X: -r + along, Y: -r}
	}
}

// ring is a ring that must be there.
func ring(t *testing.T, r int) []api.Cell {
	t.Helper()
	l, e := geo.Ring(r)
	if e != api.OK {
		t.Fatalf("Ring of %d: error %d", r, e)
	}
	return l
}

// rings asks for a ring as the words of the chapter have it.
func rings(t *testing.T, r int) {
	t.Helper()
	l := ring(t, r)
	if len(l) != max(1, 8*r) {
		t.Fatalf("Ring of %d has %d cells", r, len(l))
	}
	for i, c := range l {
		if c != cellOf(r, i) {
			t.Fatalf("Ring of %d: the cell %d is %v, want %v", r, i, c, cellOf(r, i))
		}
	}
}

// P13.2: the chapter's example, and the next rings.
func TestRing(t *testing.T) {
	for _, c := range []struct {
		r    int
		want [][2]int
	}{
		{0, [][2]int{{0, 0}}},
		{1, [][2]int{{1, 0}, {1, 1}, {0, 1}, {-1, 1}, {-1, 0}, {-1, -1}, {0, -1}, {1, -1}}},
		{2, [][2]int{{2, -1}, {2, 0}, {2, 1}, {2, 2}, {1, 2}, {0, 2}, {-1, 2}, {-2, 2}, {-2, 1}, {-2, 0}, {-2, -1}, {-2, -2}, {-1, -2}, {0, -2}, {1, -2}, {2, -2}}},
	} {
		var want []api.Cell
		for _, n := range c.want {
			want = append(want, api.Cell{X: n[0], Y: n[1]})
		}
		if l := ring(t, c.r); !slices.Equal(l, want) {
			t.Errorf("Ring of %d is %v, want %v", c.r, l, want)
		}
	}
}

// P13.2: the first cell, the last one, and the corners, by their places.
func TestRingAtItsCorners(t *testing.T) {
	for _, r := range []int{1, 2, 3, 4, 7, 8, 100, 1000, 1023, 1024, farthest - 1, farthest} {
		l := ring(t, r)
		if len(l) != 8*r {
			t.Fatalf("Ring of %d has %d cells", r, len(l))
		}
		for _, c := range []struct {
			about string
			at    int
			want  api.Cell
		}{
			{"first", 0, api.Cell{X: r, Y: 1 - r}},
			{"middle of the right side", r - 1, api.Cell{X: r}},
			{"upper right", 2*r - 1, api.Cell{X: r, Y: r}},
			{"one behind upper right", 2 * r, api.Cell{X: r - 1, Y: r}},
			{"upper left", 4*r - 1, api.Cell{X: -r, Y: r}},
			{"one behind upper left", 4 * r, api.Cell{X: -r, Y: r - 1}},
			{"lower left", 6*r - 1, api.Cell{X: -r, Y: -r}},
			{"one behind lower left", 6 * r, api.Cell{X: 1 - r, Y: -r}},
			{"last, lower right", 8*r - 1, api.Cell{X: r, Y: -r}},
		} {
			if l[c.at] != c.want {
				t.Errorf("Ring of %d, %s: %v, want %v", r, c.about, l[c.at], c.want)
			}
		}
	}
}

// P13.2: all rings, cell by cell.
func TestAllRings(t *testing.T) {
	for r := range farthest + 1 {
		rings(t, r)
	}
}

// P13.2: each cell has the radius, is one step from the preceding one, and is there once.
func TestCellsOfRings(t *testing.T) {
	for _, r := range []int{0, 1, 2, 3, 10, 77, 1000, farthest} {
		l := ring(t, r)
		seen := map[api.Cell]int{}
		for i, c := range l {
			if max(c.X, -c.X, c.Y, -c.Y) != r {
				t.Errorf("Ring of %d has the cell %v", r, c)
			}
			if seen[c]++; seen[c] > 1 {
				t.Errorf("Ring of %d has the cell %v twice", r, c)
			}
			if i > 0 && max(c.X-l[i-1].X, l[i-1].X-c.X)+max(c.Y-l[i-1].Y, l[i-1].Y-c.Y) != 1 {
				t.Errorf("Ring of %d has the cell %v behind %v", r, c, l[i-1])
			}
		}
	}
}

// P13.2: radii that may not be, with an empty list beside the error.
func TestRingBeyondLimits(t *testing.T) {
	for _, r := range []int{-1, -2, -farthest, -farthest - 1, farthest + 1, farthest + 2, 2 * farthest, 1 << 32, 1<<32 + 1, -1<<32 + 1, 1 << 61, 1<<61 + 1, math.MinInt32, math.MaxInt32, math.MinInt, math.MinInt + 1, math.MaxInt, math.MaxInt - 1} {
		if l, e := geo.Ring(r); e != api.ErrLimit || len(l) != 0 {
			t.Errorf("Ring of %d: error %d and %d cells, want ErrLimit and none", r, e, len(l))
		}
	}
	rings(t, 0)
	rings(t, farthest)
}

// P13.3: different rings have no cell in common, and the rings up to a radius together contain all cells up to it.
func TestRingsTogether(t *testing.T) {
	const most = 120
	seen := map[api.Cell]int{}
	for r := range most + 1 {
		for _, c := range ring(t, r) {
			if before, there := seen[c]; there {
				t.Errorf("the rings %d and %d have the cell %v", before, r, c)
			}
			seen[c] = r
		}
		if len(seen) != (2*r+1)*(2*r+1) {
			t.Errorf("the rings up to %d have %d cells", r, len(seen))
		}
		for n := -r; n <= r; n++ { // what this ring adds to those ahead of it
			for _, c := range []api.Cell{{X: n, Y: r}, {X: n, Y: -r}, {X: r, Y: n}, {X: -r, Y: n}} {
				if got, there := seen[c]; !there || got != r {
					t.Errorf("the rings up to %d: %v is in the ring %d, %t", r, c, got, there)
				}
			}
		}
	}
}

// sides asks for the side of a position, and for the other one from the reverse line.
func sides(t *testing.T, a, b, c api.Stop, want int) {
	t.Helper()
	if got := geo.Side(a, b, c); got != want {
		t.Errorf("Side of %v from %v to %v is %d, want %d", c, a, b, got, want)
	}
	if got := geo.Side(b, a, c); got != -want {
		t.Errorf("Side of %v from %v to %v is %d, want %d", c, b, a, got, -want)
	}
}

// P13.2: to the left and to the right, for lines in each direction.
func TestSide(t *testing.T) {
	middle := at(100, 100)
	for _, c := range []struct{ b, left, right api.Stop }{
		{at(110, 100), at(105, 101), at(105, 99)},  // X increasing
		{at(90, 100), at(95, 99), at(95, 101)},     // X decreasing
		{at(100, 110), at(99, 105), at(101, 105)},  // upwards
		{at(100, 90), at(101, 95), at(99, 95)},     // downwards
		{at(110, 110), at(105, 106), at(106, 105)}, // between them
		{at(90, 110), at(94, 105), at(95, 106)},
		{at(90, 90), at(95, 94), at(94, 95)},
		{at(110, 90), at(106, 95), at(105, 94)},
		{at(103, 101), at(101, 101), at(102, 100)}, // flat
		{at(101, 103), at(101, 104), at(102, 105)}, // steep
		{at(110, 100), at(0, 101), at(0, 99)},      // behind the line
		{at(110, 100), at(top, 101), at(top, 99)},  // ahead of it
		{at(110, 100), at(100, 101), at(100, 99)},  // beside its start
		{at(110, 100), at(110, 101), at(110, 99)},  // beside its end
		{at(110, 100), at(105, top), at(105, 0)},   // far off
		{at(101, 100), at(105, 101), at(105, 99)},  // a line of one step
		{at(top, top), at(0, 1), at(1, 0)},         // a long one
		{at(top, 100), at(top, 101), at(top, 99)},
		{at(100, top), at(99, 5), at(101, 5)},
		{at(0, 0), at(top, top-1), at(top-1, top)},
		{at(110, 100), at(100, top), at(100, 0)},   // at a right angle
		{at(101, 101), at(99, 100), at(100, 99)},   // half behind
		{at(101, 101), at(101, 102), at(102, 101)}, // half ahead
		{at(100, 101), at(0, 100), at(top, 100)},   // at a right angle, far off
		{at(top-1, top), at(99, 99), at(102, 101)}, // next to the line
	} {
		sides(t, middle, c.b, c.left, 1)
		sides(t, middle, c.b, c.right, -1)
	}
	sides(t, at(0, 0), at(1, 0), at(0, 1), 1)
	sides(t, at(0, 0), at(0, 1), at(1, 0), -1)
}

// P13.2: on the line: between both, behind the first, ahead of the second, at each of them.
func TestSideOnTheLine(t *testing.T) {
	for _, step := range [][2]int{{1, 0}, {-1, 0}, {0, 1}, {0, -1}, {1, 1}, {-1, 1}, {1, -1}, {-1, -1}, {3, 2}, {-2, 3}, {7, -1}, {-1, -7}} {
		on := func(n int) api.Stop {
			return at(1000+n*step[0], 1000+n*step[1])
		}
		for _, n := range []int{1, 2, 5, 9, -1, -2, -100, 11, 12, 100, 0, 10} {
			sides(t, on(0), on(10), on(n), 0)
		}
		beside := on(5)
		sides(t, on(0), on(10), at(beside.X-step[1], beside.Y+step[0]), 1)
		sides(t, on(0), on(10), at(beside.X+step[1], beside.Y-step[0]), -1)
	}
}

// P13.2: a line from a position to itself has no sides.
func TestSideOfNoLine(t *testing.T) {
	for _, a := range places() {
		for _, c := range places() {
			sides(t, a, a, c, 0)
		}
	}
}

// P13.2: positions at the limits, where the products are greatest, and ones next to a long line.
func TestSideAtTheLimits(t *testing.T) {
	low, high := at(0, 0), at(top, top)
	sides(t, low, high, at(0, top), 1)
	sides(t, low, high, at(top, 0), -1)
	sides(t, at(0, top), at(top, 0), high, 1)
	sides(t, at(0, top), at(top, 0), low, -1)
	sides(t, low, at(top, 0), high, 1)
	sides(t, low, at(0, top), high, -1)
	sides(t, low, at(top, 0), at(5, 0), 0)
	sides(t, at(0, top), high, at(5, top), 0)
	sides(t, low, high, at(edge/2, edge/2), 0)
	sides(t, low, high, at(edge/2-1, edge/2), 1)
	sides(t, low, high, at(edge/2, edge/2-1), -1)
	sides(t, low, high, at(top-1, top), 1)
	sides(t, low, high, at(top, top-1), -1)
	sides(t, low, at(top, top-1), at(top-1, top-2), -1) // the products differ by 1
	sides(t, low, at(top-1, top), at(top-2, top-1), 1)
	sides(t, low, at(top, top-1), at(1, 1), 1)
	sides(t, high, at(1, 0), low, -1)
	sides(t, high, at(0, 1), low, 1)
}

// P13.2 and P13.3: each three positions of all kinds.
func TestSideOfPlaces(t *testing.T) {
	all := places()
	for _, a := range all {
		for _, b := range all {
			for _, c := range all {
				want := side(a, b, c)
				sides(t, a, b, c, want)
				if got := geo.Side(b, c, a); got != want {
					t.Errorf("Side of %v from %v to %v is %d, want %d", a, b, c, got, want)
				}
			}
		}
	}
}

// P13.2: one argument is no position, or more of them are.
func TestSideOfNoPlaces(t *testing.T) {
	for _, no := range nowhere() {
		for _, p := range [][2]api.Stop{{at(0, 0), at(1, 0)}, {at(0, 0), at(0, 1)}, {at(0, 0), at(top, top)}, {at(top, 0), at(0, top)}, {at(5, 7), at(9, 3)}, {no, at(5, 7)}, {at(5, 7), no}, {no, no}, {at(-1, 7), at(edge, 3)}} {
			for _, c := range [][3]api.Stop{{no, p[0], p[1]}, {p[0], no, p[1]}, {p[0], p[1], no}} {
				sides(t, c[0], c[1], c[2], 0)
			}
		}
	}
}

// No argument is changed.
func TestArgumentsAreNotChanged(t *testing.T) {
	for _, want := range [][3]api.Stop{{at(1, 2), at(30, 40), at(500, 6)}, {at(top, 0), at(0, top), at(top, top)}, {at(-1, 2), at(edge, -5), at(math.MinInt, math.MaxInt)}} {
		l := want
		geo.Square(l[0], l[1])
		geo.Side(l[0], l[1], l[2])
		geo.May(l[2].X, l[2].Y)
		if l != want {
			t.Errorf("%v became %v", want, l)
		}
	}
}

// An answer is new memory, which shares none with another answer.
func TestAnswersAreNewMemory(t *testing.T) {
	for _, r := range []int{0, 1, 2, 100, farthest} {
		first, second := ring(t, r), ring(t, r)
		all := first[:cap(first)]
		for i := range all {
			all[i] = api.Cell{X: -77, Y: 77}
		}
		for i, c := range second {
			if c != cellOf(r, i) {
				t.Fatalf("Ring of %d, beside one that was overwritten: the cell %d is %v", r, i, c)
			}
		}
		rings(t, r)
	}
}

// The same arguments have the same answers, whatever was called before.
func TestNothingIsKept(t *testing.T) {
	for range 2 {
		for _, r := range []int{3, 0, farthest, 1, 3} {
			rings(t, r)
			geo.Ring(-1)
			geo.Ring(farthest + 1)
		}
		rooted(t, 25)
		rooted(t, -25)
		sides(t, at(0, 0), at(1, 0), at(0, 1), 1)
		sides(t, at(-1, 0), at(1, 0), at(0, 1), 0)
		if geo.Square(at(-1, 0), at(2, 4)) != 0 || geo.Square(at(5, 0), at(2, 4)) != 25 {
			t.Error("Square")
		}
	}
}

// agrees asks that the calls agree with the words of the chapter.
func agrees(t *testing.T, a, b, c api.Stop) {
	t.Helper()
	if got := geo.May(a.X, a.Y); got != may(a) {
		t.Errorf("May of %v is %t", a, got)
	}
	for _, p := range [][2]api.Stop{{a, b}, {b, a}, {a, a}} {
		if got, want := geo.Square(p[0], p[1]), square(p[0], p[1]); got != want {
			t.Errorf("Square of %v and %v is %d, want %d", p[0], p[1], got, want)
		}
	}
	sides(t, a, b, c, side(a, b, c))
}

// P13.1, P13.2 and P13.3 for positions of any kind: as they are, near the limits, near each other, on one line.
func FuzzPlaces(f *testing.F) {
	f.Add(0, 0, 1, 0, 0, 1)
	f.Add(0, 0, top, top, edge/2, edge/2)
	f.Add(top, 0, 0, top, top, top)
	f.Add(-1, 0, edge, 5, 3, 4)
	f.Add(math.MinInt, math.MaxInt, math.MaxInt, math.MinInt, 5, 5)
	f.Fuzz(func(t *testing.T, ax, ay, bx, by, cx, cy int) {
		agrees(t, at(ax, ay), at(bx, by), at(cx, cy))
		agrees(t, at(bx, ay), at(ax, by), at(cx, cy))
		a, b, c := at(ax&top, ay&top), at(bx&top, by&top), at(cx&top, cy&top)
		agrees(t, a, b, c)
		agrees(t, a, at(a.X, b.Y), at(b.X, a.Y))
		agrees(t, a, b, at((a.X+b.X)/2, (a.Y+b.Y)/2))
		agrees(t, a, b, at(a.X+b.X-c.X, a.Y+b.Y-c.Y))
		agrees(t, at(ax&15, ay&15), at(bx&15, by&15), at(cx&15, cy&15))
		agrees(t, at(top-ax&15, ay&15), at(bx&15, by&15), at(top-cx&15, top-cy&15))
		agrees(t, at(ax&31-8, ay&15), at(bx&15, edge+8-by&31), at(cx&15, cy&15))
	})
}

// P13.1 and P13.2 for numbers of any kind.
func FuzzNumbers(f *testing.F) {
	for _, n := range []int{-1, 0, 1, 2, 3, 4, farthest, farthest + 1, 1 << 62, highest * highest, math.MinInt, math.MaxInt} {
		f.Add(n)
	}
	f.Fuzz(func(t *testing.T, n int) {
		rooted(t, n)
		n &= math.MaxInt
		for _, near := range []int{n, n >> 20, n >> 40} {
			root := geo.Root(near)
			rooted(t, near)
			rooted(t, root*root)
			rooted(t, root*root-1)
		}
		rings(t, n%(farthest+1))
		if l, e := geo.Ring(n); (e == api.OK) != (n <= farthest) || e != api.OK && (e != api.ErrLimit || len(l) != 0) {
			t.Errorf("Ring of %d: error %d, %d cells", n, e, len(l))
		}
		if l, e := geo.Ring(-1 - n); e != api.ErrLimit || len(l) != 0 {
			t.Errorf("Ring of %d: error %d, %d cells", -1-n, e, len(l))
		}
	})
}
