package grid_test

import (
	"cmp"
	"math"
	"slices"
	"testing"
	"time"

	"viaticum/api"
	"viaticum/grid"
)

const (
	edge   = 1 << 26  // coordinates are below it; the greatest size of cells
	top    = edge - 1 // the greatest coordinate
	widest = 1 << 20  // the greatest reach
	full   = 4096     // the greatest number of stops
)

// at is a stop at a position.
func at(x, y int) api.Stop {
	return api.Stop{X: x, Y: y}
}

// of is the list of stops at coordinates, which follow each other in pairs.
func of(n ...int) []api.Stop {
	l := []api.Stop{}
	for i := 0; i+1 < len(n); i += 2 {
		l = append(l, at(n[i], n[i+1]))
	}
	return l
}

// noise is numbers that are spread over all values, the same ones for the same seed.
func noise(seed uint64) func(most int) int {
	x := seed*2654435761 + 88172645463325252
	return func(most int) int {
		x ^= x << 13
		x ^= x >> 7
		x ^= x << 17
		return int(x >> 11 % uint64(most))
	}
}

// lattice is wide times wide stops, each one a step from the next, row by row.
func lattice(wide, step, x, y int) []api.Stop {
	var l []api.Stop
	for i := range wide * wide {
		l = append(l, at(x+i%wide*step, y+i/wide*step))
	}
	return l
}

// scattered is stops in a square of the plane whose least corner is x, y.
func scattered(seed uint64, count, wide, x, y int) []api.Stop {
	next := noise(seed)
	var l []api.Stop
	for range count {
		l = append(l, at(x+next(wide), y+next(wide)))
	}
	return l
}

// with is a list in which the stop at a place is another one.
func with(l []api.Stop, place int, s api.Stop) []api.Stop {
	out := slices.Clone(l)
	out[place] = s
	return out
}

// towns is lists of stops of many kinds.
func towns() [][]api.Stop {
	return [][]api.Stop{
		nil,
		{},
		of(0, 0),
		of(top, top),
		of(12345, 67890),
		of(0, 0, 3, 4),
		of(7, 7, 7, 7, 7, 7, 7, 7),
		of(0, 0, top, 0, 0, top, top, top),
		of(top, top, 0, top, top, 0, 0, 0, edge/2, edge/2),
		of(15, 10, 10, 15, 5, 10, 10, 5, 13, 14, 7, 6, 14, 13, 6, 7, 10, 10),
		of(1, 0, 1<<20+1, 0, 1<<20, 1, 0, 1<<20, 1<<21, 1<<21),
		lattice(10, 10, 0, 0),
		lattice(10, 1, top-9, top-9),
		lattice(30, 1<<18, 5, 9),
		scattered(1, 40, 20, 0, 0),
		scattered(2, 60, 1000, edge-1000, 0),
		scattered(3, 200, 1<<21, edge/2, edge/2),
		scattered(4, 300, edge, 0, 0),
		slices.Concat(scattered(5, 30, 50, 100, 100), scattered(6, 30, edge, 0, 0), scattered(5, 30, 50, 100, 100)),
		scattered(7, full, 1<<22, 1<<22, 1<<23),
	}
}

// sizes is sizes of cells, from the least one to the greatest one.
func sizes() []int {
	return []int{1, 2, 3, 10, 64, 1000, 1<<16 + 1, widest, edge/2 + 1, top, edge}
}

// noSizes is sizes that cells may not have.
func noSizes() []int {
	return []int{0, -1, -2, -10, -edge, edge + 1, edge + 2, 2 * edge, 1<<32 + 1, -1<<32 + 1, math.MinInt32, math.MaxInt32, math.MinInt, math.MinInt + 1, math.MaxInt, math.MaxInt - 1}
}

// nowhere is what is no position: by X, by Y, or by both.
func nowhere() []api.Stop {
	var out []api.Stop
	for _, n := range []int{-1, -2, -top, -edge, edge, edge + 1, 2 * edge, 1<<32 + 5, -1 << 32, math.MinInt, math.MinInt + 1, math.MaxInt, math.MaxInt - 1} {
		out = append(out, at(n, 0), at(0, n), at(n, 7), at(7, n), at(n, top), at(top, n), at(n, n))
	}
	return append(out, at(-1, edge), at(edge, -1), at(math.MinInt, math.MaxInt), at(math.MaxInt, math.MinInt))
}

// may is whether a stop is at a position, by the words of the chapter.
func may(s api.Stop) bool {
	return s.X >= 0 && s.Y >= 0 && s.X <= 67108863 && s.Y <= 67108863
}

// square is the square of two positions.
func square(a, b api.Stop) int {
	return (a.X-b.X)*(a.X-b.X) + (a.Y-b.Y)*(a.Y-b.Y)
}

// ordered is the numbers of all stops, in order from a position, by the words of the chapter.
func ordered(l []api.Stop, place api.Stop) []int {
	var out []int
	for i := range l {
		out = append(out, i)
	}
	// Stable, so that equal squares keep the ascending numbers.
	slices.SortStableFunc(out, func(a, b int) int {
		return cmp.Compare(square(l[a], place), square(l[b], place))
	})
	return out
}

// near is the first most stops within a reach, of the numbers of all in order.
func near(l []api.Stop, order []int, place api.Stop, reach, most int) []int {
	var out []int
	for _, i := range order {
		if len(out) < most && square(l[i], place) <= reach*reach {
			out = append(out, i)
		}
	}
	return out
}

// cellOf is the cell of a position, by the words of the chapter.
func cellOf(s api.Stop, size int) api.Cell {
	return api.Cell{X: int(math.Floor(float64(s.X) / float64(size))), Y: int(math.Floor(float64(s.Y) / float64(size)))}
}

// front is the first elements of a list, to be told.
func front[T any](l []T) []T {
	return l[:min(len(l), 12)]
}

// made is a grid that there must be.
func made(t *testing.T, l []api.Stop, size int) *grid.Grid {
	t.Helper()
	before := slices.Clone(l)
	g, e := grid.New(l, size)
	if e != api.OK || g == nil {
		t.Fatalf("New of %d stops %v with cells of %d: error %d, no grid %t", len(l), front(l), size, e, g == nil)
	}
	if !slices.Equal(l, before) {
		t.Errorf("New of %d stops changed them", len(l))
	}
	if n := g.Len(); n != len(l) {
		t.Errorf("Len of %d stops with cells of %d is %d", len(l), size, n)
	}
	return g
}

// cannotMake asks that there is no such grid, with nil beside the error.
func cannotMake(t *testing.T, l []api.Stop, size int, want api.Errno) {
	t.Helper()
	before := slices.Clone(l)
	if g, e := grid.New(l, size); e != want || g != nil {
		t.Errorf("New of %d stops %v with cells of %d: error %d, a grid %t, want error %d and none", len(l), front(l), size, e, g != nil, want)
	}
	if !slices.Equal(l, before) {
		t.Errorf("New of %d stops, with an error, changed them", len(l))
	}
}

// has asks for the stops of a cell.
func has(t *testing.T, g *grid.Grid, x, y int, want ...int) {
	t.Helper()
	if l := g.Cell(api.Cell{X: x, Y: y}); !slices.Equal(l, want) {
		t.Errorf("Cell of %d, %d is %v, want %v", x, y, front(l), front(want))
	}
}

// finds asks for the stops near a place.
func finds(t *testing.T, g *grid.Grid, x, y, reach, most int, want ...int) {
	t.Helper()
	if l, e := g.Near(x, y, reach, most); e != api.OK || !slices.Equal(l, want) {
		t.Errorf("Near of %d, %d within %d, %d at most: error %d, %d stops %v, want %d %v", x, y, reach, most, e, len(l), front(l), len(want), front(want))
	}
}

// cannotFind asks for an error of Near, with an empty list beside it.
func cannotFind(t *testing.T, g *grid.Grid, x, y, reach, most int, want api.Errno) {
	t.Helper()
	if l, e := g.Near(x, y, reach, most); e != want || len(l) != 0 {
		t.Errorf("Near of %d, %d within %d, %d at most: error %d, %d stops, want error %d and none", x, y, reach, most, e, len(l), want)
	}
}

// nearest asks for the nearest stop.
func nearest(t *testing.T, g *grid.Grid, x, y, want int) {
	t.Helper()
	if i, ok := g.Nearest(x, y); !ok || i != want {
		t.Errorf("Nearest of %d, %d is %d, %t, want %d", x, y, i, ok, want)
	}
}

// noNearest asks that there is no nearest stop.
func noNearest(t *testing.T, g *grid.Grid, x, y int) {
	t.Helper()
	if i, ok := g.Nearest(x, y); ok || i != 0 {
		t.Errorf("Nearest of %d, %d is %d, %t, want none", x, y, i, ok)
	}
}

// soon fails if something takes so long that it must have gone through far more than the stops.
func soon(t *testing.T, do func()) {
	t.Helper()
	done := make(chan int)
	go func() {
		do()
		close(done)
	}()
	select {
	case <-done:
	case <-time.After(time.Minute):
		t.Fatal("a search takes far too long")
	}
}

// P14.1: all kinds of stops with all sizes of cells, and the number of stops.
func TestNew(t *testing.T) {
	for _, l := range towns() {
		for _, size := range sizes() {
			made(t, l, size)
		}
	}
}

// P14.1: up to MaxStops stops, and no more; ErrLimit also if a stop is no position, or the size is wrong.
func TestNewOfManyStops(t *testing.T) {
	all := scattered(11, 3*full, edge, 0, 0)
	same := make([]api.Stop, 3*full)
	for _, count := range []int{full - 2, full - 1, full} {
		for _, size := range sizes() {
			made(t, all[:count], size)
			made(t, same[:count], size)
		}
	}
	for _, count := range []int{full + 1, full + 2, 2 * full, 3 * full} {
		for _, size := range append(sizes(), noSizes()...) {
			cannotMake(t, all[:count], size, api.ErrLimit)
			cannotMake(t, same[:count], size, api.ErrLimit)
			for _, place := range []int{0, count / 2, full, count - 1} {
				cannotMake(t, with(all[:count], place, at(-1, 5)), size, api.ErrLimit)
				cannotMake(t, with(all[:count], place, at(5, edge)), size, api.ErrLimit)
			}
		}
	}
}

// P14.1: the first stop, the last one, or one between them is no position.
func TestNewOfNoPlaces(t *testing.T) {
	several, most := scattered(12, 9, edge, 0, 0), scattered(13, full, edge, 0, 0)
	for _, no := range nowhere() {
		for _, size := range []int{1, 2, 1000, edge} {
			cannotMake(t, []api.Stop{no}, size, api.ErrArg)
			cannotMake(t, []api.Stop{no, no}, size, api.ErrArg)
			for place := range several {
				cannotMake(t, with(several, place, no), size, api.ErrArg)
			}
		}
		for _, place := range []int{0, full / 2, full - 1} {
			cannotMake(t, with(most, place, no), 1<<16, api.ErrArg)
		}
	}
	for _, s := range of(0, 0, top, 0, 0, top, top, top, 5, top, top, 5) {
		for place := range several {
			made(t, with(several, place, s), 10)
		}
	}
}

// P14.1: sizes that may not be, with stops of all kinds, and the least and the greatest one that may.
func TestNewOfSizes(t *testing.T) {
	for _, l := range towns() {
		for _, size := range noSizes() {
			cannotMake(t, l, size, api.ErrArg)
			cannotMake(t, append(slices.Clone(front(l)), at(-1, 0)), size, api.ErrArg)
		}
		made(t, l, 1)
		made(t, l, edge)
	}
}

// P14.1: cells with no stop, one, and several.
func TestCell(t *testing.T) {
	l := of(0, 0, 9, 9, 10, 9, 9, 10, 10, 10, 25, 39, 20, 30, 0, 9, 29, 30)
	g := made(t, l, 10)
	has(t, g, 0, 0, 0, 1, 7)
	has(t, g, 1, 0, 2)
	has(t, g, 0, 1, 3)
	has(t, g, 1, 1, 4)
	has(t, g, 2, 3, 5, 6, 8)
	has(t, g, 2, 2)
	has(t, g, 2, 4)
	has(t, g, 1, 3)
	has(t, g, 3, 2)
	has(t, g, 3, 3)
	g = made(t, l, 1)
	for i, s := range l {
		has(t, g, s.X, s.Y, i)
	}
	has(t, g, 1, 1)
	has(t, g, 2, 3)
	g = made(t, l, 2)
	has(t, g, 0, 0, 0)
	has(t, g, 4, 4, 1)
	has(t, g, 5, 4, 2)
	has(t, g, 12, 19, 5)
	has(t, g, 5, 5, 4)
	has(t, g, 1, 0)
	g = made(t, l, edge)
	has(t, g, 0, 0, 0, 1, 2, 3, 4, 5, 6, 7, 8)
	has(t, g, 0, 1)
	has(t, g, 1, 0)
}

// P14.1: several stops at one place are in its cell in ascending order, whatever order their positions are in.
func TestCellOfOnePlace(t *testing.T) {
	g := made(t, of(5, 5, 60, 5, 4, 4, 5, 5, 60, 5, 3, 9, 5, 5), 10)
	has(t, g, 0, 0, 0, 2, 3, 5, 6)
	has(t, g, 6, 0, 1, 4)
	g = made(t, make([]api.Stop, full), 1)
	l := g.Cell(api.Cell{})
	if len(l) != full {
		t.Fatalf("%d stops at one place", len(l))
	}
	for i, got := range l {
		if got != i {
			t.Fatalf("the stop %d at one place is %d", i, got)
		}
	}
}

// P14.1: the cells at the limits of the plane.
func TestCellAtTheLimits(t *testing.T) {
	l := of(0, 0, top, 0, 0, top, top, top)
	for _, c := range []struct{ size, last int }{{1, top}, {2, edge/2 - 1}, {3, 22369621}, {1000, 67108}, {edge/2 - 1, 2}, {edge / 2, 1}, {edge/2 + 1, 1}, {top, 1}} {
		g := made(t, l, c.size)
		has(t, g, 0, 0, 0)
		has(t, g, c.last, 0, 1)
		has(t, g, 0, c.last, 2)
		has(t, g, c.last, c.last, 3)
		has(t, g, c.last+1, 0)
		has(t, g, 0, c.last+1)
		has(t, g, c.last+1, c.last+1)
	}
	has(t, made(t, l, edge), 0, 0, 0, 1, 2, 3)
}

// P14.1: cells outside all positions have no stops, also if a product with the size would wrap round to that of a cell that has.
func TestCellOutside(t *testing.T) {
	for _, size := range sizes() {
		for _, l := range [][]api.Stop{of(0, 0, top, top, 0, top, top, 0), lattice(10, 10, 0, 0), {}} {
			g := made(t, l, size)
			for _, n := range []int{-1, -2, -edge, top/size + 1, edge, edge + 1, 1 << 32, -1 << 32, 1 << 38, 1 << 44, 1 << 58, 1 << 62, math.MinInt32, math.MinInt, math.MinInt + 1, math.MaxInt, math.MaxInt - 1} {
				has(t, g, n, 0)
				has(t, g, 0, n)
				has(t, g, n, n)
				has(t, g, n, -1)
			}
			has(t, g, math.MinInt, math.MaxInt)
			has(t, g, math.MaxInt, math.MinInt)
		}
	}
}

// P14.1: each stop is in its cell, and in no other one.
func TestCellsOfTowns(t *testing.T) {
	for _, l := range towns() {
		for _, size := range sizes() {
			g := made(t, l, size)
			want := map[api.Cell][]int{}
			for i, s := range l {
				c := cellOf(s, size)
				want[c] = append(want[c], i)
			}
			for c := range want {
				for _, d := range []api.Cell{c, {X: c.X + 1, Y: c.Y}, {X: c.X - 1, Y: c.Y}, {X: c.X, Y: c.Y + 1}, {X: c.X, Y: c.Y - 1}, {X: c.Y, Y: c.X}} {
					has(t, g, d.X, d.Y, want[d]...)
				}
			}
		}
	}
}

// P14.2: the chapter's example, and other stops that are known.
func TestNear(t *testing.T) {
	for _, size := range sizes() {
		g := made(t, of(0, 0, 3, 4), size)
		finds(t, g, 0, 0, 5, 2, 0, 1)
		finds(t, g, 0, 0, 5, 9, 0, 1)
		finds(t, g, 0, 0, 4, 9, 0)
		finds(t, g, 3, 4, 5, 9, 1, 0)
		finds(t, g, 3, 4, 4, 9, 1)
		finds(t, g, 3, 0, 2, 9)
		finds(t, g, 3, 0, 3, 9, 0)
		finds(t, g, 3, 0, 4, 9, 0, 1)
		finds(t, g, 2, 2, 5, 9, 1, 0)
		finds(t, g, 2, 2, 5, 1, 1)
		finds(t, g, 2, 2, 2, 9)
		g = made(t, lattice(10, 10, 0, 0), size)
		finds(t, g, 50, 50, 10, 9, 55, 45, 54, 56, 65)
		finds(t, g, 50, 50, 9, 9, 55)
		finds(t, g, 54, 56, 10, 9, 65, 55, 66, 56)
		finds(t, g, 0, 0, 10, 9, 0, 1, 10)
		finds(t, g, 94, 96, 15, 9, 99)
		finds(t, g, 94, 96, 16, 9, 99, 98)
		finds(t, g, 94, 96, 17, 9, 99, 98, 89)
	}
}

// P14.2: a stop whose square is that of the reach, and ones just beyond it, in each direction.
func TestNearAtTheReach(t *testing.T) {
	for _, c := range [][3]int{{1, 0, 1}, {0, 5, 5}, {3, 4, 5}, {4, 3, 5}, {5, 12, 13}, {8, 15, 17}, {20, 21, 29}, {1000, 0, 1000}, {696, 697, 985}, {300000, 400000, 500000}, {629145, 838860, 1048575}, {1 << 20, 0, 1 << 20}, {0, 1 << 20, 1 << 20}} {
		x, y, reach := c[0], c[1], c[2]
		for _, way := range [][2]int{{1, 1}, {-1, 1}, {1, -1}, {-1, -1}} {
			exact := at(edge/2+way[0]*x, edge/2+way[1]*y)
			wider, higher := at(exact.X+way[0], exact.Y), at(exact.X, exact.Y+way[1])
			for _, size := range sizes() {
				g := made(t, []api.Stop{wider, exact, higher}, size)
				finds(t, g, edge/2, edge/2, reach, 9, 1)
				finds(t, g, edge/2, edge/2, reach-1, 9)
				finds(t, g, edge/2, edge/2, min(reach+1, widest), 1, 1)
			}
		}
	}
	// Twice the square of 741455 is just below the square of the greatest reach.
	g := made(t, of(741456, 741455, 741455, 741455), 1000)
	finds(t, g, 0, 0, widest, 9, 1)
	// Within the square around a place, and yet not near.
	g = made(t, of(4, 4, 16, 4, 4, 16, 16, 16, 10, 16), 7)
	finds(t, g, 10, 10, 6, 9, 4)
	finds(t, g, 10, 10, 8, 9, 4)
	finds(t, g, 10, 10, 9, 9, 4, 0, 1, 2, 3)
}

// P14.2: stops with equal squares, in cells of all sizes and in any of them, have ascending numbers.
func TestNearOfEqualSquares(t *testing.T) {
	ways := of(25, 20, 20, 25, 15, 20, 20, 15, 23, 24, 17, 16, 24, 23, 16, 17, 23, 16, 17, 24, 24, 17, 16, 23)
	next := noise(21)
	for range 50 {
		for i := len(ways) - 1; i > 0; i-- {
			j := next(i + 1)
			ways[i], ways[j] = ways[j], ways[i]
		}
		for _, size := range []int{1, 2, 3, 5, 10, 20, 21, 1000, edge} {
			g := made(t, ways, size)
			finds(t, g, 20, 20, 5, 20, 0, 1, 2, 3, 4, 5, 6, 7, 8, 9, 10, 11)
			finds(t, g, 20, 20, 5, 5, 0, 1, 2, 3, 4)
			finds(t, g, 20, 20, 4, 20)
			nearest(t, g, 20, 20, 0)
		}
	}
}

// P14.2: several stops at one place, alone and among others.
func TestNearOfOnePlace(t *testing.T) {
	for _, size := range []int{1, 2, 10, 1000, edge} {
		g := made(t, of(7, 7, 7, 7, 7, 7), size)
		finds(t, g, 7, 7, 0, 9, 0, 1, 2)
		finds(t, g, 9, 7, 2, 9, 0, 1, 2)
		finds(t, g, 9, 7, 1, 9)
		finds(t, g, 7, 7, 0, 2, 0, 1)
		g = made(t, of(7, 7, 8, 8, 7, 7, 6, 6, 8, 8, 7, 7), size)
		finds(t, g, 7, 7, 0, 9, 0, 2, 5)
		finds(t, g, 7, 7, 1, 9, 0, 2, 5)
		finds(t, g, 7, 7, 2, 9, 0, 2, 5, 1, 3, 4)
		finds(t, g, 8, 8, 2, 4, 1, 4, 0, 2)
		finds(t, g, 5, 5, 10, 9, 3, 0, 2, 5, 1, 4)
	}
}

// P14.2: how many stops there are at most: none, fewer than found, as many, more.
func TestNearOfMost(t *testing.T) {
	l := of(30, 0, 10, 0, 20, 0, 50, 0, 40, 0)
	order := []int{1, 2, 0, 4, 3}
	for _, size := range sizes() {
		g := made(t, l, size)
		for most := range 8 {
			finds(t, g, 0, 0, 50, most, order[:min(most, 5)]...)
			finds(t, g, 0, 0, 35, most, order[:min(most, 3)]...)
			finds(t, g, 0, 0, 5, most)
		}
		for _, most := range []int{full, full + 1, 1 << 32, 1<<32 + 1, math.MaxInt - 1, math.MaxInt} {
			finds(t, g, 0, 0, 50, most, order...)
			finds(t, g, 0, 0, 35, most, order[:3]...)
		}
		for _, most := range []int{-1, -2, -5, -1<<32 + 2, math.MinInt32, math.MinInt, math.MinInt + 1} {
			cannotFind(t, g, 0, 0, 50, most, api.ErrArg)
		}
	}
}

// P14.2: reaches at their limits and beyond them.
func TestNearOfReaches(t *testing.T) {
	l := of(100, 100, 101, 100, 102, 100, 100+widest, 100, 101+widest, 100, 100, 100+widest)
	for _, size := range sizes() {
		g, none := made(t, l, size), made(t, nil, size)
		finds(t, g, 100, 100, 0, 9, 0)
		finds(t, g, 100, 101, 0, 9)
		finds(t, g, 100, 100, 1, 9, 0, 1)
		finds(t, g, 100, 100, 2, 9, 0, 1, 2)
		finds(t, g, 100, 100, widest-1, 9, 0, 1, 2)
		finds(t, g, 100, 100, widest, 9, 0, 1, 2, 3, 5)
		finds(t, none, 100, 100, widest, 9)
		finds(t, none, 100, 100, 0, 9)
		for _, reach := range []int{-1, -2, -widest, widest + 1, widest + 2, 2 * widest, edge, 1<<32 + 1, -1<<32 + 1, math.MinInt32, math.MaxInt32, math.MinInt, math.MinInt + 1, math.MaxInt, math.MaxInt - 1} {
			for _, most := range []int{0, 1, 9, -1} {
				cannotFind(t, g, 100, 100, reach, most, api.ErrArg)
				cannotFind(t, none, 100, 100, reach, most, api.ErrArg)
			}
		}
	}
}

// P14.2: places that are no position, with stops and without.
func TestSearchesOfNoPlaces(t *testing.T) {
	for _, l := range [][]api.Stop{nil, of(0, 0), of(top, top), lattice(10, 10, 0, 0), of(0, 0, top, 0, 0, top, top, top, 7, 7)} {
		for _, size := range []int{1, 10, edge} {
			g := made(t, l, size)
			for _, no := range nowhere() {
				for _, reach := range []int{0, 1, 10, widest, -1, widest + 1} {
					for _, most := range []int{0, 1, 9, math.MaxInt, -1} {
						cannotFind(t, g, no.X, no.Y, reach, most, api.ErrArg)
					}
				}
				noNearest(t, g, no.X, no.Y)
			}
		}
	}
}

// P14.2: places at the limits of the plane, where the cells within a reach go beyond it.
func TestNearAtTheLimits(t *testing.T) {
	l := of(0, 0, top, 0, 0, top, top, top, 3, 0, top, 3, 0, top-3, top-3, top)
	for _, size := range sizes() {
		g := made(t, l, size)
		for _, reach := range []int{3, 10, 1000, widest} {
			finds(t, g, 0, 0, reach, 9, 0, 4)
			finds(t, g, top, 0, reach, 9, 1, 5)
			finds(t, g, 0, top, reach, 9, 2, 6)
			finds(t, g, top, top, reach, 9, 3, 7)
		}
		finds(t, g, 0, 0, 2, 9, 0)
		finds(t, g, top, top, 2, 9, 3)
		finds(t, g, 2, 2, 2, 9)
		finds(t, g, 2, 2, 3, 9, 4, 0)
		finds(t, g, top, 2, 2, 9, 5, 1)
		finds(t, g, edge/2, edge/2, widest, 9)
		finds(t, g, widest, 0, widest, 9, 4, 0)
		finds(t, g, widest+1, 0, widest, 9, 4)
		finds(t, g, top, top-widest, widest, 9, 3)
		finds(t, g, top, top-widest-1, widest, 9)
	}
}

// P14.2: a reach that contains up to 2^42 cells, of which a search must not visit all.
func TestSearchesOfManyCells(t *testing.T) {
	soon(t, func() {
		for _, l := range [][]api.Stop{nil, of(edge/2, edge/2), of(0, 0, top, top), lattice(10, 10, edge/2, edge/2), scattered(31, full, 1<<21, edge/2-widest, edge/2-widest)} {
			for _, size := range []int{1, 2, 3, 10} {
				g := made(t, l, size)
				for _, place := range of(edge/2, edge/2, 0, 0, top, top, edge/2-widest, edge/2, 1, top) {
					order := ordered(l, place)
					for _, reach := range []int{widest, widest - 1, widest / 2} {
						finds(t, g, place.X, place.Y, reach, full, near(l, order, place, reach, full)...)
					}
					if len(l) > 0 {
						nearest(t, g, place.X, place.Y, order[0])
					}
				}
			}
		}
	})
}

// P14.2: many searches, of each of which the cells are few, many, or more than there are stops.
func TestNearOfTowns(t *testing.T) {
	next := noise(41)
	for _, l := range towns() {
		places := of(0, 0, top, top, 0, top, top, 0, edge/2, edge/2, next(edge), next(edge))
		for range 6 {
			if len(l) > 0 {
				s := l[next(len(l))]
				places = append(places, s, at(min(s.X+next(20), top), max(s.Y-next(20), 0)), at(max(s.X-next(1<<20), 0), min(s.Y+next(1<<20), top)))
			}
		}
		for _, size := range sizes() {
			g := made(t, l, size)
			for _, place := range places {
				order := ordered(l, place)
				for _, reach := range []int{0, 1, 2, 5, 10, 14, 15, 100, 1000, 70000, widest - 1, widest} {
					finds(t, g, place.X, place.Y, reach, full, near(l, order, place, reach, full)...)
				}
				finds(t, g, place.X, place.Y, widest, 3, near(l, order, place, widest, 3)...)
				if len(l) == 0 {
					noNearest(t, g, place.X, place.Y)
				} else {
					nearest(t, g, place.X, place.Y, order[0])
				}
			}
		}
	}
}

// P14.2: the nearest one of no stops, of one, of several, and of equal squares.
func TestNearest(t *testing.T) {
	for _, size := range sizes() {
		none := made(t, nil, size)
		for _, place := range of(0, 0, 5, 5, top, top, 0, top) {
			noNearest(t, none, place.X, place.Y)
			nearest(t, made(t, of(7, 9), size), place.X, place.Y, 0)
			nearest(t, made(t, of(0, 0), size), place.X, place.Y, 0)
		}
		g := made(t, lattice(10, 10, 0, 0), size)
		nearest(t, g, 94, 96, 99)
		nearest(t, g, 90, 90, 99)
		nearest(t, g, 0, 0, 0)
		nearest(t, g, 55, 50, 55)
		nearest(t, g, 56, 50, 56)
		nearest(t, g, 55, 55, 55)
		nearest(t, g, 54, 56, 65)
		nearest(t, g, top, top, 99)
		g = made(t, of(30, 20, 20, 30, 10, 20, 20, 10), size)
		nearest(t, g, 20, 20, 0)
		nearest(t, g, 19, 21, 1)
		nearest(t, g, 19, 20, 2)
		nearest(t, g, 20, 19, 3)
		nearest(t, g, 21, 21, 0)
		g = made(t, of(50, 50, 8, 8, 7, 7, 7, 7), size)
		nearest(t, g, 7, 7, 2)
		nearest(t, g, 0, 0, 2)
		nearest(t, g, 8, 7, 1)
		// In a neighboring cell, nearer than the one in the cell of the place.
		g = made(t, of(0, 0, 10, 9, 9, 11), size)
		nearest(t, g, 9, 9, 1)
		nearest(t, g, 5, 5, 1)
		nearest(t, g, 8, 10, 2)
	}
}

// P14.2: the nearest one may be as far away as can be.
func TestNearestFarAway(t *testing.T) {
	soon(t, func() {
		for _, size := range sizes() {
			for _, c := range [][2]api.Stop{{at(0, 0), at(top, top)}, {at(top, 0), at(0, top)}, {at(0, 5), at(top, 5)}, {at(5, 0), at(5, top)}} {
				for _, p := range [][2]api.Stop{c, {c[1], c[0]}} {
					nearest(t, made(t, []api.Stop{p[1]}, size), p[0].X, p[0].Y, 0)
					nearest(t, made(t, []api.Stop{p[1], p[1]}, size), p[0].X, p[0].Y, 0)
					finds(t, made(t, []api.Stop{p[1]}, size), p[0].X, p[0].Y, widest, 9)
				}
			}
			g := made(t, of(top, top, top, top-1, top-1, top), size)
			nearest(t, g, 0, 0, 1)
			nearest(t, g, 1, 0, 1)
			nearest(t, g, 0, 1, 2)
			nearest(t, made(t, of(top, 0, 0, top), size), 0, 0, 0)
			nearest(t, made(t, of(0, top, top, 0), size), top, top, 0)
			nearest(t, made(t, of(0, widest+1, widest+2, 0), size), 0, 0, 0)
		}
	})
}

// P14.1 and P14.2: a nil grid, and a plain one, have no stops and no cells; ErrNil comes ahead of the arguments' errors.
func TestNoGrid(t *testing.T) {
	for _, g := range []*grid.Grid{nil, {}, new(grid.Grid)} {
		for range 2 {
			if n := g.Len(); n != 0 {
				t.Errorf("Len of no grid is %d", n)
			}
			for _, n := range []int{0, 1, -1, edge, math.MinInt, math.MaxInt} {
				has(t, g, n, 0)
				has(t, g, 0, n)
				has(t, g, n, n)
				noNearest(t, g, n, 0)
				noNearest(t, g, 0, n)
				cannotFind(t, g, 5, 5, n, 3, api.ErrNil)
				cannotFind(t, g, 5, 5, 3, n, api.ErrNil)
				cannotFind(t, g, n, 5, 3, 3, api.ErrNil)
				cannotFind(t, g, 5, n, 3, 3, api.ErrNil)
				cannotFind(t, g, n, n, n, n, api.ErrNil)
			}
		}
	}
}

// P14.1 and P14.2: a grid of no stops is a grid all the same.
func TestGridOfNoStops(t *testing.T) {
	for _, size := range sizes() {
		for _, l := range [][]api.Stop{nil, {}} {
			g := made(t, l, size)
			has(t, g, 0, 0)
			finds(t, g, 0, 0, widest, 9)
			finds(t, g, top, top, 0, 0)
			cannotFind(t, g, 0, 0, 0, -1, api.ErrArg)
			noNearest(t, g, 0, 0)
		}
	}
}

// P14.3: the results are the same ones with cells of all sizes.
func TestSizesDoNotMatter(t *testing.T) {
	next := noise(51)
	for _, l := range towns() {
		first := made(t, l, 1)
		var others []*grid.Grid
		for _, size := range append(sizes()[1:], 1+next(100), 1+next(10000), 1+next(edge)) {
			others = append(others, made(t, l, size))
		}
		for range 60 {
			x, y, reach, most := next(edge), next(edge), next(widest+1), next(20)
			if len(l) > 0 && next(3) > 0 {
				s := l[next(len(l))]
				x, y = min(s.X+next(30), top), max(s.Y-next(30), 0)
			}
			if next(2) > 0 {
				reach = next(100)
			}
			want, e := first.Near(x, y, reach, most)
			if e != api.OK {
				t.Fatalf("Near of %d, %d within %d, %d at most: error %d", x, y, reach, most, e)
			}
			stop, there := first.Nearest(x, y)
			for _, g := range others {
				finds(t, g, x, y, reach, most, want...)
				if i, ok := g.Nearest(x, y); i != stop || ok != there {
					t.Errorf("Nearest of %d, %d is %d, %t, want %d, %t", x, y, i, ok, stop, there)
				}
			}
		}
	}
}

// P14.3: a greater reach finds at least as many stops, those of the lesser one first.
func TestGreaterReaches(t *testing.T) {
	reaches := []int{0, 1, 2, 3, 5, 8, 10, 11, 15, 20, 50, 100, 1000, 5000, 1 << 15, 1 << 17, 1 << 18, 1<<19 + 1, widest - 1, widest}
	for _, l := range towns() {
		for _, size := range []int{1, 10, 1000, widest, edge} {
			g := made(t, l, size)
			for _, place := range append(front(l), at(0, 0), at(edge/2, edge/2), at(50, 50)) {
				for _, most := range []int{3, full} {
					var lesser []int
					for _, reach := range reaches {
						greater, e := g.Near(place.X, place.Y, reach, most)
						if e != api.OK || len(greater) < len(lesser) || !slices.Equal(greater[:len(lesser)], lesser) {
							t.Fatalf("Near of %v within %d, %d at most: error %d, %v, behind %v within less", place, reach, most, e, front(greater), front(lesser))
						}
						lesser = greater
					}
				}
			}
		}
	}
}

// uses calls all that a grid has, and asks for what is known.
func uses(t *testing.T, g *grid.Grid) {
	t.Helper()
	if n := g.Len(); n != 4 {
		t.Errorf("Len of 4 stops is %d", n)
	}
	has(t, g, 0, 0, 0, 1, 3)
	has(t, g, 2, 3, 2)
	has(t, g, 1, 1)
	finds(t, g, 0, 0, 5, 9, 0, 1, 3)
	finds(t, g, 0, 0, 1000, 9, 0, 1, 3, 2)
	finds(t, g, 0, 0, 1000, 2, 0, 1)
	nearest(t, g, 4, 4, 1)
	nearest(t, g, 100, 100, 2)
	cannotFind(t, g, -1, 0, 5, 9, api.ErrArg)
	noNearest(t, g, -1, 0)
}

// No argument is changed, and none is kept: a grid stays what it is when its stops are overwritten.
func TestStopsAreNotKept(t *testing.T) {
	l := slices.Grow(of(0, 0, 3, 4, 25, 35, 4, 3), 10)
	g := made(t, l, 10)
	uses(t, g)
	if !slices.Equal(l, of(0, 0, 3, 4, 25, 35, 4, 3)) {
		t.Errorf("the stops became %v", l)
	}
	all := l[:cap(l)]
	for i := range all {
		if i >= 4 && all[i] != (api.Stop{}) {
			t.Errorf("memory behind the stops was written: %v", all[i])
		}
		all[i] = at(-7, edge)
	}
	uses(t, g)
}

// An answer is new memory, which shares none with the grid or with another answer.
func TestAnswersAreNewMemory(t *testing.T) {
	g := made(t, of(0, 0, 3, 4, 25, 35, 4, 3), 10)
	for range 3 {
		for _, c := range []api.Cell{{}, {X: 2, Y: 3}, {X: 1, Y: 1}} {
			overwrite(g.Cell(c))
		}
		for _, reach := range []int{0, 5, 1000, widest} {
			for _, most := range []int{0, 1, 9} {
				l, _ := g.Near(0, 0, reach, most)
				overwrite(l)
			}
		}
		uses(t, g)
	}
}

// overwrite writes to all memory of a list.
func overwrite(l []int) {
	all := l[:cap(l)]
	for i := range all {
		all[i] = -77
	}
}

// Grids of other stops and calls with errors leave a grid as it is.
func TestGridsAreApart(t *testing.T) {
	g := made(t, of(0, 0, 3, 4, 25, 35, 4, 3), 10)
	copied := *g
	for range 3 {
		other := made(t, lattice(10, 10, 0, 0), 10)
		grid.New(of(0, 0, -1, 0), 10)
		grid.New(make([]api.Stop, full+1), 10)
		uses(t, g)
		uses(t, &copied)
		finds(t, other, 50, 50, 0, 9, 55)
	}
}

// agrees asks that a grid agrees with the words of the chapter.
func agrees(t *testing.T, l []api.Stop, size, x, y, reach, most int) {
	t.Helper()
	right := len(l) <= full && 1 <= size && size <= edge
	for _, s := range l {
		right = right && may(s)
	}
	if !right {
		want := api.ErrArg
		if len(l) > full {
			want = api.ErrLimit
		}
		cannotMake(t, l, size, want)
		return
	}
	g := made(t, l, size)
	cells := map[api.Cell][]int{}
	for i, s := range l {
		c := cellOf(s, size)
		cells[c] = append(cells[c], i)
	}
	for c, want := range cells {
		has(t, g, c.X, c.Y, want...)
	}
	has(t, g, x, y, cells[api.Cell{X: x, Y: y}]...)
	place := at(x, y)
	if !may(place) {
		cannotFind(t, g, x, y, reach, most, api.ErrArg)
		noNearest(t, g, x, y)
		return
	}
	order := ordered(l, place)
	if reach < 0 || reach > widest || most < 0 {
		cannotFind(t, g, x, y, reach, most, api.ErrArg)
	} else {
		finds(t, g, x, y, reach, most, near(l, order, place, reach, most)...)
	}
	if len(l) == 0 {
		noNearest(t, g, x, y)
	} else {
		nearest(t, g, x, y, order[0])
	}
}

// P14.1, P14.2 and P14.3 for grids and searches of any kind.
func FuzzGrid(f *testing.F) {
	f.Add(uint64(1), 10, 100, 0, 10, 50, 50, 10, 9)
	f.Add(uint64(2), full, edge, 0, 1, edge/2, edge/2, widest, 16)
	f.Add(uint64(3), 100, 1000, top-1000, edge, top, top, 0, 0)
	f.Add(uint64(4), full+1, 5, 0, 5, 0, 0, 5, 5)
	f.Add(uint64(5), 3, 5, -1, 5, 0, 0, 5, 5)
	f.Add(uint64(6), 0, 1, 0, 1, 0, 0, widest, math.MaxInt)
	f.Add(uint64(7), 5, 5, 5, math.MinInt, math.MaxInt, math.MinInt, math.MinInt, math.MinInt)
	f.Fuzz(func(t *testing.T, seed uint64, count, wide, from, size, x, y, reach, most int) {
		l := scattered(seed, count&(2*full-1), 1+wide&top, from, -from)
		agrees(t, l, size, x, y, reach, most)
		l = scattered(seed, count&63, 1+wide&31, from&31, from>>5&31)
		for _, cells := range []int{1 + size&7, 1 + size&63, 1 + size&top, size} {
			agrees(t, l, cells, x&31, y&31, reach&31, most&15)
			agrees(t, l, cells, x&63, y&63, reach&(widest-1), most)
			agrees(t, l, cells, x&top, y&top, reach, most&63)
			agrees(t, l, cells, x, y, reach&63, most&63)
		}
		l = scattered(seed, count&255, 1+wide&top, 0, 0)
		for i := range l {
			l[i] = at(l[i].X&top, l[i].Y&top)
		}
		agrees(t, l, 1+size&top, x&top, y&top, reach&(widest-1), most&255)
		agrees(t, l, 1+size&(widest-1), x&top, y&top, widest-reach&63, most&255)
	})
}
