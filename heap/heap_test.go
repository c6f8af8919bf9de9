package heap_test

import (
	"bytes"
	"math"
	"runtime"
	"slices"
	"strings"
	"testing"
	"weak"

	"viaticum/heap"
)

// entry is an element that is known again among equivalent ones.
type entry struct {
	key    int
	name   string
	serial int
}

// noise is numbers that are spread over all values, the same ones for the same seed.
func noise(seed uint64) func(most int) int {
	x := seed*2654435761 + 88172645463325252
	return func(most int) int {
		x ^= x << 13
		x ^= x >> 7
		x ^= x << 17
		return int(x >> 11 % uint64(most))
	}
}

func byKey(a, b entry) bool  { return a.key < b.key }
func byName(a, b entry) bool { return a.name < b.name }
func less(a, b int) bool     { return a < b }
func more(a, b int) bool     { return a > b }
func never(a, b entry) bool  { return false }

// back is the order the other way round.
func back[T any](first func(a, b T) bool) func(a, b T) bool {
	return func(a, b T) bool { return first(b, a) }
}

// watched is a heap, and beside it the elements that have to be in it.
type watched[T comparable] struct {
	heap  *heap.Heap[T]
	first func(a, b T) bool
	in    []T
}

// watch is a new heap of an order.
func watch[T comparable](t *testing.T, first func(a, b T) bool) *watched[T] {
	t.Helper()
	w := &watched[T]{heap: heap.New(first), first: first}
	w.counts(t)
	return w
}

// counts asks that the heap has as many elements as it has to have.
func (w *watched[T]) counts(t *testing.T) {
	t.Helper()
	if n := w.heap.Len(); n != len(w.in) {
		t.Fatalf("Len is %d, not %d", n, len(w.in))
	}
}

// push adds an element.
func (w *watched[T]) push(t *testing.T, x T) {
	t.Helper()
	w.heap.Push(x)
	w.in = append(w.in, x)
	w.counts(t)
}

// top asks that Top returns an element of those that are in the heap, and that no other one comes before it.
func (w *watched[T]) top(t *testing.T) (T, bool) {
	t.Helper()
	x, ok := w.heap.Top()
	w.counts(t)
	var none T
	switch {
	case ok != (len(w.in) > 0):
		t.Fatalf("Top returns %v of %d", ok, len(w.in))
	case !ok && x != none:
		t.Fatalf("Top returns %v of nothing", x)
	case ok && !slices.Contains(w.in, x):
		t.Fatalf("Top returns %v, which is not there", x)
	}
	for _, other := range w.in {
		if w.first(other, x) {
			t.Fatalf("Top returns %v, but %v comes before it", x, other)
		}
	}
	return x, ok
}

// pop asks that Pop returns what Top returned, and that it is there no longer.
func (w *watched[T]) pop(t *testing.T) T {
	t.Helper()
	want, there := w.top(t)
	if again, ok := w.top(t); again != want || ok != there {
		t.Fatalf("Top returns %v, then %v", want, again)
	}
	x, ok := w.heap.Pop()
	if x != want || ok != there {
		t.Fatalf("Pop returns %v, %v, but Top %v, %v", x, ok, want, there)
	}
	if ok {
		at := slices.Index(w.in, x)
		w.in = slices.Delete(w.in, at, at+1)
	}
	w.counts(t)
	return x
}

// drain pops until nothing is left, and then once more.
func (w *watched[T]) drain(t *testing.T) []T {
	t.Helper()
	var out []T
	for len(w.in) > 0 {
		out = append(out, w.pop(t))
	}
	w.pop(t)
	w.pop(t)
	return out
}

// ordered asks that the elements, pushed one by one and then popped, come in order, each of them once.
func ordered[T comparable](t *testing.T, first func(a, b T) bool, l ...T) []T {
	t.Helper()
	w := watch(t, first)
	for _, x := range l {
		w.push(t, x)
	}
	out := w.drain(t)
	if len(out) != len(l) {
		t.Fatalf("%d of %d elements are popped", len(out), len(l))
	}
	for i := range out {
		if i > 0 && first(out[i], out[i-1]) {
			t.Fatalf("%v is popped behind %v", out[i], out[i-1])
		}
	}
	return out
}

// entries is elements of those keys.
func entries(keys ...int) []entry {
	out := make([]entry, len(keys))
	for i, key := range keys {
		out[i] = entry{key: key, name: strings.Repeat("x", i%3), serial: i + 1}
	}
	return out
}

// empty asks that a heap has nothing.
func empty[T comparable](t *testing.T, h *heap.Heap[T]) {
	t.Helper()
	var none T
	for range 2 {
		if n := h.Len(); n != 0 {
			t.Fatalf("Len is %d", n)
		}
		if x, ok := h.Top(); x != none || ok {
			t.Fatalf("Top returns %v, %v", x, ok)
		}
		if x, ok := h.Pop(); x != none || ok {
			t.Fatalf("Pop returns %v, %v", x, ok)
		}
	}
}

// P16.1: a new heap is empty, of whatever type its elements are.
func TestEmpty(t *testing.T) {
	empty(t, heap.New(less))
	empty(t, heap.New(byKey))
	empty(t, heap.New(func(a, b string) bool { return a < b }))
	empty(t, heap.New(func(a, b *entry) bool { return a.key < b.key }))
	empty(t, heap.New(func(a, b [2]uint8) bool { return a[0] < b[0] }))
	empty(t, heap.New(func(a, b struct{}) bool { return false }))
	empty(t, heap.New(func(a, b any) bool { return false }))
}

// P16.1: one element is Top and then Pop, also if it is the zero value.
func TestOne(t *testing.T) {
	for _, n := range []int{7, 0, -1, math.MinInt, math.MaxInt} {
		h := heap.New(less)
		h.Push(n)
		if x, ok := h.Top(); x != n || !ok || h.Len() != 1 {
			t.Fatalf("Top returns %d, %v of %d", x, ok, n)
		}
		if x, ok := h.Pop(); x != n || !ok || h.Len() != 0 {
			t.Fatalf("Pop returns %d, %v of %d", x, ok, n)
		}
		empty(t, h)
	}
	if out := ordered(t, never, entry{name: "a", serial: 1}); out[0] != (entry{name: "a", serial: 1}) {
		t.Fatal(out)
	}
}

// P16.1: two elements, in both orders and with equivalent ones.
func TestTwo(t *testing.T) {
	for _, l := range [][]int{{1, 2}, {2, 1}, {1, 1}, {0, -1}, {math.MaxInt, math.MinInt}} {
		out := ordered(t, less, l...)
		if out[0] != min(l[0], l[1]) || out[1] != max(l[0], l[1]) {
			t.Fatal(l, out)
		}
		out = ordered(t, more, l...)
		if out[0] != max(l[0], l[1]) || out[1] != min(l[0], l[1]) {
			t.Fatal(l, out)
		}
	}
	ordered(t, byKey, entries(1, 1)...)
	ordered(t, byKey, entries(1, 2)...)
	ordered(t, byKey, entries(2, 1)...)
}

// P16.1: what Pop returns is an element as it was pushed, with all its fields.
func TestKnown(t *testing.T) {
	h := heap.New(byKey)
	h.Push(entry{2, "two", 5})
	h.Push(entry{1, "one", 6})
	h.Push(entry{3, "three", 7})
	for _, want := range []entry{{1, "one", 6}, {2, "two", 5}, {3, "three", 7}} {
		if top, ok := h.Top(); top != want || !ok {
			t.Fatal(top, ok)
		}
		if x, ok := h.Pop(); x != want || !ok {
			t.Fatal(x, ok)
		}
	}
	empty(t, h)
}

// P16.1, P16.3: every list of up to six elements of six keys, so each order of them and each way to be equivalent.
func TestLists(t *testing.T) {
	for size := range 7 {
		count := 1
		for range size {
			count *= 6
		}
		for code := range count {
			keys := make([]int, size)
			for i := range keys {
				keys[i] = code % 6
				code /= 6
			}
			ordered(t, byKey, entries(keys...)...)
		}
	}
}

// P16.1, P16.3: every sequence of up to nine steps, each of which is a pop or a push of one of three keys.
func TestSequences(t *testing.T) {
	const steps = 9
	for code := range 1 << (2 * steps) {
		w := watch(t, byKey)
		for i := range steps {
			if key := code >> (2 * i) & 3; key < 3 {
				w.push(t, entry{key: key, serial: i})
			} else {
				w.pop(t)
			}
		}
		if code%16 == 0 {
			w.drain(t)
		}
	}
}

// P16.1, P16.3: elements in ascending order, in descending order and in neither, of each number up to some, with distinct keys.
func TestOrders(t *testing.T) {
	next := noise(1)
	for size := range 140 {
		up := make([]int, size)
		for i := range up {
			up[i] = 3*i - size
		}
		down := slices.Clone(up)
		slices.Reverse(down)
		mixed := slices.Clone(up)
		for i := range mixed {
			at := next(i + 1)
			mixed[i], mixed[at] = mixed[at], mixed[i]
		}
		// One end and then the other one: the greatest and the least by turns.
		turns := make([]int, size)
		for i := range turns {
			turns[i] = up[i/2]
			if i%2 == 1 {
				turns[i] = down[i/2]
			}
		}
		for _, l := range [][]int{up, down, mixed, turns} {
			if out := ordered(t, less, l...); !slices.Equal(out, up) {
				t.Fatalf("%v comes as %v", l, out)
			}
			if out := ordered(t, more, l...); !slices.Equal(out, down) {
				t.Fatalf("%v comes as %v", l, out)
			}
		}
	}
}

// P16.1, P16.3: elements that are equivalent, all of them and some, are each popped once.
func TestEquivalent(t *testing.T) {
	next := noise(2)
	for size := range 100 {
		ordered(t, byKey, entries(make([]int, size)...)...)
		ordered(t, never, entries(make([]int, size)...)...)
		for _, kinds := range []int{2, 3, 10} {
			keys := make([]int, size)
			for i := range keys {
				keys[i] = next(kinds)
			}
			l := entries(keys...)
			ordered(t, byKey, l...)
			ordered(t, back(byKey), l...)
			ordered(t, byName, l...)
			ordered(t, back(byName), l...)
			ordered(t, never, l...)
			ordered(t, func(a, b entry) bool { return a.key%2 < b.key%2 }, l...)
			ordered(t, func(a, b entry) bool { return a.name < b.name || a.name == b.name && a.key > b.key }, l...)
		}
	}
}

// P16.3: an element that is pushed more than once is popped as often.
func TestSame(t *testing.T) {
	out := ordered(t, less, 4, 4, 2, 4, 2)
	if !slices.Equal(out, []int{2, 2, 4, 4, 4}) {
		t.Fatal(out)
	}
	one := &entry{key: 1}
	two := &entry{key: 2}
	got := ordered(t, func(a, b *entry) bool { return a.key < b.key }, two, one, two, two, one)
	if !slices.Equal(got, []*entry{one, one, two, two, two}) {
		t.Fatal(got)
	}
}

// P16.1, P16.3: many elements, with keys that are spread, close together, and of the whole range.
func TestMany(t *testing.T) {
	next := noise(3)
	for _, size := range []int{255, 256, 257, 1023, 1024, 1025, 100000} {
		for _, kinds := range []int{1, 7, size, math.MaxInt} {
			h := heap.New(byKey)
			sum := 0
			for i := range size {
				h.Push(entry{key: next(kinds) - kinds/2, serial: i})
				sum += i
				if h.Len() != i+1 {
					t.Fatal(h.Len())
				}
			}
			seen := make([]bool, size)
			last := math.MinInt
			for i := range size {
				top, there := h.Top()
				x, ok := h.Pop()
				if !ok || !there || x != top || x.key < last || seen[x.serial] || h.Len() != size-1-i {
					t.Fatal(x, ok, top, there, h.Len())
				}
				seen[x.serial] = true
				last = x.key
			}
			empty(t, h)
		}
	}
}

// P16.1: pushes and pops that take turns.
func TestTurns(t *testing.T) {
	for seed := range uint64(200) {
		next := noise(seed)
		w := watch(t, byKey)
		pushes := 1 + next(9)
		for i := range 200 {
			if next(10) < pushes {
				w.push(t, entry{key: next(1 + int(seed)), serial: i})
			} else {
				w.pop(t)
			}
			w.top(t)
		}
		w.drain(t)
	}
}

// P16.1: an element that is pushed between pops is popped at its turn.
func TestBetween(t *testing.T) {
	h := heap.New(less)
	h.Push(5)
	h.Push(3)
	if x, _ := h.Pop(); x != 3 {
		t.Fatal(x)
	}
	h.Push(1)
	h.Push(9)
	if x, _ := h.Top(); x != 1 {
		t.Fatal(x)
	}
	for _, want := range []int{1, 5} {
		if x, _ := h.Pop(); x != want {
			t.Fatal(x, want)
		}
	}
	h.Push(8)
	h.Push(-2)
	for _, want := range []int{-2, 8, 9} {
		if x, _ := h.Pop(); x != want {
			t.Fatal(x, want)
		}
	}
	empty(t, h)
}

// P16.1, P16.3: a heap that was popped until it was empty takes elements again, and tells none of the earlier ones.
func TestAgain(t *testing.T) {
	next := noise(4)
	w := watch(t, byKey)
	for round := range 30 {
		size := next(40)
		if round%5 == 0 {
			size = round % 2
		}
		for i := range size {
			w.push(t, entry{key: next(10), name: "x", serial: 1000*round + i})
		}
		if out := w.drain(t); len(out) != size {
			t.Fatal(len(out), size)
		}
		empty(t, w.heap)
	}
}

// P16.1: the order is asked for elements that were pushed, and for no other ones.
func TestAsked(t *testing.T) {
	next := noise(5)
	first := func(a, b *entry) bool {
		if a == nil || b == nil {
			t.Fatal("the order is asked for an element that was not pushed")
		}
		return a.key < b.key
	}
	w := watch(t, first)
	for range 500 {
		if next(5) < 3 {
			w.push(t, &entry{key: next(20)})
		} else {
			w.pop(t)
		}
	}
	w.drain(t)
}

// P16.1: strings, by their lengths, by their letters, and the other way round.
func TestStrings(t *testing.T) {
	l := []string{"b", "abc", "", "\xff\x00", "abcdef", "ab", "b", "", "é"}
	byLength := func(a, b string) bool { return len(a) < len(b) }
	byLetters := func(a, b string) bool { return a < b }
	ordered(t, byLength, l...)
	ordered(t, back(byLength), l...)
	up := slices.Sorted(slices.Values(l))
	if out := ordered(t, byLetters, l...); !slices.Equal(out, up) {
		t.Fatal(out)
	}
	slices.Reverse(up)
	if out := ordered(t, back(byLetters), l...); !slices.Equal(out, up) {
		t.Fatal(out)
	}
}

// P16.1: elements that cannot be compared by ==, and elements of an interface, and heaps themselves.
func TestTypes(t *testing.T) {
	b := heap.New(func(a, b []byte) bool { return bytes.Compare(a, b) < 0 })
	two := []byte{2}
	b.Push(two)
	b.Push(nil)
	b.Push([]byte{1, 5})
	if x, ok := b.Pop(); len(x) != 0 || !ok {
		t.Fatal(x, ok)
	}
	if x, ok := b.Pop(); !bytes.Equal(x, []byte{1, 5}) || !ok {
		t.Fatal(x, ok)
	}
	// The very element that was pushed, not a copy of what it points to.
	if x, ok := b.Pop(); !ok || &x[0] != &two[0] {
		t.Fatal(x, ok)
	}
	a := heap.New(func(a, b any) bool { return a.(int) < b.(int) })
	for _, n := range []int{3, 1, 2} {
		a.Push(n)
	}
	for want := 1; want <= 3; want++ {
		if x, ok := a.Pop(); x != any(want) || !ok {
			t.Fatal(x, ok)
		}
	}
	if x, ok := a.Pop(); x != nil || ok {
		t.Fatal(x, ok)
	}
	f := heap.New(func(a, b func() int) bool { return a() < b() })
	for n := range 5 {
		f.Push(func() int { return (n * 3) % 5 })
	}
	for want := range 5 {
		if x, ok := f.Pop(); !ok || x() != want {
			t.Fatal(want, ok)
		}
	}
	if x, ok := f.Pop(); x != nil || ok {
		t.Fatal(ok)
	}
	ordered(t, func(a, b float64) bool { return a < b }, 1.5, -1, math.Inf(1), math.Inf(-1), 0)
	ordered(t, func(a, b [2]uint8) bool { return a[1] < b[1] }, [2]uint8{1, 9}, [2]uint8{2, 0}, [2]uint8{1, 0}, [2]uint8{0, 255})
	ordered(t, func(a, b struct{}) bool { return false }, struct{}{}, struct{}{}, struct{}{})
	ordered(t, func(a, b bool) bool { return !a && b }, true, false, true, false, false)
	small, large := heap.New(less), heap.New(less)
	small.Push(1)
	large.Push(2)
	ordered(t, func(a, b *heap.Heap[int]) bool { return topmost(a) < topmost(b) }, large, small, large)
}

// topmost is the top of a heap.
func topmost(h *heap.Heap[int]) int {
	x, _ := h.Top()
	return x
}

// P16.1: heaps of the same order, and heaps of other ones, have nothing in common.
func TestApart(t *testing.T) {
	a, b, c := watch(t, byKey), watch(t, byKey), watch(t, back(byKey))
	next := noise(6)
	for i := range 600 {
		w := []*watched[entry]{a, b, c}[next(3)]
		if next(3) > 0 {
			w.push(t, entry{key: next(30), serial: i})
		} else {
			w.pop(t)
		}
	}
	a.drain(t)
	b.drain(t)
	c.drain(t)
}

// P16.3: nil, and a heap that New did not return, return nothing, whatever is pushed.
func TestNone(t *testing.T) {
	nothing[int](t, nil, 7, 0, -7)
	nothing(t, &heap.Heap[int]{}, 7, 0, -7)
	nothing(t, new(heap.Heap[string]), "a", "")
	nothing[string](t, nil, "a", "")
	nothing(t, &heap.Heap[entry]{}, entries(1, 2, 2)...)
	nothing[entry](t, nil, entries(1, 2, 2)...)
	nothing(t, new(heap.Heap[*entry]), nil, &entry{})
	var plain heap.Heap[entry]
	nothing(t, &plain, entries(3, 1)...)
	l := make([]heap.Heap[int], 2)
	nothing(t, &l[1], 1)
}

// nothing asks that a heap has nothing, and that pushes change nothing.
func nothing[T comparable](t *testing.T, h *heap.Heap[T], l ...T) {
	t.Helper()
	empty(t, h)
	for _, x := range l {
		h.Push(x)
		empty(t, h)
	}
}

// P16.3, rule 1: without an order there is no heap.
func TestNoOrder(t *testing.T) {
	if h := heap.New[int](nil); h != nil {
		t.Fatal("New returns a heap without an order")
	}
	nothing(t, heap.New[int](nil), 7, 0, -7, 3)
	nothing(t, heap.New[entry](nil), entries(3, 1, 2)...)
}

// Rule 1: each call ends, and none panics, also for an order that is not a strict weak order.
func TestWrongOrders(t *testing.T) {
	wrong := []func(a, b int) bool{
		func(a, b int) bool { return true },
		func(a, b int) bool { return a <= b },
		func(a, b int) bool { return a >= b },
		func(a, b int) bool { return (a-b+9)%3 == 1 },
		func(a, b int) bool { return a != b },
		func(a, b int) bool { return a == b },
	}
	next := noise(7)
	for _, first := range wrong {
		for size := range 70 {
			h := heap.New(first)
			var in, out []int
			for range size {
				in = append(in, next(7))
				h.Push(in[len(in)-1])
			}
			for {
				x, ok := h.Pop()
				if !ok {
					break
				}
				out = append(out, x)
			}
			slices.Sort(in)
			slices.Sort(out)
			if !slices.Equal(in, out) {
				t.Fatalf("%v is popped of %v", out, in)
			}
		}
	}
}

// What was popped is not kept: the heap goes on, but its memory does not.
func TestGone(t *testing.T) {
	h := heap.New(func(a, b *entry) bool { return a.key < b.key })
	var all []weak.Pointer[entry]
	for i := range 20 {
		x := &entry{key: i * 7 % 20}
		all = append(all, weak.Make(x))
		h.Push(x)
	}
	for range 10 {
		h.Pop()
	}
	runtime.GC()
	kept := 0
	for _, p := range all {
		if p.Value() != nil {
			kept++
		}
	}
	if kept != 10 || h.Len() != 10 {
		t.Fatalf("%d elements are kept for %d", kept, h.Len())
	}
}

// sorts asks that Sorted returns the numbers of a list in ascending order, and changes nothing.
func sorts(t *testing.T, l []int) {
	t.Helper()
	before := slices.Clone(l)
	whole := slices.Clone(l[:cap(l)])
	out := heap.Sorted(l)
	if want := slices.Sorted(slices.Values(before)); !slices.Equal(out, want) {
		t.Fatalf("Sorted of %v is %v, not %v", before, out, want)
	}
	if !slices.Equal(l, before) || !slices.Equal(l[:cap(l)], whole) {
		t.Fatalf("Sorted changes %v to %v", whole, l[:cap(l)])
	}
	// What is written to the answer, and behind it, is written to nothing else.
	for i := range out[:cap(out)] {
		out[:cap(out)][i] = 12345
	}
	if !slices.Equal(l[:cap(l)], whole) {
		t.Fatalf("the answer shares memory with the list %v", whole)
	}
}

// P16.2: the example of the chapter.
func TestExample(t *testing.T) {
	if l := heap.Sorted([]int{3, 1, 2}); !slices.Equal(l, []int{1, 2, 3}) {
		t.Fatal(l)
	}
}

// P16.2: no number, one, equal ones, the least and the greatest, lists in each order.
func TestSorted(t *testing.T) {
	sorts(t, nil)
	sorts(t, []int{})
	for _, n := range []int{0, 1, -1, 7, math.MinInt, math.MaxInt} {
		sorts(t, []int{n})
		sorts(t, []int{n, n})
		sorts(t, slices.Repeat([]int{n}, 50))
	}
	sorts(t, []int{math.MaxInt, math.MinInt})
	sorts(t, []int{math.MinInt, math.MaxInt})
	sorts(t, []int{math.MaxInt, 0, math.MinInt, -1, math.MaxInt, math.MinInt, 1, math.MinInt + 1, math.MaxInt - 1})
	sorts(t, []int{1, 2, 3, 4, 5, 6, 7, 8})
	sorts(t, []int{8, 7, 6, 5, 4, 3, 2, 1})
	sorts(t, []int{5, -1, 5, 0})
	next := noise(8)
	for size := range 300 {
		l := make([]int, size)
		for i := range l {
			l[i] = next(1+size) - size/2
		}
		sorts(t, l)
	}
	large := make([]int, 200000)
	for i := range large {
		large[i] = next(math.MaxInt) - math.MaxInt/2
	}
	sorts(t, large)
}

// P16.2: of a list whose array is longer than itself the numbers behind it do not count, nor do those ahead.
func TestLongerArray(t *testing.T) {
	for size := range 20 {
		for from := 0; from <= size; from++ {
			for to := from; to <= size; to++ {
				array := make([]int, size)
				for i := range array {
					array[i] = (i*7 + 3) % 11
				}
				whole := slices.Clone(array)
				sorts(t, array[from:to])
				if !slices.Equal(array, whole) {
					t.Fatalf("%v became %v", whole, array)
				}
			}
		}
	}
}

// P16.1 and P16.3 for sequences of any steps, by several orders.
func FuzzHeap(f *testing.F) {
	f.Add(0, []byte{})
	f.Add(1, []byte{5, 3, 255, 3, 5, 254, 253, 252, 1})
	f.Add(2, bytes.Repeat([]byte{9, 8, 7, 200, 6, 250}, 30))
	f.Add(3, bytes.Repeat([]byte{1, 2, 3, 4, 5, 6, 7}, 30))
	f.Add(4, bytes.Repeat([]byte{1, 1, 1, 255, 2, 255, 255}, 30))
	f.Fuzz(func(t *testing.T, order int, b []byte) {
		orders := []func(a, b entry) bool{byKey, back(byKey), byName, back(byName), never, func(a, b entry) bool { return a.key/10 > b.key/10 }}
		w := watch(t, orders[order&math.MaxInt%len(orders)])
		for i, x := range b {
			if x < 180 {
				w.push(t, entry{key: int(x), name: string(b[i/2 : i/2+1]), serial: i})
			} else {
				w.pop(t)
			}
		}
		w.drain(t)
	})
}

// P16.2 for any numbers.
func FuzzSorted(f *testing.F) {
	f.Add([]byte{}, 0)
	f.Add([]byte{3, 1, 2}, 0)
	f.Add([]byte{200, 100, 50, 50, 200}, 1<<60)
	f.Fuzz(func(t *testing.T, b []byte, factor int) {
		l := make([]int, len(b))
		for i, x := range b {
			l[i] = (int(x) - 128) * factor
		}
		sorts(t, l)
		sorts(t, l[len(l)/3:len(l)/2])
	})
}
