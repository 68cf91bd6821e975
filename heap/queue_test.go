package heap_test

import (
	"slices"
	"testing"

	"rickstead/api"
	"rickstead/heap"
)

func less(a, b int) bool { return a < b }

func greater(a, b int) bool { return a > b }

// keysOf gives the keys alone.
func keysOf(l []api.Item) []int {
	out := []int{}
	for _, x := range l {
		out = append(out, x.Key)
	}
	return out
}

// filled is a new queue into which things were pushed.
func filled[T any](ahead func(a, b T) bool, l []T) *heap.Queue[T] {
	q := heap.NewQueue(ahead)
	for _, x := range l {
		q.Push(x)
	}
	return q
}

// emptied pops all; First is asked twice ahead of each.
func emptied[T comparable](t *testing.T, q *heap.Queue[T]) []T {
	t.Helper()
	out := []T{}
	for q.Many() > 0 {
		many := q.Many()
		first, err := q.First()
		again, againErr := q.First()
		if err != nil || againErr != nil || first != again || q.Many() != many {
			t.Fatalf("First: got %v, %v, then %v, %v; of %d are %d", first, err, again, againErr, many, q.Many())
		}
		x, err := q.Pop()
		if err != nil || x != first || q.Many() != many-1 {
			t.Fatalf("Pop: got %v, %v, want %v; of %d are left %d", x, err, first, many, q.Many())
		}
		out = append(out, x)
	}
	return out
}

// TestQueueOrder: all comes out as the function tells, each once.
func TestQueueOrder(t *testing.T) {
	for _, l := range lists() {
		keys := keysOf(l)
		q := filled(less, keys)
		if q.Many() != len(keys) {
			t.Errorf("%v: Many is %d", keys, q.Many())
		}
		rises := slices.Sorted(slices.Values(keys))
		if got := emptied(t, q); !slices.Equal(got, rises) {
			t.Errorf("%v: got %v", keys, got)
		}
		slices.Reverse(rises)
		if got := emptied(t, filled(greater, keys)); !slices.Equal(got, rises) {
			t.Errorf("%v, the greatest first: got %v", keys, got)
		}
	}
}

// TestQueueOfItems: of things with several parts each comes out whole; the function alone tells their order.
func TestQueueOfItems(t *testing.T) {
	byBothParts := func(a, b api.Item) bool { return a.Key < b.Key || a.Key == b.Key && a.Id > b.Id }
	for _, l := range lists() {
		want := slices.SortedFunc(slices.Values(l), func(a, b api.Item) int {
			switch {
			case byBothParts(a, b):
				return -1
			case byBothParts(b, a):
				return 1
			}
			return 0
		})
		if got := emptied(t, filled(byBothParts, l)); !slices.Equal(got, want) {
			t.Errorf("%v: got %v, want %v", l, got, want)
		}
	}
}

// TestQueueAmong: pops among pushes, held against a list that is sorted each time; many more than a list may have.
func TestQueueAmong(t *testing.T) {
	q, held, seed := heap.NewQueue(less), []int{}, 1
	for i := range 3000 {
		seed = (seed*1103515245 + 12345) % (1 << 31)
		if (seed>>10)%8 < 5 {
			q.Push(seed >> 20)
			held = append(held, seed>>20)
			slices.Sort(held)
		} else if x, err := q.Pop(); len(held) == 0 {
			fails(t, "Pop of none", err, api.ErrNone)
		} else {
			if err != nil || x != held[0] {
				t.Fatalf("step %d: got %d, %v, want %d", i, x, err, held[0])
			}
			held = held[1:]
		}
		if q.Many() != len(held) {
			t.Fatalf("step %d: Many is %d, want %d", i, q.Many(), len(held))
		}
	}
	if len(held) <= 2*most {
		t.Fatalf("only %d are left", len(held))
	}
	if got := emptied(t, q); !slices.Equal(got, held) {
		t.Errorf("got %v, want %v", got, held)
	}
}

// TestQueueNone: P1, P3: of none nothing is told, be the queue new or emptied, and it goes on.
func TestQueueNone(t *testing.T) {
	q := heap.NewQueue(func(a, b api.Item) bool { return a.Key < b.Key })
	for i := range 3 {
		x, err := q.Pop()
		fails(t, "Pop of none", err, api.ErrNone)
		y, err := q.First()
		fails(t, "First of none", err, api.ErrNone)
		if x != (api.Item{}) || y != (api.Item{}) || q.Many() != 0 {
			t.Errorf("round %d: got %v, %v, %d", i, x, y, q.Many())
		}
		want := api.Item{Key: i - 1, Id: 5}
		q.Push(want)
		if got, err := q.Pop(); err != nil || got != want {
			t.Errorf("round %d: got %v, %v, want %v", i, got, err, want)
		}
	}
}

// TestQueuesShareNothing: P2.
func TestQueuesShareNothing(t *testing.T) {
	a, b := heap.NewQueue(less), heap.NewQueue(less)
	for i := range 100 {
		a.Push(i)
		b.Push(-i)
	}
	for i := range 100 {
		x, err := a.Pop()
		y, bErr := b.Pop()
		if err != nil || bErr != nil || x != i || y != i-99 {
			t.Fatalf("Pop %d: got %d, %v and %d, %v", i, x, err, y, bErr)
		}
	}
}

// TestDrain: a range over it has all, the first ones first, and leaves none.
func TestDrain(t *testing.T) {
	for _, l := range lists() {
		keys := keysOf(l)
		q, got := filled(greater, keys), []int{}
		for x := range q.Drain {
			got = append(got, x)
			if q.Many() != len(keys)-len(got) {
				t.Fatalf("%v: %d came, %d are left", keys, len(got), q.Many())
			}
		}
		want := slices.Sorted(slices.Values(keys))
		slices.Reverse(want)
		if !slices.Equal(got, want) {
			t.Errorf("%v: got %v", keys, got)
		}
		for x := range q.Drain {
			t.Errorf("%v: drained, and then came %d", keys, x)
		}
	}
}

// TestDrainInPart: what a range that ends early has not had is still held, as is what is pushed then.
func TestDrainInPart(t *testing.T) {
	for _, l := range lists() {
		keys := keysOf(l)
		rises := slices.Sorted(slices.Values(keys))
		for _, part := range []int{1, 2, len(keys) / 2, len(keys) - 1, len(keys)} {
			if part < 1 || part > len(keys) {
				continue
			}
			q, got := filled(less, keys), []int{}
			for x := range q.Drain {
				if got = append(got, x); len(got) == part {
					break
				}
			}
			q.Push(2 * keyTop)
			rest := append(slices.Clone(rises[part:]), 2*keyTop)
			if left := emptied(t, q); !slices.Equal(got, rises[:part]) || !slices.Equal(left, rest) {
				t.Errorf("%d of %v: got %v, left are %v", part, keys, got, left)
			}
		}
	}
}

// TestPushWhileDrained: what is pushed within a range comes in its turn, be it the first, one among others, or the only one.
func TestPushWhileDrained(t *testing.T) {
	for name, c := range map[string]struct{ held, pushed, want []int }{
		"first":    {[]int{4, 6}, []int{1}, []int{4, 1, 6}},
		"among":    {[]int{4, 6, 8}, []int{7}, []int{4, 6, 7, 8}},
		"last":     {[]int{4, 6}, []int{9, 9}, []int{4, 6, 9, 9}},
		"only one": {[]int{4}, []int{5, 3}, []int{4, 5, 3}},
		"none":     {nil, []int{5}, nil},
	} {
		q, pushed, got := filled(less, c.held), c.pushed, []int{}
		for x := range q.Drain {
			got = append(got, x)
			if len(pushed) > 0 {
				q.Push(pushed[0])
				pushed = pushed[1:]
			}
		}
		if !slices.Equal(got, c.want) || q.Many() != 0 {
			t.Errorf("%s: got %v, want %v; left are %d", name, got, c.want, q.Many())
		}
	}
}
