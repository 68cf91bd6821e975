package soft_test

import (
	"math"
	"slices"
	"testing"

	"rickstead/api"
	"rickstead/plain"
	"rickstead/soft"
)

// The document's numbers are written out here, so that a change of package api is seen too.
const (
	mostPushed = 400
	keyTop     = 1000000
	topRank    = 8
)

// step is a Push of an item, or a Pop.
type step struct {
	pop  bool
	item api.Item
}

// answer is what a step answers; of a Push the item and the key are 0.
type answer struct {
	item api.Item
	key  int
	err  api.Errno
}

// state is what can be asked of a heap without a change.
type state struct{ many, wrong int }

// fails wants an error that is or wraps an Errno other than OK, or nil where OK is wanted.
func fails(t *testing.T, what string, err error, want api.Errno) {
	t.Helper()
	if (err == nil) != (want == api.OK) || plain.Told(err) != want {
		t.Errorf("%s: got error %v, want %v", what, err, want)
	}
}

// made is a new heap of a rank that may be.
func made(t *testing.T, rank int) *soft.Heap {
	t.Helper()
	h, err := soft.New(rank)
	if h == nil || err != nil {
		t.Fatalf("New(%d): got %v, %v", rank, h, err)
	}
	return h
}

// filledWith is a new heap into which items were pushed.
func filledWith(t *testing.T, rank int, items []api.Item) *soft.Heap {
	t.Helper()
	h := made(t, rank)
	for _, x := range items {
		fails(t, "Push", h.Push(x), api.OK)
	}
	return h
}

// taken does one step, and wants no error that tells OK.
func taken(t *testing.T, h *soft.Heap, s step) answer {
	t.Helper()
	var a answer
	var err error
	if s.pop {
		a.item, a.key, err = h.Pop()
	} else {
		err = h.Push(s.item)
	}
	a.err = plain.Told(err)
	fails(t, "a step", err, a.err)
	return a
}

// took is what one step is to answer.
func took(m *model, s step) answer {
	var a answer
	if s.pop {
		a.item, a.key, a.err = m.pop()
	} else {
		a.err = m.push(s.item)
	}
	return a
}

func stateOf(h *soft.Heap) state { return state{h.Many(), h.Wrong()} }

// play holds a heap against the other way, step by step.
func play(t *testing.T, rank int, steps []step) {
	t.Helper()
	h, m := made(t, rank), &model{rank: rank}
	for i, s := range steps {
		got, want := taken(t, h, s), took(m, s)
		if got != want {
			t.Fatalf("rank %d, step %d of %v: got %v, want %v", rank, i, steps, got, want)
		}
		many, wrong := m.count()
		if got := stateOf(h); got != (state{many, wrong}) {
			t.Fatalf("rank %d, after step %d of %v: got %v, want %d items, %d wrong", rank, i, steps, got, many, wrong)
		}
	}
}

// keyed makes items whose ids tell where they stood.
func keyed(keys ...int) []api.Item {
	l := []api.Item{}
	for i, k := range keys {
		l = append(l, api.Item{Key: k, Id: i})
	}
	return l
}

// rising makes so many items with the keys 1, 2, and so on; the ids are one less.
func rising(many int) []api.Item {
	keys := make([]int, many)
	for i := range keys {
		keys[i] = i + 1
	}
	return keyed(keys...)
}

// falling makes so many items with keys down to 1.
func falling(many int) []api.Item {
	keys := make([]int, many)
	for i := range keys {
		keys[i] = many - i
	}
	return keyed(keys...)
}

// alike makes so many items of one key.
func alike(many int) []api.Item { return keyed(make([]int, many)...) }

// next is a rule that makes numbers which look mixed.
func next(seed int) int { return (seed*1103515245 + 12345) % (1 << 31) }

// mixed makes so many items of so many keys, from a rule that a seed starts.
func mixed(seed, many, keys int) []api.Item {
	l := []int{}
	for range many {
		seed = next(seed)
		l = append(l, (seed>>8)%keys-keys/2)
	}
	return keyed(l...)
}

// pushes are the steps that push items.
func pushes(items []api.Item) []step {
	steps := []step{}
	for _, x := range items {
		steps = append(steps, step{item: x})
	}
	return steps
}

// pops are so many steps that pop.
func pops(many int) []step { return slices.Repeat([]step{{pop: true}}, many) }

// among puts pops between pushes: so many of eight steps, about.
func among(seed, eighths int, items []api.Item) []step {
	steps := []step{}
	for len(items) > 0 {
		seed = next(seed)
		if (seed>>10)%8 < eighths {
			steps = append(steps, step{pop: true})
		} else {
			steps, items = append(steps, step{item: items[0]}), items[1:]
		}
	}
	return steps
}

// lists makes items of many shapes, the edges among them.
func lists() [][]api.Item {
	all := [][]api.Item{nil,
		keyed(0), keyed(-keyTop), {{Key: keyTop, Id: keyTop}},
		{{Key: keyTop, Id: 0}, {Key: -keyTop, Id: keyTop}, {Key: keyTop, Id: 1}, {Key: -keyTop, Id: 2}},
	}
	for _, many := range []int{2, 3, 4, 7, 8, 15, 16, 17, 31, 32, 63, 64, 100, 127, 128, 255, 256, 257, 384, 399, 400} {
		all = append(all, rising(many), falling(many), alike(many), mixed(many, many, 3), mixed(many, many, 50), mixed(many, many, 2*keyTop+1))
	}
	return all
}

// outside: items of numbers that chapter 1 doesn't have.
func outside() []api.Item {
	return []api.Item{
		{Key: keyTop + 1}, {Key: -keyTop - 1}, {Key: math.MaxInt}, {Key: math.MinInt},
		{Id: keyTop + 1}, {Id: -1}, {Id: math.MaxInt}, {Id: math.MinInt},
		{Key: keyTop + 1, Id: -1}, {Key: math.MinInt, Id: math.MinInt},
	}
}

// TestNew: 5.2, P3.
func TestNew(t *testing.T) {
	for _, rank := range []int{math.MinInt, -400, -9, -8, -1, 9, 10, 60, 400, math.MaxInt} {
		h, err := soft.New(rank)
		fails(t, "New", err, api.ErrRange)
		if h != nil {
			t.Errorf("New(%d): got a heap beside an error", rank)
		}
	}
	for rank := range topRank + 1 {
		if got := stateOf(made(t, rank)); got != (state{}) {
			t.Errorf("New(%d): got %v", rank, got)
		}
	}
}

// TestEmpty: 5.3: a heap of no item, be it new or emptied.
func TestEmpty(t *testing.T) {
	for rank := range topRank + 1 {
		h := made(t, rank)
		for i, x := range keyed(7, -7, 0, keyTop, -keyTop) {
			for range 3 {
				if got := taken(t, h, step{pop: true}); got != (answer{err: api.ErrNone}) || stateOf(h) != (state{}) {
					t.Errorf("rank %d, round %d: Pop of none: got %v, %v", rank, i, got, stateOf(h))
				}
			}
			fails(t, "Push", h.Push(x), api.OK)
			if got := stateOf(h); got != (state{1, 0}) {
				t.Errorf("rank %d, round %d: got %v", rank, i, got)
			}
			if got := taken(t, h, step{pop: true}); got != (answer{x, x.Key, api.OK}) {
				t.Errorf("rank %d: Pop of %v alone: got %v", rank, x, got)
			}
		}
	}
}

// out is what comes of a Pop, and how many are wrong then.
type out struct{ id, key, wrong int }

// byHand: keys that are pushed, how many are wrong then, and all that is popped.
type byHand struct {
	rank  int
	keys  []int
	wrong int
	outs  []out
}

// handmade is worked out from the document's words; ids are places in the keys.
func handmade() map[string]byHand {
	return map[string]byHand{
		"a node that wants 2":              {0, []int{1, 2}, 1, []out{{0, 2, 0}, {1, 2, 0}}},
		"the right part is less":           {0, []int{2, 1}, 1, []out{{1, 2, 0}, {0, 2, 0}}},
		"parts alike, wants 2":             {0, []int{1, 1}, 0, []out{{0, 1, 0}, {1, 1, 0}}},
		"parts alike, wants 1":             {8, []int{5, 5, 5, 5}, 0, []out{{0, 5, 0}, {1, 5, 0}, {2, 5, 0}, {3, 5, 0}}},
		"the left part is missing":         {8, []int{1, 2}, 0, []out{{0, 1, 0}, {1, 2, 0}}},
		"the right part is missing":        {8, []int{2, 1}, 0, []out{{1, 1, 0}, {0, 2, 0}}},
		"the least rank of keys alike":     {0, []int{1, 1, 1}, 0, []out{{2, 1, 0}, {0, 1, 0}, {1, 1, 0}}},
		"the least rank, be it of many":    {8, []int{3, 3, 3, 3, 3, 3, 3}, 0, []out{{6, 3, 0}, {4, 3, 0}, {5, 3, 0}, {0, 3, 0}, {1, 3, 0}, {2, 3, 0}, {3, 3, 0}}},
		"as it counts, not as it is":       {0, []int{0, 5, 5}, 1, []out{{2, 5, 1}, {0, 5, 0}, {1, 5, 0}}},
		"a tree of a greater rank is less": {0, []int{0, 5, 6}, 1, []out{{0, 5, 0}, {1, 5, 0}, {2, 6, 0}}},
		"a tree of a lesser rank is less":  {0, []int{0, 5, 4}, 1, []out{{2, 4, 1}, {0, 5, 0}, {1, 5, 0}}},
		// The right part was less, and stays the left one when the keys are alike then.
		"parts that changed places": {8, []int{5, 5, 3, 5}, 0, []out{{2, 3, 0}, {3, 5, 0}, {0, 5, 0}, {1, 5, 0}}},
		// One and a half is 2: the root has two items, and is filled when one of them is left.
		"wants 2, with parts below": {1, []int{1, 2, 3, 4}, 1, []out{{0, 2, 1}, {1, 3, 1}, {2, 4, 0}, {3, 4, 0}}},
		"wants 3":                   {0, []int{1, 2, 3, 4}, 3, []out{{0, 4, 2}, {1, 4, 1}, {2, 4, 0}, {3, 4, 0}}},
		// Four and a half is 5: the items of one part aren't enough.
		"wants 5": {0, []int{1, 2, 3, 4, 5, 6, 7, 8}, 7, []out{
			{0, 8, 6}, {1, 8, 5}, {2, 8, 4}, {3, 8, 3}, {4, 8, 2}, {5, 8, 1}, {6, 8, 0}, {7, 8, 0}}},
		// It wants 8: when four of its eight are left, it is filled with the other eight.
		"wants 8, filled at 4": {0, []int{1, 2, 3, 4, 5, 6, 7, 8, 9, 10, 11, 12, 13, 14, 15, 16}, 14, []out{
			{0, 8, 13}, {1, 8, 12}, {2, 8, 11}, {3, 8, 11}, {4, 16, 10}, {5, 16, 9}, {6, 16, 8}, {7, 16, 7},
			{8, 16, 6}, {9, 16, 5}, {10, 16, 4}, {11, 16, 3}, {12, 16, 2}, {13, 16, 1}, {14, 16, 0}, {15, 16, 0}}},
		"keys at the bounds": {0, []int{keyTop, -keyTop}, 1, []out{{1, keyTop, 0}, {0, keyTop, 0}}},
	}
}

// TestByHand: 5.1 to 5.3.
func TestByHand(t *testing.T) {
	for name, c := range handmade() {
		items := keyed(c.keys...)
		h := filledWith(t, c.rank, items)
		if got := stateOf(h); got != (state{len(items), c.wrong}) {
			t.Errorf("%s: got %v, want %d items, %d wrong", name, got, len(items), c.wrong)
		}
		for i, o := range c.outs {
			got := taken(t, h, step{pop: true})
			if got != (answer{items[o.id], o.key, api.OK}) || stateOf(h) != (state{len(items) - i - 1, o.wrong}) {
				t.Errorf("%s: Pop %d: got %v, then %v, want %v", name, i, got, stateOf(h), o)
			}
		}
	}
}

// TestRankStays: 5.2: a tree is joined by its rank, however few of its items are left.
func TestRankStays(t *testing.T) {
	h := filledWith(t, 0, rising(4))
	for range 3 {
		taken(t, h, step{pop: true})
	}
	for i, wrong := range []int{0, 1, 1, 4} {
		fails(t, "Push", h.Push(api.Item{Key: 5 + i, Id: 10 + i}), api.OK)
		if got := stateOf(h); got != (state{2 + i, wrong}) {
			t.Errorf("Push %d: got %v, want %d wrong", i, got, wrong)
		}
	}
	if got := taken(t, h, step{pop: true}); got != (answer{api.Item{Key: 4, Id: 3}, 8, api.OK}) {
		t.Errorf("Pop: got %v", got)
	}
}

// TestTakenAway: 5.3: a tree without items is in nobody's way.
func TestTakenAway(t *testing.T) {
	h := filledWith(t, 0, keyed(5, 5, 1))
	if got := taken(t, h, step{pop: true}); got != (answer{api.Item{Key: 1, Id: 2}, 1, api.OK}) {
		t.Errorf("Pop: got %v", got)
	}
	// Were the tree of rank 0 still there, all would be joined, and this one with the greatest key.
	fails(t, "Push", h.Push(api.Item{Key: 2, Id: 3}), api.OK)
	if got := stateOf(h); got != (state{3, 0}) {
		t.Errorf("got %v", got)
	}
	if got := taken(t, h, step{pop: true}); got != (answer{api.Item{Key: 2, Id: 3}, 2, api.OK}) {
		t.Errorf("Pop: got %v", got)
	}
}

// TestWantsOfAllRanks: 5.1, 5.2: how many are wrong in the tree of each rank, worked out by hand.
func TestWantsOfAllRanks(t *testing.T) {
	for rank, want := range []int{0, 1, 3, 7, 14, 29, 60, 122, 247} {
		many := 1 << rank
		if got := stateOf(filledWith(t, 0, rising(many))); got != (state{many, want}) {
			t.Errorf("%d items: got %v, want %d wrong", many, got, want)
		}
	}
}

// TestFirstWrong: 5.2: the first tree above the heap's rank is the first one that is wrong, about one item.
func TestFirstWrong(t *testing.T) {
	for rank := range topRank {
		h := made(t, rank)
		for i, x := range rising(2 << rank) {
			fails(t, "Push", h.Push(x), api.OK)
			want := state{i + 1, 0}
			if i+1 == 2<<rank {
				want.wrong = 1
			}
			if got := stateOf(h); got != want {
				t.Errorf("rank %d: got %v, want %v", rank, got, want)
			}
		}
	}
}

// TestSmallAreSorted: 5.2: nothing is wrong while no tree is above the heap's rank.
func TestSmallAreSorted(t *testing.T) {
	for rank := range topRank + 1 {
		for _, items := range lists() {
			if len(items) >= 2<<rank {
				continue
			}
			h := filledWith(t, rank, items)
			keys := []int{}
			for range items {
				a := taken(t, h, step{pop: true})
				if a.err != api.OK || a.key != a.item.Key || h.Wrong() != 0 {
					t.Fatalf("rank %d, %v: got %v, %d wrong", rank, items, a, h.Wrong())
				}
				keys = append(keys, a.key)
			}
			if !slices.IsSorted(keys) || h.Many() != 0 {
				t.Errorf("rank %d, %v: popped %v, left are %d", rank, items, keys, h.Many())
			}
		}
	}
}

// TestAllComeOut: 5.3: each item comes out once, and counts as a key that was there and is no less than its own.
func TestAllComeOut(t *testing.T) {
	for rank := range topRank + 1 {
		for _, items := range lists() {
			h := filledWith(t, rank, items)
			there := map[int]bool{}
			for _, x := range items {
				there[x.Key] = true
			}
			got := []api.Item{}
			for h.Many() > 0 {
				a := taken(t, h, step{pop: true})
				if a.err != api.OK || a.key < a.item.Key || !there[a.key] {
					t.Fatalf("rank %d, %v: got %v", rank, items, a)
				}
				got = append(got, a.item)
			}
			order := func(a, b api.Item) int { return a.Id - b.Id }
			want := slices.SortedFunc(slices.Values(items), order)
			if slices.SortFunc(got, order); !slices.Equal(got, want) {
				t.Errorf("rank %d: pushed %v, popped %v", rank, items, got)
			}
		}
	}
}

// TestFewAreWrong: one of 2^(rank-5) at the most, as node by node can be counted.
func TestFewAreWrong(t *testing.T) {
	for rank := range topRank + 1 {
		for _, items := range lists() {
			h := made(t, rank)
			for i, s := range slices.Concat(pushes(items), pops(len(items))) {
				taken(t, h, s)
				if pushed := min(i+1, len(items)); h.Wrong()<<rank > pushed<<5 {
					t.Fatalf("rank %d, %v: %d of %d are wrong", rank, items, h.Wrong(), pushed)
				}
			}
		}
	}
}

// TestAllShort: 5.1 to 5.3: all ways of up to eight steps with keys from 0 to 2.
func TestAllShort(t *testing.T) {
	for rank := range 3 {
		for n := range 4 * 4 * 4 * 4 * 4 * 4 * 4 * 4 {
			steps := []step{}
			for i := range 8 {
				choice := n >> (2 * i) & 3
				steps = append(steps, step{choice == 3, api.Item{Key: choice % 3, Id: i}})
			}
			play(t, rank, steps)
		}
	}
}

// TestLong: 5.1 to 5.3: long ways, with few pops and with many.
func TestLong(t *testing.T) {
	for rank := range topRank + 1 {
		for seed, items := range lists() {
			play(t, rank, slices.Concat(pushes(items), pops(len(items)+2)))
			for _, eighths := range []int{1, 4} {
				play(t, rank, slices.Concat(among(seed, eighths, items), pops(len(items)+2)))
			}
		}
	}
}

// TestInTurns: 5.2, 5.3: pushes of one size after pops of another one, so that ranks have gaps.
func TestInTurns(t *testing.T) {
	for rank := range topRank + 1 {
		for in := 1; in <= 40; in += 3 {
			for _, back := range []int{1, in / 2, in - 1} {
				items := mixed(in*back, 200, 1+in%9)
				steps := []step{}
				for part := range slices.Chunk(items, in) {
					steps = slices.Concat(steps, pushes(part), pops(back))
				}
				play(t, rank, slices.Concat(steps, pops(len(items))))
			}
		}
	}
}

// checkFull wants a heap into which no more can be pushed.
func checkFull(t *testing.T, h *soft.Heap) {
	t.Helper()
	before := stateOf(h)
	fails(t, "Push of one more", h.Push(api.Item{Key: 1}), api.ErrFull)
	for _, x := range outside() {
		fails(t, "Push of one more, out of range", h.Push(x), api.ErrRange)
	}
	fails(t, "Push of one more, again", h.Push(api.Item{Key: keyTop, Id: keyTop}), api.ErrFull)
	if got := stateOf(h); got != before {
		t.Errorf("refused, and yet: got %v, want %v", got, before)
	}
}

// TestFull: 5.2: all items that were pushed count, though they were popped since.
func TestFull(t *testing.T) {
	for rank := range topRank + 1 {
		h := filledWith(t, rank, falling(mostPushed))
		if h.Many() != mostPushed {
			t.Errorf("rank %d: got %d items", rank, h.Many())
		}
		checkFull(t, h)
		for h.Many() > 0 {
			taken(t, h, step{pop: true})
			checkFull(t, h)
		}
		h = made(t, rank)
		for _, x := range falling(mostPushed) {
			fails(t, "Push", h.Push(x), api.OK)
			if got := taken(t, h, step{pop: true}); got != (answer{x, x.Key, api.OK}) {
				t.Errorf("rank %d: got %v, want %v", rank, got, x)
			}
		}
		checkFull(t, h)
		if got := taken(t, h, step{pop: true}); got != (answer{err: api.ErrNone}) {
			t.Errorf("rank %d: Pop of none: got %v", rank, got)
		}
	}
}

// TestOutside: 5.2, P1: items beyond their bounds are refused; those at the bounds are not.
func TestOutside(t *testing.T) {
	for rank := range topRank + 1 {
		for _, x := range outside() {
			h := made(t, rank)
			fails(t, "Push", h.Push(x), api.ErrRange)
			if got := taken(t, h, step{pop: true}); got != (answer{err: api.ErrNone}) || stateOf(h) != (state{}) {
				t.Errorf("after %v was refused: got %v, %v", x, got, stateOf(h))
			}
		}
		for _, x := range []api.Item{{Key: keyTop}, {Key: -keyTop}, {Id: keyTop}, {Id: 0}, {Key: -keyTop, Id: keyTop}} {
			fails(t, "Push at a bound", made(t, rank).Push(x), api.OK)
		}
	}
}

// TestRefusedChangesNothing: P1: what is refused isn't counted, and no later call tells of it.
func TestRefusedChangesNothing(t *testing.T) {
	for rank := range topRank + 1 {
		steps := slices.Concat(among(rank, 3, mixed(rank, mostPushed, 20)), pops(mostPushed))
		h, quiet := made(t, rank), made(t, rank)
		for i, s := range steps {
			for _, x := range outside() {
				fails(t, "Push", h.Push(x), api.ErrRange)
			}
			if h.Many() == 0 {
				_, _, err := h.Pop()
				fails(t, "Pop", err, api.ErrNone)
			}
			if got, want := taken(t, h, s), taken(t, quiet, s); got != want || stateOf(h) != stateOf(quiet) {
				t.Fatalf("rank %d, step %d: got %v, want %v", rank, i, got, want)
			}
		}
	}
}

// TestAskingChangesNothing: 5.3: Many and Wrong answer the same again, and no later call tells of them.
func TestAskingChangesNothing(t *testing.T) {
	for rank := range topRank + 1 {
		steps := slices.Concat(among(rank+9, 3, mixed(rank, mostPushed, 30)), pops(mostPushed))
		h, quiet := made(t, rank), made(t, rank)
		for i, s := range steps {
			first := stateOf(h)
			if again := (state{wrong: h.Wrong(), many: h.Many()}); again != first {
				t.Fatalf("rank %d, step %d: asked again: got %v, then %v", rank, i, first, again)
			}
			if got, want := taken(t, h, s), taken(t, quiet, s); got != want {
				t.Fatalf("rank %d, step %d: got %v, want %v", rank, i, got, want)
			}
		}
		if stateOf(h) != stateOf(quiet) {
			t.Errorf("rank %d: got %v, want %v", rank, stateOf(h), stateOf(quiet))
		}
	}
}

// TestHeapsApart: P2: heaps share nothing: what one answers hangs on its own calls alone.
func TestHeapsApart(t *testing.T) {
	steps := [][]step{}
	alone := [][]answer{}
	for rank := range topRank + 1 {
		steps = append(steps, slices.Concat(among(rank+5, 2, mixed(rank+1, 150, 12)), pops(30)))
		h, answers := made(t, rank), []answer{}
		for _, s := range steps[rank] {
			answers = append(answers, taken(t, h, s))
		}
		alone = append(alone, answers)
	}
	heaps := []*soft.Heap{}
	for rank := range topRank + 1 {
		heaps = append(heaps, made(t, rank))
	}
	for i := range 400 {
		for rank, h := range heaps {
			if i >= len(steps[rank]) {
				continue
			}
			if got := taken(t, h, steps[rank][i]); got != alone[rank][i] {
				t.Fatalf("rank %d, step %d: got %v, alone %v", rank, i, got, alone[rank][i])
			}
		}
	}
}
