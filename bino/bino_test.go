package bino_test

import (
	"math"
	"math/bits"
	"slices"
	"strconv"
	"testing"

	"rickstead/api"
	"rickstead/bino"
	"rickstead/plain"
)

// The document's numbers are written out here, so that a change of package api is seen too.
const (
	most    = 60
	keyTop  = 1000000
	topRank = 5
)

// node is a tree by pointers; the trees below it are of falling ranks, and as many as its own rank.
type node struct {
	item  api.Item
	below []*node
}

func (n *node) rank() int { return len(n.below) }

// list is the root, and then all trees below it.
func (n *node) list() []api.Item {
	out := []api.Item{n.item}
	for _, part := range n.below {
		out = append(out, part.list()...)
	}
	return out
}

// falls tells whether a key is less than that of the root above it.
func (n *node) falls() bool {
	return slices.ContainsFunc(n.below, func(part *node) bool { return part.item.Key < n.item.Key || part.falls() })
}

// grown takes a tree of a rank from the beginning of a list, and tells what is left of the list.
func grown(l []api.Item, rank int) (*node, []api.Item) {
	n, rest := &node{item: l[0]}, l[1:]
	for r := rank - 1; r >= 0; r-- {
		var part *node
		part, rest = grown(rest, r)
		n.below = append(n.below, part)
	}
	return n, rest
}

// link makes one tree of two, and leaves both as they were.
func link(first, second *node) *node {
	if first.item.Key <= second.item.Key {
		return &node{first.item, slices.Concat([]*node{second}, first.below)}
	}
	return &node{second.item, slices.Concat([]*node{first}, second.below)}
}

// forest has trees by their ranks.
type forest map[int]*node

// planted makes the forest of a heap in which nothing is wrong.
func planted(h []api.Tree) forest {
	f := forest{}
	for _, t := range h {
		f[t.Rank], _ = grown(t.Items, t.Rank)
	}
	return f
}

// heap writes a forest down.
func (f forest) heap() []api.Tree {
	h := []api.Tree{}
	for rank := range 10 {
		if n := f[rank]; n != nil {
			h = append(h, api.Tree{Rank: rank, Items: n.list()})
		}
	}
	return h
}

// meld tells the document's cases one by one.
func (f forest) meld(g forest) forest {
	out := forest{}
	var carried *node
	for rank := range 10 {
		c, a, b := carried, f[rank], g[rank]
		carried = nil
		switch {
		case c != nil && a != nil && b != nil:
			out[rank], carried = c, link(a, b)
		case c != nil && a != nil:
			carried = link(c, a)
		case c != nil && b != nil:
			carried = link(c, b)
		case a != nil && b != nil:
			carried = link(a, b)
		case c != nil:
			out[rank] = c
		case a != nil:
			out[rank] = a
		case b != nil:
			out[rank] = b
		}
	}
	return out
}

// meld is what Meld is to answer.
func meld(a, b []api.Tree) []api.Tree { return planted(a).meld(planted(b)).heap() }

// pop is what Pop is to answer; there must be a tree.
func pop(h []api.Tree) (api.Item, []api.Tree) {
	f := planted(h)
	var least *node
	for rank := topRank; rank >= 0; rank-- {
		if n := f[rank]; n != nil && (least == nil || n.item.Key <= least.item.Key) {
			least = n
		}
	}
	delete(f, least.rank())
	parts := forest{}
	for _, part := range least.below {
		parts[part.rank()] = part
	}
	return least.item, f.meld(parts).heap()
}

// single is the heap of one item.
func single(x api.Item) []api.Tree { return []api.Tree{{Rank: 0, Items: []api.Item{x}}} }

// one is the heap of one tree that is written as it stands.
func one(rank int, items ...api.Item) []api.Tree { return []api.Tree{{Rank: rank, Items: items}} }

// tree links items by twos, and the trees of that by twos, till there is one. There are 2 to some rank.
func tree(items []api.Item) *node {
	if len(items) == 1 {
		return &node{item: items[0]}
	}
	half := len(items) / 2
	return link(tree(items[:half]), tree(items[half:]))
}

// made is a heap of up to 63 items, each rank from the next ones of them.
func made(items []api.Item) []api.Tree {
	h := []api.Tree{}
	for rank := 0; len(items) > 0; rank++ {
		if many := len(items) & -len(items); many == 1<<rank {
			h = append(h, api.Tree{Rank: rank, Items: tree(items[:many]).list()})
			items = items[many:]
		}
	}
	return h
}

// pushed makes a heap of items, one by one.
func pushed(items []api.Item) []api.Tree {
	h := []api.Tree{}
	for _, x := range items {
		h = meld(h, single(x))
	}
	return h
}

// mixed makes so many items of few keys, from a rule that a seed starts.
func mixed(seed, many, keys int) []api.Item {
	l := []api.Item{}
	for i := range many {
		seed = (seed*1103515245 + 12345) % (1 << 31)
		l = append(l, api.Item{Key: (seed>>8)%keys - keys/2, Id: i})
	}
	return l
}

// alike makes so many items of one key; ids tell them apart.
func alike(many, key, id int) []api.Item {
	l := []api.Item{}
	for i := range many {
		l = append(l, api.Item{Key: key, Id: id + i})
	}
	return l
}

// sized is some heap of up to 63 items.
func sized(many int) []api.Tree { return made(mixed(many, many, 9)) }

// next counts on: the last number first, each from 0 up to another one; false after the last way.
func next(digits []int, to int) bool {
	for i := range slices.Backward(digits) {
		if digits[i] < to {
			digits[i]++
			return true
		}
		digits[i] = 0
	}
	return false
}

// short makes all heaps of up to so many items with keys from 0 to 2; ids tell where an item stood.
func short(many int) [][]api.Tree {
	all := [][]api.Tree{}
	for n := range many + 1 {
		keys := make([]int, n)
		for more := true; more; more = next(keys, 2) {
			if h := laid(keys, 10*n); !fallsIn(h) {
				all = append(all, h)
			}
		}
	}
	return all
}

// laid puts keys into trees as they stand, whether or not that is a heap.
func laid(keys []int, id int) []api.Tree {
	h := []api.Tree{}
	at := 0
	for rank := range topRank + 1 {
		if len(keys)&(1<<rank) == 0 {
			continue
		}
		t := api.Tree{Rank: rank}
		for range 1 << rank {
			t.Items = append(t.Items, api.Item{Key: keys[at], Id: id + at})
			at++
		}
		h = append(h, t)
	}
	return h
}

// fallsIn tells whether a key of some tree falls.
func fallsIn(h []api.Tree) bool {
	return slices.ContainsFunc(h, func(t api.Tree) bool {
		n, _ := grown(t.Items, t.Rank)
		return n.falls()
	})
}

// long makes heaps of up to 60 items, the edges among them.
func long() [][]api.Tree {
	all := [][]api.Tree{nil, {},
		single(api.Item{Key: keyTop, Id: keyTop}), single(api.Item{Key: -keyTop, Id: 0}),
		one(1, api.Item{Key: -keyTop, Id: keyTop}, api.Item{Key: keyTop, Id: 0}),
	}
	for i := range most + 1 {
		all = append(all, made(mixed(i, i, 2*keyTop+1)), made(mixed(i+7, i, 1+i%7)), pushed(mixed(i, i, 5)), made(alike(i, 3, 100)))
	}
	return all
}

// heaps makes what ordinary calls are tried with.
func heaps() [][]api.Tree { return slices.Concat(short(5), long()) }

// count tells how many items there are.
func count(h []api.Tree) int {
	many := 0
	for _, t := range h {
		many += len(t.Items)
	}
	return many
}

func sameTree(a, b api.Tree) bool { return a.Rank == b.Rank && slices.Equal(a.Items, b.Items) }

func same(a, b []api.Tree) bool { return slices.EqualFunc(a, b, sameTree) }

// fails wants an error that is or wraps an Errno other than OK, or nil where OK is wanted.
func fails(t *testing.T, what string, err error, want api.Errno) {
	t.Helper()
	if (err == nil) != (want == api.OK) || plain.Told(err) != want {
		t.Errorf("%s: got error %v, want %v", what, err, want)
	}
}

// row: a heap that is refused, and why.
type row struct {
	h    []api.Tree
	want api.Errno
}

// changed is a heap of which one item is another one.
func changed(h []api.Tree, tree, at int, x api.Item) []api.Tree {
	h = clone(h)
	h[tree].Items[at] = x
	return h
}

// clone shares no memory with a heap.
func clone(h []api.Tree) []api.Tree {
	h = slices.Clone(h)
	for i := range h {
		h[i].Items = slices.Clone(h[i].Items)
	}
	return h
}

// ranked makes trees of ranks, each with as many items of one key as it should have, if its rank is one.
func ranked(ranks ...int) []api.Tree {
	h := []api.Tree{}
	for _, r := range ranks {
		many := 1
		if r >= 0 && r <= 10 {
			many = 1 << r
		}
		h = append(h, api.Tree{Rank: r, Items: alike(many, 0, 0)})
	}
	return h
}

// misranked: ranks that may not be, or do not rise, and trees with too few or too many items.
func misranked() map[string]row {
	rows := map[string]row{
		"ranks alike":                    {ranked(1, 1), api.ErrShape},
		"ranks 0 alike":                  {ranked(0, 0), api.ErrShape},
		"ranks 5 alike":                  {ranked(5, 5), api.ErrShape},
		"ranks fall":                     {ranked(1, 0), api.ErrShape},
		"ranks rise, then fall":          {ranked(0, 2, 1), api.ErrShape},
		"ranks rise, then fall to first": {ranked(0, 2, 0), api.ErrShape},
		"all ranks, the last one twice":  {ranked(0, 1, 2, 3, 4, 5, 5), api.ErrShape},
		"no rank, no item":               {make([]api.Tree, 1), api.ErrShape},
		"very many trees":                {make([]api.Tree, 1<<20), api.ErrShape},
		"very many items":                {one(5, make([]api.Item, 1<<20)...), api.ErrShape},
		"rank 6":                         {ranked(6), api.ErrRange},
		"rank 6 behind 0 and 5":          {ranked(0, 5, 6), api.ErrRange},
		"rank -1 behind 0":               {ranked(0, -1), api.ErrRange},
		// Of one tree the rank's bounds come first; of two trees the first one's faults.
		"rank 6 without items":               {[]api.Tree{{Rank: 6}}, api.ErrRange},
		"rank -1, not above the one ahead":   {ranked(3, -1), api.ErrRange},
		"rank -1, then ranks alike":          {ranked(-1, 1, 1), api.ErrRange},
		"ranks alike, then rank 6":           {ranked(1, 1, 6), api.ErrShape},
		"too few items, then rank 6":         {[]api.Tree{{Rank: 1, Items: alike(1, 0, 0)}, {Rank: 6}}, api.ErrShape},
		"rank 6, then too few items":         {[]api.Tree{{Rank: 6}, {Rank: 1}}, api.ErrRange},
		"too few items behind a whole tree":  {[]api.Tree{{Items: alike(1, 0, 0)}, {Rank: 2, Items: alike(3, 0, 0)}}, api.ErrShape},
		"too many items behind a whole tree": {[]api.Tree{{Items: alike(1, 0, 0)}, {Rank: 2, Items: alike(5, 0, 0)}}, api.ErrShape},
		// Ranks and how many items there are come ahead of what the items are.
		"too many items, out of range":          {one(0, api.Item{Key: keyTop + 1}, api.Item{}), api.ErrShape},
		"item out of range, then rank 6":        {slices.Concat(single(api.Item{Id: -1}), ranked(6)), api.ErrRange},
		"item out of range, then ranks alike":   {slices.Concat(single(api.Item{Id: -1}), ranked(0)), api.ErrShape},
		"item out of range, then too few items": {slices.Concat(single(api.Item{Key: keyTop + 1}), one(1)), api.ErrShape},
		"64 items out of range of rank 6":       {one(6, alike(64, keyTop+1, -1)...), api.ErrRange},
		"61 items, not as many in a tree":       {one(5, alike(61, 0, 0)...), api.ErrShape},
		"61 items, out of range, in rank 5":     {one(5, alike(61, keyTop+1, 0)...), api.ErrShape},
	}
	for _, r := range []int{math.MinInt, -65, -64, -63, -6, -2, -1, 6, 7, 8, 31, 32, 62, 63, 64, 65, math.MaxInt} {
		rows["rank "+strconv.Itoa(r)] = row{ranked(r), api.ErrRange}
		rows["rank "+strconv.Itoa(r)+", then 0"] = row{ranked(r, 0), api.ErrRange}
		rows["rank "+strconv.Itoa(r)+" behind 5"] = row{ranked(5, r), api.ErrRange}
	}
	return rows
}

// outside: items of numbers that chapter 1 doesn't have.
func outside() []api.Item {
	return []api.Item{
		{Key: keyTop + 1}, {Key: -keyTop - 1}, {Key: math.MaxInt}, {Key: math.MinInt},
		{Id: keyTop + 1}, {Id: -1}, {Id: math.MaxInt}, {Id: math.MinInt},
	}
}

// misfilled: heaps whose ranks are right, and whose items are not, or are too many.
func misfilled() map[string]row {
	sixty, more := made(alike(60, 0, 0)), made(alike(61, 0, 0))
	rows := map[string]row{
		"62 items":                      {made(alike(62, 0, 0)), api.ErrFull},
		"63 items":                      {made(alike(63, 0, 0)), api.ErrFull},
		"61 items":                      {more, api.ErrFull},
		"61 items, a key falls":         {changed(more, 4, 31, api.Item{Key: -1}), api.ErrFull},
		"61 items, out of range":        {changed(more, 4, 31, api.Item{Key: keyTop + 1}), api.ErrRange},
		"63 items, the first outside":   {changed(made(alike(63, 0, 0)), 0, 0, api.Item{Id: -1}), api.ErrRange},
		"60 items, the last key falls":  {changed(sixty, 3, 31, api.Item{Key: -1}), api.ErrShape},
		"60 items, the first key falls": {changed(sixty, 0, 1, api.Item{Key: -1}), api.ErrShape},
		"falls at the bounds":           {one(1, api.Item{Key: keyTop}, api.Item{Key: -keyTop}), api.ErrShape},
		"falls by one":                  {one(1, api.Item{Key: 1}, api.Item{Key: 0, Id: 9}), api.ErrShape},
		// Less than the root right above it, though not than that of the whole tree.
		"falls deep down":               {one(2, keyed(0, 2, 1, 0)...), api.ErrShape},
		"falls, then out of range":      {slices.Concat(one(1, keyed(1, 0)...), one(2, keyed(0, 0, 0, keyTop+1)...)), api.ErrRange},
		"falls to what is out of range": {one(1, keyed(0, -keyTop-1)...), api.ErrRange},
	}
	for i, x := range outside() {
		name := "outside " + strconv.Itoa(i)
		rows[name] = row{single(x), api.ErrRange}
		rows[name+" at the end of 60"] = row{changed(sixty, 3, 31, x), api.ErrRange}
		rows[name+" in the midst of 60"] = row{changed(sixty, 1, 4, x), api.ErrRange}
	}
	return rows
}

// keyed makes items whose ids tell where they stood.
func keyed(keys ...int) []api.Item {
	l := []api.Item{}
	for i, k := range keys {
		l = append(l, api.Item{Key: k, Id: i})
	}
	return l
}

// wrong has all heaps that are refused.
func wrong() map[string]row {
	rows := misfilled()
	for name, c := range misranked() {
		rows[name] = c
	}
	return rows
}

// TestCheck: 4.1, P3.
func TestCheck(t *testing.T) {
	for _, h := range heaps() {
		if err := bino.Check(h); err != nil {
			t.Errorf("Check(%v): got %v", h, err)
		}
	}
	for name, c := range wrong() {
		fails(t, name, bino.Check(c.h), c.want)
	}
}

// TestCheckManyItems: 4.1: of each rank there is one right number of items.
func TestCheckManyItems(t *testing.T) {
	for rank, right := range []int{1, 2, 4, 8, 16, 32} {
		for many := range 130 {
			want := api.ErrShape
			if many == right {
				want = api.OK
			}
			fails(t, strconv.Itoa(many)+" items of rank "+strconv.Itoa(rank), bino.Check(one(rank, alike(many, 0, 0)...)), want)
		}
	}
}

// TestCheckAllRanks: 4.1: all lists of up to four trees of the ranks -1 to 6.
func TestCheckAllRanks(t *testing.T) {
	for many := range 5 {
		digits := make([]int, many)
		for more := true; more; more = next(digits, 7) {
			ranks, want := []int{}, api.OK
			for i, d := range digits {
				ranks = append(ranks, d-1)
				switch {
				case want != api.OK:
				case d == 0 || d == 7:
					want = api.ErrRange
				case i > 0 && d <= digits[i-1]:
					want = api.ErrShape
				}
			}
			h := ranked(ranks...)
			if want == api.OK && count(h) > most {
				want = api.ErrFull
			}
			if got := plain.Told(bino.Check(h)); got != want {
				t.Fatalf("ranks %v: got %v, want %v", ranks, got, want)
			}
		}
	}
}

// TestCheckFull: 4.1: each choice of ranks is right, if it has no more than 60 items.
func TestCheckFull(t *testing.T) {
	for many := range 64 {
		h := made(alike(many, 0, 0))
		if len(h) != bits.OnesCount(uint(many)) || count(h) != many {
			t.Fatalf("%d items: the test made %v", many, h)
		}
		want := api.OK
		if many > most {
			want = api.ErrFull
		}
		fails(t, strconv.Itoa(many)+" items", bino.Check(h), want)
	}
}

// TestCheckAbove: 4.1: which root stands above each place of a tree.
func TestCheckAbove(t *testing.T) {
	for rank, above := range map[int][]int{
		1: {-1, 0},
		2: {-1, 0, 1, 0},
		3: {-1, 0, 1, 2, 1, 0, 5, 0},
		5: {-1, 0, 1, 2, 3, 4, 3, 2, 7, 2, 1, 10, 11, 10, 1, 14, 1, 0, 17, 18, 19, 18, 17, 22, 17, 0, 25, 26, 25, 0, 29, 0},
	} {
		// Keys rise by 10 downwards, so that nothing falls but the one item that is changed.
		keys := make([]int, len(above))
		for i := 1; i < len(above); i++ {
			keys[i] = keys[above[i]] + 10
		}
		for i := 1; i < len(above); i++ {
			l := keyed(keys...)
			l[i].Key = keys[above[i]]
			fails(t, "as its root", bino.Check(one(rank, l...)), api.OK)
			l[i].Key--
			fails(t, "below its root, at "+strconv.Itoa(i)+" of rank "+strconv.Itoa(rank), bino.Check(one(rank, l...)), api.ErrShape)
		}
	}
}

// TestCheckAllKeys: 4.1: up to eight items with all keys from 0 to 2.
func TestCheckAllKeys(t *testing.T) {
	for many := range 9 {
		keys := make([]int, many)
		for more := true; more; more = next(keys, 2) {
			h := laid(keys, 0)
			want := api.OK
			if fallsIn(h) {
				want = api.ErrShape
			}
			if got := plain.Told(bino.Check(h)); got != want {
				t.Fatalf("Check(%v): got %v, want %v", h, got, want)
			}
		}
	}
}

// checkMeld holds Meld against the other way.
func checkMeld(t *testing.T, a, b []api.Tree) {
	t.Helper()
	got, err := bino.Meld(a, b)
	if count(a)+count(b) > most {
		fails(t, "Meld of "+strconv.Itoa(count(a))+" and "+strconv.Itoa(count(b)), err, api.ErrFull)
		if len(got) != 0 {
			t.Errorf("Meld(%v, %v): got %v beside an error", a, b, got)
		}
		return
	}
	if want := meld(a, b); err != nil || !same(got, want) {
		t.Errorf("Meld(%v, %v): got %v, %v, want %v", a, b, got, err, want)
	}
	if err := bino.Check(got); err != nil || count(got) != count(a)+count(b) {
		t.Errorf("Meld(%v, %v): %v is no heap of all items: %v", a, b, got, err)
	}
}

// TestMeld: 4.2.
func TestMeld(t *testing.T) {
	for _, group := range [][][]api.Tree{short(4), long()} {
		for _, a := range group {
			for _, b := range group {
				checkMeld(t, a, b)
			}
		}
	}
}

// TestMeldByHand: 4.2: what is told in words, each by one small meld.
func TestMeldByHand(t *testing.T) {
	at := func(key, id int) api.Item { return api.Item{Key: key, Id: id} }
	oneTwo := []api.Tree{{Rank: 0, Items: alike(1, 0, 10)}, {Rank: 1, Items: alike(2, 0, 20)}}
	for name, c := range map[string]struct{ a, b, want []api.Tree }{
		"none and none":     {nil, []api.Tree{}, nil},
		"the first alone":   {oneTwo, nil, oneTwo},
		"the second alone":  {nil, oneTwo, oneTwo},
		"ranks in between":  {ranked(1, 4), ranked(0, 3), ranked(0, 1, 3, 4)},
		"roots alike":       {single(at(1, 1)), single(at(1, 2)), one(1, at(1, 1), at(1, 2))},
		"the first less":    {single(at(0, 1)), single(at(1, 2)), one(1, at(0, 1), at(1, 2))},
		"the second less":   {single(at(1, 1)), single(at(0, 2)), one(1, at(0, 2), at(1, 1))},
		"first among below": {one(1, alike(2, 5, 10)...), one(1, alike(2, 5, 20)...), one(2, at(5, 10), at(5, 20), at(5, 21), at(5, 11))},
		"second's root":     {one(1, alike(2, 6, 10)...), one(1, alike(2, 5, 20)...), one(2, at(5, 20), at(6, 10), at(6, 11), at(5, 21))},
		// What is carried is the first one, ahead of the tree of a or of b.
		"carried and one of a": {oneTwo, single(at(0, 30)), one(2, at(0, 10), at(0, 20), at(0, 21), at(0, 30))},
		"carried and one of b": {single(at(0, 30)), oneTwo, one(2, at(0, 30), at(0, 20), at(0, 21), at(0, 10))},
		// What is carried stays, whatever its key; the one of a is the first of the two others.
		"three": {oneTwo, []api.Tree{{Rank: 0, Items: alike(1, 0, 30)}, {Rank: 1, Items: alike(2, 0, 40)}},
			[]api.Tree{{Rank: 1, Items: []api.Item{at(0, 10), at(0, 30)}}, {Rank: 2, Items: []api.Item{at(0, 20), at(0, 40), at(0, 41), at(0, 21)}}}},
		"three, the carried one is greatest": {
			[]api.Tree{{Rank: 0, Items: alike(1, 9, 10)}, {Rank: 1, Items: alike(2, 4, 20)}},
			[]api.Tree{{Rank: 0, Items: alike(1, 8, 30)}, {Rank: 1, Items: alike(2, 3, 40)}},
			[]api.Tree{{Rank: 1, Items: []api.Item{at(8, 30), at(9, 10)}}, {Rank: 2, Items: []api.Item{at(3, 40), at(4, 20), at(4, 21), at(3, 41)}}}},
		"carried beyond all":  {ranked(0, 1, 2, 3), single(at(1, 0)), one(4, wound()...)},
		"rank 4 twice":        {one(4, alike(16, 2, 100)...), one(4, alike(16, 1, 200)...), one(5, twoOfFour()...)},
		"keys at the bounds":  {single(at(keyTop, keyTop)), single(at(-keyTop, 0)), one(1, at(-keyTop, 0), at(keyTop, keyTop))},
		"carried to no other": {ranked(0, 5), single(at(1, 0)), []api.Tree{{Rank: 1, Items: []api.Item{at(0, 0), at(1, 0)}}, ranked(5)[0]}},
	} {
		if got, err := bino.Meld(c.a, c.b); err != nil || !same(got, c.want) {
			t.Errorf("%s: got %v, %v, want %v", name, got, err, c.want)
		}
	}
}

// wound is what trees of the ranks 0 to 3 and a greater item become: each tree goes below what was carried to it.
func wound() []api.Item {
	return slices.Concat(alike(1, 0, 0), alike(8, 0, 0), alike(4, 0, 0), alike(2, 0, 0), alike(1, 1, 0))
}

// twoOfFour: the second root has the lesser key, and the first tree goes ahead of what was below it.
func twoOfFour() []api.Item {
	return slices.Concat(alike(1, 1, 200), alike(16, 2, 100), alike(15, 1, 201))
}

// TestMeldFull: 4.2: 60 items in both are melded, 61 are not.
func TestMeldFull(t *testing.T) {
	for a := range most + 1 {
		for b := range most + 1 {
			got, err := bino.Meld(sized(a), sized(b))
			if a+b > most {
				fails(t, "Meld of "+strconv.Itoa(a)+" and "+strconv.Itoa(b), err, api.ErrFull)
				if len(got) != 0 {
					t.Errorf("Meld of %d and %d: got %v beside an error", a, b, got)
				}
			} else if err != nil || count(got) != a+b || len(got) != bits.OnesCount(uint(a+b)) {
				t.Errorf("Meld of %d and %d: got %v, %v", a, b, got, err)
			}
		}
	}
}

// TestMeldFirstFault: 4.2, P3: what is wrong with a, then with b, then whether there is room.
func TestMeldFirstFault(t *testing.T) {
	meldFails := func(a, b []api.Tree, want api.Errno) {
		t.Helper()
		got, err := bino.Meld(a, b)
		fails(t, "Meld", err, want)
		if len(got) != 0 {
			t.Errorf("Meld: got %v beside an error", got)
		}
	}
	all := wrong()
	for _, first := range all {
		for _, good := range [][]api.Tree{nil, sized(1), sized(31), sized(most)} {
			meldFails(first.h, good, first.want)
			meldFails(good, first.h, first.want)
		}
		for _, second := range all {
			meldFails(first.h, second.h, first.want)
		}
	}
}

// items: what is pushed: below, among and above the keys of heaps, and at the bounds.
func items() []api.Item {
	all := []api.Item{{Key: keyTop, Id: keyTop}, {Key: -keyTop, Id: 0}}
	for k := -1; k <= 3; k++ {
		all = append(all, api.Item{Key: k, Id: 99})
	}
	return all
}

// TestPush: 4.2.
func TestPush(t *testing.T) {
	for _, h := range heaps() {
		for _, x := range items() {
			got, err := bino.Push(h, x)
			if count(h) == most {
				fails(t, "Push to 60", err, api.ErrFull)
				if len(got) != 0 {
					t.Errorf("Push(%v, %v): got %v beside an error", h, x, got)
				}
				continue
			}
			if want := meld(h, single(x)); err != nil || !same(got, want) {
				t.Errorf("Push(%v, %v): got %v, %v, want %v", h, x, got, err, want)
			}
		}
	}
	// The heap is the first one: what is alike to its root goes below it.
	want := one(1, api.Item{Key: 4, Id: 1}, api.Item{Key: 4, Id: 2})
	if got, err := bino.Push(single(api.Item{Key: 4, Id: 1}), api.Item{Key: 4, Id: 2}); err != nil || !same(got, want) {
		t.Errorf("Push of one alike: got %v, %v, want %v", got, err, want)
	}
}

// TestPushFirstFault: 4.2, P3: the heap first, then the item, then whether there is room.
func TestPushFirstFault(t *testing.T) {
	all := wrong()
	for _, x := range outside() {
		for _, many := range []int{0, 1, 59, most} {
			got, err := bino.Push(sized(many), x)
			fails(t, "Push of what is outside to "+strconv.Itoa(many), err, api.ErrRange)
			if len(got) != 0 {
				t.Errorf("Push(%v): got %v beside an error", x, got)
			}
		}
		for name, c := range all {
			got, err := bino.Push(c.h, x)
			fails(t, "Push of what is outside, "+name, err, c.want)
			if len(got) != 0 {
				t.Errorf("Push(%v), %s: got %v beside an error", x, name, got)
			}
		}
	}
	for many, want := range map[int]api.Errno{58: api.OK, 59: api.OK, 60: api.ErrFull, 61: api.ErrFull} {
		_, err := bino.Push(sized(many), api.Item{})
		fails(t, "Push to "+strconv.Itoa(many), err, want)
	}
}

// TestPop: 4.2.
func TestPop(t *testing.T) {
	for _, h := range heaps() {
		x, got, err := bino.Pop(h)
		if len(h) == 0 {
			fails(t, "Pop of none", err, api.ErrNone)
			if x != (api.Item{}) || len(got) != 0 {
				t.Errorf("Pop of none: got %v, %v beside an error", x, got)
			}
			continue
		}
		if least, want := pop(h); err != nil || x != least || !same(got, want) {
			t.Errorf("Pop(%v): got %v, %v, %v, want %v, %v", h, x, got, err, least, want)
		}
	}
}

// TestPopByHand: 4.2: what is told in words, each by one small heap.
func TestPopByHand(t *testing.T) {
	at := func(key, id int) api.Item { return api.Item{Key: key, Id: id} }
	for name, c := range map[string]struct {
		h     []api.Tree
		least api.Item
		rest  []api.Tree
	}{
		"one item": {single(at(7, 8)), at(7, 8), nil},
		"two":      {one(1, at(7, 8), at(9, 10)), at(7, 8), single(at(9, 10))},
		// Of roots that are alike the one of the least rank goes, wherever others stand.
		"roots alike":       {slices.Concat(single(at(3, 10)), one(1, alike(2, 3, 20)...)), at(3, 10), one(1, alike(2, 3, 20)...)},
		"alike behind more": {slices.Concat(single(at(4, 10)), one(1, alike(2, 3, 20)...), one(2, alike(4, 3, 30)...)), at(3, 20), slices.Concat(one(1, at(3, 21), at(4, 10)), one(2, alike(4, 3, 30)...))},
		// Both of rank 0 are linked, and carried ahead of the one of rank 1.
		"the greatest rank":  {slices.Concat(single(at(5, 9)), one(2, keyed(4, 5, 5, 5)...)), at(4, 0), one(2, at(5, 9), at(5, 1), at(5, 2), at(5, 3))},
		"below it, in order": {one(3, keyed(0, 1, 2, 3, 4, 5, 6, 7)...), at(0, 0), slices.Concat(one(0, at(7, 7)), one(1, at(5, 5), at(6, 6)), one(2, at(1, 1), at(2, 2), at(3, 3), at(4, 4)))},
		// The other trees are the first ones.
		"others stay above": {slices.Concat(single(at(2, 1)), one(1, at(1, 2), at(2, 3))), at(1, 2), one(1, at(2, 1), at(2, 3))},
		"at the bounds":     {slices.Concat(single(at(keyTop, keyTop)), one(1, at(-keyTop, 0), at(keyTop, 1))), at(-keyTop, 0), one(1, at(keyTop, keyTop), at(keyTop, 1))},
	} {
		if x, got, err := bino.Pop(c.h); err != nil || x != c.least || !same(got, c.rest) {
			t.Errorf("%s: got %v, %v, %v, want %v, %v", name, x, got, err, c.least, c.rest)
		}
	}
}

// drained pops till there is none.
func drained(t *testing.T, h []api.Tree) []api.Item {
	t.Helper()
	out := []api.Item{}
	for len(h) > 0 {
		x, rest, err := bino.Pop(h)
		if err != nil || count(rest) != count(h)-1 || bino.Check(rest) != nil {
			t.Fatalf("Pop(%v): got %v, %v, %v", h, x, rest, err)
		}
		out, h = append(out, x), rest
	}
	return out
}

// byBoth sorts by key, and then by id, so that what two lists have in them can be held against each other.
func byBoth(l []api.Item) []api.Item {
	l = slices.Clone(l)
	slices.SortFunc(l, func(a, b api.Item) int {
		if a.Key != b.Key {
			return a.Key - b.Key
		}
		return a.Id - b.Id
	})
	return l
}

// TestDrained: 4.2: what is pushed one by one, or melded from two, comes out by its keys, each item once.
func TestDrained(t *testing.T) {
	for i := range 3 * most {
		all := mixed(i, i%(most+1), 2+i%50)
		var whole []api.Tree
		parts := [2][]api.Tree{}
		var err error
		for j, x := range all {
			if whole, err = bino.Push(whole, x); err != nil {
				t.Fatalf("Push(%v): got %v", x, err)
			}
			if parts[j%2], err = bino.Push(parts[j%2], x); err != nil {
				t.Fatalf("Push(%v): got %v", x, err)
			}
		}
		both, err := bino.Meld(parts[0], parts[1])
		if err != nil {
			t.Fatalf("Meld(%v): got %v", parts, err)
		}
		for _, h := range [][]api.Tree{whole, both} {
			got := drained(t, h)
			rises := slices.IsSortedFunc(got, func(a, b api.Item) int { return a.Key - b.Key })
			if !rises || !slices.Equal(byBoth(got), byBoth(all)) {
				t.Errorf("%v: drained as %v", all, got)
			}
		}
	}
}

// TestWrong: P1, P3: with an error every other result is 0 or empty.
func TestWrong(t *testing.T) {
	for name, c := range wrong() {
		a, err := bino.Meld(c.h, nil)
		fails(t, "Meld of a, "+name, err, c.want)
		b, err := bino.Meld(nil, c.h)
		fails(t, "Meld of b, "+name, err, c.want)
		p, err := bino.Push(c.h, api.Item{Key: 5, Id: 6})
		fails(t, "Push, "+name, err, c.want)
		x, q, err := bino.Pop(c.h)
		fails(t, "Pop, "+name, err, c.want)
		if len(a) != 0 || len(b) != 0 || len(p) != 0 || len(q) != 0 || x != (api.Item{}) {
			t.Errorf("%s: got %v, %v, %v, %v, %v beside an error", name, a, b, p, x, q)
		}
	}
	for _, none := range [][]api.Tree{nil, {}, sized(3)[:0]} {
		x, rest, err := bino.Pop(none)
		fails(t, "Pop of none", err, api.ErrNone)
		if x != (api.Item{}) || len(rest) != 0 {
			t.Errorf("Pop of none: got %v, %v beside an error", x, rest)
		}
	}
}

// roomy gives a heap with memory behind its length and behind that of each list of items, and all of that memory.
func roomy(h []api.Tree) (heap, all []api.Tree) {
	all = slices.Concat(h, sized(7), ranked(-1, 0))
	heap = all[:len(h)]
	full := []api.Tree{}
	for i := range all {
		items := slices.Concat(all[i].Items, []api.Item{{Key: -77, Id: 1}, {Key: math.MinInt, Id: -2}})
		full = append(full, api.Tree{Rank: all[i].Rank, Items: items})
		all[i].Items = items[:len(all[i].Items)]
	}
	return heap, full
}

// inOne gives a heap whose lists of items lie one behind the other in one memory, each open towards the next.
func inOne(h []api.Tree) []api.Tree {
	items := []api.Item{}
	for _, t := range h {
		items = append(items, t.Items...)
	}
	out := []api.Tree{}
	at := 0
	for _, t := range h {
		out = append(out, api.Tree{Rank: t.Rank, Items: items[at : at+len(t.Items)]})
		at += len(t.Items)
	}
	return out
}

// spoilItems writes over items and all that lies behind them in their memory.
func spoilItems(l []api.Item) {
	l = l[:cap(l)]
	for i := range l {
		l[i] = api.Item{Key: 123456, Id: 654321}
	}
}

// spoil writes over a heap, its items, and all that lies behind them.
func spoil(h []api.Tree) {
	h = h[:cap(h)]
	for i := range h {
		spoilItems(h[i].Items)
		h[i] = api.Tree{Rank: 77}
	}
}

// calls: all that answer a heap.
func calls() map[string]func(h []api.Tree) ([]api.Tree, error) {
	three := keyed(1, 2, 3)
	return map[string]func(h []api.Tree) ([]api.Tree, error){
		"Meld as a":         func(h []api.Tree) ([]api.Tree, error) { return bino.Meld(h, made(three)) },
		"Meld as b":         func(h []api.Tree) ([]api.Tree, error) { return bino.Meld(made(three), h) },
		"Meld with none":    func(h []api.Tree) ([]api.Tree, error) { return bino.Meld(h, nil) },
		"Meld of none":      func(h []api.Tree) ([]api.Tree, error) { return bino.Meld(nil, h) },
		"Meld with itself":  func(h []api.Tree) ([]api.Tree, error) { return bino.Meld(h, h) },
		"Push of the least": func(h []api.Tree) ([]api.Tree, error) { return bino.Push(h, api.Item{Key: -keyTop}) },
		"Push":              func(h []api.Tree) ([]api.Tree, error) { return bino.Push(h, api.Item{Key: keyTop}) },
		"Pop": func(h []api.Tree) ([]api.Tree, error) {
			_, rest, err := bino.Pop(h)
			return rest, err
		},
	}
}

// TestNothingChanged: P2, P4: no list is written into, nor what stands behind it, with an error or without.
func TestNothingChanged(t *testing.T) {
	tried := heaps()
	for _, c := range wrong() {
		if len(c.h) <= most && count(c.h) <= 1<<11 {
			tried = append(tried, c.h)
		}
	}
	for _, h := range tried {
		in, all := roomy(h)
		before, long := clone(all), in[:cap(in)]
		outer := slices.Clone(long)
		bino.Check(in)
		for name, call := range calls() {
			got, err := call(in)
			bare, bareErr := call(slices.Clip(clone(h)))
			if !same(all, before) || !same(long, outer) {
				t.Fatalf("%s of %v: changed to %v", name, h, all)
			}
			if plain.Told(err) != plain.Told(bareErr) || !same(got, bare) {
				t.Errorf("%s of %v: what lies behind it shows: got %v, want %v", name, h, got, bare)
			}
		}
	}
}

// TestFresh: P2: an answer and what was handed in may be written into, and neither shows in the other, nor in later answers.
func TestFresh(t *testing.T) {
	for _, h := range heaps() {
		for name, call := range calls() {
			in, all := roomy(h)
			before, long := clone(all), in[:cap(in)]
			outer := slices.Clone(long)
			first, _ := call(in)
			kept := clone(first)
			second, _ := call(in)
			spoil(first)
			if !same(all, before) || !same(long, outer) {
				t.Errorf("%s: an answer shares memory with %v", name, h)
			}
			if !same(second, kept) {
				t.Errorf("%s of %v: two answers share memory", name, h)
			}
			spoil(in)
			if !same(second, kept) {
				t.Errorf("%s of %v: got %v, then %v", name, h, kept, second)
			}
		}
	}
}

// TestFreshTrees: P2: no two lists of items of one answer share memory, though those handed in do.
func TestFreshTrees(t *testing.T) {
	for _, h := range long() {
		for name, call := range calls() {
			in := inOne(h)
			got, _ := call(in)
			if !same(in, h) {
				t.Fatalf("%s: %v changed to %v", name, h, in)
			}
			kept := clone(got)
			for i := range got {
				spoilItems(got[i].Items)
				if !same(got[i+1:], kept[i+1:]) || !same(in, h) {
					t.Fatalf("%s of %v: its trees share memory", name, h)
				}
			}
			// The other way round: what is spoilt behind must not show ahead.
			again, _ := call(in)
			for i := range slices.Backward(again) {
				spoilItems(again[i].Items)
				if !same(again[:i], kept[:i]) {
					t.Fatalf("%s of %v: its trees share memory", name, h)
				}
			}
		}
	}
}
