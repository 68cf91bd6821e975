package heap_test

import (
	"math"
	"slices"
	"strconv"
	"testing"

	"rickstead/api"
	"rickstead/heap"
	"rickstead/plain"
)

// The document's numbers are written out here, so that a change of package api is seen too.
const (
	most   = 60
	keyTop = 1000000
)

// keyed makes items whose ids tell where they stood.
func keyed(keys ...int) []api.Item {
	l := []api.Item{}
	for i, k := range keys {
		l = append(l, api.Item{Key: k, Id: i})
	}
	return l
}

// rising makes so many items, each of a greater key than the one before: a heap.
func rising(many int) []api.Item {
	l := []api.Item{}
	for i := range many {
		l = append(l, api.Item{Key: i, Id: i})
	}
	return l
}

// falling is rising, the other way round.
func falling(many int) []api.Item {
	l := rising(many)
	slices.Reverse(l)
	return l
}

// mixed makes so many items of few keys, from a rule that a seed starts.
func mixed(seed, many, keys int) []api.Item {
	l := []api.Item{}
	for i := range many {
		seed = (seed*1103515245 + 12345) % (1 << 31)
		l = append(l, api.Item{Key: (seed>>8)%keys - keys/2, Id: i})
	}
	return l
}

// short makes all lists of up to so many items with keys from 0 to 2.
func short(many int) [][]api.Item {
	all := [][]api.Item{{}}
	for from := 0; len(all[from]) < many; from++ {
		for k := range 3 {
			l := slices.Clone(all[from])
			all = append(all, append(l, api.Item{Key: k, Id: len(l)}))
		}
	}
	return all
}

// lists makes what ordinary calls are tried with, the edges among them.
func lists() [][]api.Item {
	all := short(7)
	for i := range 200 {
		all = append(all, mixed(i, i%(most+1), 3+i))
	}
	same := make([]api.Item, most)
	for i := range same {
		same[i] = api.Item{Key: 7, Id: most - i}
	}
	return append(all, nil, rising(most), falling(most), falling(most-1), same, mixed(1, most, 5),
		keyed(keyTop, -keyTop, 0, keyTop, -keyTop),
		[]api.Item{{Key: 0, Id: keyTop}, {Key: 0, Id: 0}, {Key: -1, Id: keyTop}})
}

// tree is a heap by pointers: another way than the program's.
type tree struct {
	item        api.Item
	left, right *tree
}

// planted makes the tree whose top is the item at a place.
func planted(l []api.Item, at int) *tree {
	if at >= len(l) {
		return nil
	}
	return &tree{l[at], planted(l, 2*at+1), planted(l, 2*at+2)}
}

// levels brings a tree into a list: row by row, each from the left.
func (t *tree) levels() []api.Item {
	out := []api.Item{}
	for row := []*tree{t}; len(row) > 0; {
		next := []*tree{}
		for _, n := range row {
			if n != nil {
				out = append(out, n.item)
				next = append(next, n.left, n.right)
			}
		}
		row = next
	}
	return out
}

// isHeap tells whether no item is less than the one above it.
func (t *tree) isHeap() bool {
	if t == nil {
		return true
	}
	for _, n := range []*tree{t.left, t.right} {
		if n != nil && n.item.Key < t.item.Key {
			return false
		}
	}
	return t.left.isHeap() && t.right.isHeap()
}

// sunk sinks the item at the top.
func (t *tree) sunk() {
	if t == nil || t.left == nil {
		return
	}
	least := t.left
	if t.right != nil && t.right.item.Key < t.left.item.Key {
		least = t.right
	}
	if least.item.Key < t.item.Key {
		t.item, least.item = least.item, t.item
		least.sunk()
	}
}

// heaped sinks all: both sides first, as what is sunk stays under its place.
func (t *tree) heaped() {
	if t != nil {
		t.left.heaped()
		t.right.heaped()
		t.sunk()
	}
}

// made is what Make is to answer.
func made(l []api.Item) []api.Item {
	t := planted(l, 0)
	t.heaped()
	return t.levels()
}

// pushed is what Push is to answer: all the greater ones on the way from the new place up move down by one.
func pushed(l []api.Item, x api.Item) []api.Item {
	out := append(slices.Clone(l), x)
	way := []int{}
	for at := len(l) + 1; at > 0; at /= 2 { // counted from 1 on, halves lead up
		way = append(way, at-1)
	}
	at := 1
	for at < len(way) && out[way[at]].Key > x.Key {
		out[way[at-1]] = out[way[at]]
		at++
	}
	out[way[at-1]] = x
	return out
}

// popped is what Pop is to leave.
func popped(l []api.Item) []api.Item {
	last := len(l) - 1
	t := planted(l[:last], 0)
	if t != nil {
		t.item = l[last]
		t.sunk()
	}
	return t.levels()
}

// heaps makes heaps of all that ordinary calls are tried with: what is made, and what is one as it stands.
func heaps() [][]api.Item {
	all := [][]api.Item{}
	for _, l := range lists() {
		if planted(l, 0).isHeap() {
			all = append(all, l)
		} else {
			all = append(all, made(l))
		}
	}
	return all
}

// items: what is pushed: below, among and above the keys of lists, and at the bounds.
func items() []api.Item {
	all := []api.Item{{Key: keyTop, Id: keyTop}, {Key: -keyTop, Id: 0}}
	for k := -1; k <= 3; k++ {
		all = append(all, api.Item{Key: k, Id: 99})
	}
	return all
}

// fails wants an error that is or wraps an Errno other than OK, or nil where OK is wanted.
func fails(t *testing.T, what string, err error, want api.Errno) {
	t.Helper()
	if (err == nil) != (want == api.OK) || plain.Told(err) != want {
		t.Errorf("%s: got error %v, want %v", what, err, want)
	}
}

// row: a list that is refused, and why.
type row struct {
	l    []api.Item
	want api.Errno
}

// faulty: lists that chapter 1's Check refuses.
func faulty() map[string]row {
	behind := func(x api.Item) []api.Item { return append(rising(most-1), x) }
	both := rising(most + 1)
	both[0].Key = keyTop + 1
	both[most].Id = -1
	return map[string]row{
		"61 items":               {rising(most + 1), api.ErrFull},
		"61 items, no heap":      {falling(most + 1), api.ErrFull},
		"very many items":        {make([]api.Item, 1<<20), api.ErrFull},
		"61 items, out of range": {both, api.ErrFull},
		"key above":              {[]api.Item{{Key: keyTop + 1}}, api.ErrRange},
		"key below":              {[]api.Item{{Key: -keyTop - 1}}, api.ErrRange},
		"key greatest":           {[]api.Item{{Key: math.MaxInt}}, api.ErrRange},
		"key least":              {[]api.Item{{Key: math.MinInt}}, api.ErrRange},
		"id above":               {[]api.Item{{Id: keyTop + 1}}, api.ErrRange},
		"id below":               {[]api.Item{{Id: -1}}, api.ErrRange},
		"id greatest":            {[]api.Item{{Id: math.MaxInt}}, api.ErrRange},
		"id least":               {[]api.Item{{Id: math.MinInt}}, api.ErrRange},
		"last key of 60":         {behind(api.Item{Key: keyTop + 1}), api.ErrRange},
		"last id of 60":          {behind(api.Item{Key: keyTop, Id: -1}), api.ErrRange},
		"out of range, no heap":  {keyed(2, 1, keyTop+1, 0), api.ErrRange},
		"one below, no heap":     {keyed(2, 3, -keyTop-1), api.ErrRange},
	}
}

// unshaped: lists that are no heaps, each by one item alone.
func unshaped() map[string]row {
	all := map[string]row{
		"one below, less":      {keyed(1, 0), api.ErrShape},
		"the left one is less": {keyed(1, 0, 1), api.ErrShape},
		"the right one less":   {keyed(1, 1, 0), api.ErrShape},
		"at the bounds":        {keyed(keyTop, -keyTop), api.ErrShape},
	}
	for at := 1; at < most; at++ {
		l := rising(most)
		l[at].Key = l[(at-1)/2].Key - 1
		all["less at "+strconv.Itoa(at)] = row{l, api.ErrShape}
	}
	return all
}

// TestCheck: 2.1.
func TestCheck(t *testing.T) {
	for _, l := range lists() {
		want := api.OK
		if !planted(l, 0).isHeap() {
			want = api.ErrShape
		}
		if err := heap.Check(l); plain.Told(err) != want || (err == nil) != (want == api.OK) {
			t.Errorf("Check(%v): got %v, want %v", l, err, want)
		}
	}
	for _, l := range heaps() {
		if err := heap.Check(l); err != nil {
			t.Errorf("Check(%v): got %v", l, err)
		}
	}
	for _, rows := range []map[string]row{faulty(), unshaped()} {
		for name, c := range rows {
			fails(t, name, heap.Check(c.l), c.want)
		}
	}
}

// TestMake: 2.1.
func TestMake(t *testing.T) {
	for _, l := range lists() {
		got, err := heap.Make(l)
		if want := made(l); err != nil || !slices.Equal(got, want) {
			t.Errorf("Make(%v): got %v, %v, want %v", l, got, err, want)
		}
	}
	for _, c := range []struct{ l, want []api.Item }{
		{keyed(), keyed()},
		{keyed(4), keyed(4)},
		{keyed(2, 1), []api.Item{{Key: 1, Id: 1}, {Key: 2, Id: 0}}},
		{keyed(1, 1, 1), keyed(1, 1, 1)},
		// Of two alike below the one at the lesser place goes up.
		{keyed(2, 1, 1), []api.Item{{Key: 1, Id: 1}, {Key: 2, Id: 0}, {Key: 1, Id: 2}}},
		{keyed(3, 2, 1), []api.Item{{Key: 1, Id: 2}, {Key: 2, Id: 1}, {Key: 3, Id: 0}}},
		// Place 1 has one below it; then 0 sinks by two rows.
		{keyed(9, 5, 7, 2), []api.Item{{Key: 2, Id: 3}, {Key: 5, Id: 1}, {Key: 7, Id: 2}, {Key: 9, Id: 0}}},
		// From the front on this would end otherwise.
		{keyed(3, 2, 1, 0), []api.Item{{Key: 0, Id: 3}, {Key: 2, Id: 1}, {Key: 1, Id: 2}, {Key: 3, Id: 0}}},
	} {
		if got, err := heap.Make(c.l); err != nil || !slices.Equal(got, c.want) {
			t.Errorf("Make(%v): got %v, %v, want %v", c.l, got, err, c.want)
		}
	}
}

// TestPush: 2.2.
func TestPush(t *testing.T) {
	for _, l := range heaps() {
		for _, x := range items() {
			got, err := heap.Push(l, x)
			if len(l) == most {
				fails(t, "Push to 60", err, api.ErrFull)
				if len(got) != 0 {
					t.Errorf("Push(%v, %v): got %v beside an error", l, x, got)
				}
				continue
			}
			if want := pushed(l, x); err != nil || !slices.Equal(got, want) {
				t.Errorf("Push(%v, %v): got %v, %v, want %v", l, x, got, err, want)
			}
		}
	}
	// One that is alike to the one above it stays below.
	l := []api.Item{{Key: 1, Id: 5}, {Key: 2, Id: 6}}
	want := []api.Item{{Key: 1, Id: 5}, {Key: 2, Id: 6}, {Key: 1, Id: 7}}
	if got, err := heap.Push(l, api.Item{Key: 1, Id: 7}); err != nil || !slices.Equal(got, want) {
		t.Errorf("Push(%v): got %v, %v, want %v", l, got, err, want)
	}
}

// TestPop: 2.2.
func TestPop(t *testing.T) {
	for _, l := range heaps() {
		x, got, err := heap.Pop(l)
		if len(l) == 0 {
			fails(t, "Pop of none", err, api.ErrNone)
			if x != (api.Item{}) || len(got) != 0 {
				t.Errorf("Pop of none: got %v, %v beside an error", x, got)
			}
			continue
		}
		if want := popped(l); err != nil || x != l[0] || !slices.Equal(got, want) {
			t.Errorf("Pop(%v): got %v, %v, %v, want %v, %v", l, x, got, err, l[0], want)
		}
	}
	// Of two alike below the one at the lesser place goes up.
	l := []api.Item{{Key: 0, Id: 1}, {Key: 1, Id: 2}, {Key: 1, Id: 3}, {Key: 2, Id: 4}}
	want := []api.Item{{Key: 1, Id: 2}, {Key: 2, Id: 4}, {Key: 1, Id: 3}}
	if x, got, err := heap.Pop(l); err != nil || x != l[0] || !slices.Equal(got, want) {
		t.Errorf("Pop(%v): got %v, %v, %v, want %v, %v", l, x, got, err, l[0], want)
	}
}

// drained pops till there is none.
func drained(t *testing.T, l []api.Item) []api.Item {
	t.Helper()
	out := []api.Item{}
	for len(l) > 0 && len(out) < most {
		x, rest, err := heap.Pop(l)
		if err != nil || len(rest) != len(l)-1 {
			t.Fatalf("Pop(%v): got %v, %v, %v", l, x, rest, err)
		}
		out, l = append(out, x), rest
	}
	return out
}

// byBoth sorts by key, and then by id, so that what two lists have in them can be held against each other.
func byBoth(l []api.Item) []api.Item {
	l = slices.Clone(l)
	slices.SortFunc(l, func(a, b api.Item) int {
		if a.Key != b.Key {
			return a.Key - b.Key
		}
		return a.Id - b.Id
	})
	return l
}

// TestDrained: 2.1, 2.2: what is made, or pushed one by one, comes out by its keys, each item once.
func TestDrained(t *testing.T) {
	for _, l := range lists() {
		h, err := heap.Make(l)
		if err != nil {
			t.Fatalf("Make(%v): got %v", l, err)
		}
		var p []api.Item
		for _, x := range l {
			if p, err = heap.Push(p, x); err != nil {
				t.Fatalf("Push(%v): got %v", x, err)
			}
		}
		for _, got := range [][]api.Item{drained(t, h), drained(t, p)} {
			rises := slices.IsSortedFunc(got, func(a, b api.Item) int { return a.Key - b.Key })
			if !rises || !slices.Equal(byBoth(got), byBoth(l)) {
				t.Errorf("%v: drained as %v", l, got)
			}
		}
	}
}

// TestFaulty: P1, P3: with an error every other result is 0 or empty.
func TestFaulty(t *testing.T) {
	for name, c := range faulty() {
		got, err := heap.Make(c.l)
		fails(t, "Make, "+name, err, c.want)
		if len(got) != 0 {
			t.Errorf("Make, %s: got %v beside an error", name, got)
		}
	}
	for _, rows := range []map[string]row{faulty(), unshaped()} {
		for name, c := range rows {
			p, err := heap.Push(c.l, api.Item{Key: 5, Id: 6})
			fails(t, "Push, "+name, err, c.want)
			x, q, err := heap.Pop(c.l)
			fails(t, "Pop, "+name, err, c.want)
			if len(p) != 0 || len(q) != 0 || x != (api.Item{}) {
				t.Errorf("%s: got %v, %v, %v beside an error", name, p, x, q)
			}
		}
	}
	for _, none := range [][]api.Item{nil, {}, rising(3)[:0]} {
		x, rest, err := heap.Pop(none)
		fails(t, "Pop of none", err, api.ErrNone)
		if x != (api.Item{}) || len(rest) != 0 {
			t.Errorf("Pop of none: got %v, %v beside an error", x, rest)
		}
	}
}

// TestPushFirstFault: 2.2, P3: the heap first, then the item, then whether there is room.
func TestPushFirstFault(t *testing.T) {
	for _, x := range []api.Item{
		{Key: keyTop + 1}, {Key: -keyTop - 1}, {Key: math.MaxInt}, {Key: math.MinInt},
		{Id: keyTop + 1}, {Id: -1}, {Id: math.MaxInt}, {Id: math.MinInt},
	} {
		for name, c := range map[string]row{
			"none":              {nil, api.ErrRange},
			"59 items":          {rising(most - 1), api.ErrRange},
			"60 items":          {rising(most), api.ErrRange},
			"61 items":          {rising(most + 1), api.ErrFull},
			"no heap":           {keyed(2, 1), api.ErrShape},
			"60 items, no heap": {falling(most), api.ErrShape},
			"61 items, no heap": {falling(most + 1), api.ErrFull},
		} {
			got, err := heap.Push(c.l, x)
			fails(t, "Push, "+name, err, c.want)
			if len(got) != 0 {
				t.Errorf("Push(%v), %s: got %v beside an error", x, name, got)
			}
		}
	}
	good := api.Item{Key: 0, Id: 0}
	for name, c := range map[string]row{
		"59 items":          {rising(most - 1), api.OK},
		"60 items":          {rising(most), api.ErrFull},
		"60 items, no heap": {falling(most), api.ErrShape},
	} {
		_, err := heap.Push(c.l, good)
		fails(t, "Push, "+name, err, c.want)
	}
}

// roomy gives a list with memory behind its length, and all of that memory.
func roomy(l []api.Item) (list, all []api.Item) {
	all = slices.Concat(l, []api.Item{{Key: -77, Id: 1}, {Key: -78, Id: -2}, {Key: math.MinInt, Id: 3}})
	return all[:len(l)], all
}

// spoil writes over a list and all that lies behind it in its memory.
func spoil(l []api.Item) {
	l = l[:cap(l)]
	for i := range l {
		l[i] = api.Item{Key: 123456, Id: 654321}
	}
}

// calls: all that answer a list.
func calls() map[string]func(l []api.Item) ([]api.Item, error) {
	return map[string]func(l []api.Item) ([]api.Item, error){
		"Make":        heap.Make,
		"Push, least": func(l []api.Item) ([]api.Item, error) { return heap.Push(l, api.Item{Key: -keyTop}) },
		"Push":        func(l []api.Item) ([]api.Item, error) { return heap.Push(l, api.Item{Key: keyTop}) },
		"Pop": func(l []api.Item) ([]api.Item, error) {
			_, rest, err := heap.Pop(l)
			return rest, err
		},
	}
}

// TestNothingChanged: P2, P4: no list is written into, nor what stands behind it, with an error or without.
func TestNothingChanged(t *testing.T) {
	tried := slices.Concat(lists(), heaps(), [][]api.Item{keyed(2, 1, keyTop+1), falling(most + 1), rising(most + 1)})
	for _, l := range tried {
		in, all := roomy(l)
		before := slices.Clone(all)
		heap.Check(in)
		for name, call := range calls() {
			got, err := call(in)
			bare, bareErr := call(slices.Clip(slices.Clone(l)))
			if !slices.Equal(all, before) {
				t.Fatalf("%s of %v: changed to %v", name, l, all)
			}
			if err != bareErr || !slices.Equal(got, bare) {
				t.Errorf("%s of %v: what lies behind it shows: got %v, want %v", name, l, got, bare)
			}
		}
	}
}

// TestFresh: P2: an answer and what was handed in may be written into, and neither shows in the other, nor in later answers.
func TestFresh(t *testing.T) {
	for _, l := range heaps() {
		for name, call := range calls() {
			in, all := roomy(l)
			before := slices.Clone(all)
			first, _ := call(in)
			kept := slices.Clone(first)
			second, _ := call(in)
			spoil(first)
			if !slices.Equal(all, before) {
				t.Errorf("%s: an answer shares memory with %v", name, l)
			}
			spoil(in)
			if !slices.Equal(second, kept) {
				t.Errorf("%s of %v: got %v, then %v", name, l, kept, second)
			}
		}
	}
}
