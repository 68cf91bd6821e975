package lean_test

import (
	"math"
	"slices"
	"strconv"
	"testing"

	"rickstead/api"
	"rickstead/lean"
	"rickstead/plain"
)

// The document's numbers are written out here, so that a change of package api is seen too.
const (
	most   = 60
	keyTop = 1000000
)

// node is a tree by pointers; it has no spine written down: that is counted anew each time.
type node struct {
	item        api.Item
	left, right *node
}

func (n *node) spine() int {
	many := 0
	for ; n != nil; n = n.right {
		many++
	}
	return many
}

func (n *node) size() int {
	if n == nil {
		return 0
	}
	return 1 + n.left.size() + n.right.size()
}

// list writes a tree whose first node is to stand at a place.
func (n *node) list(at int) []api.Node {
	if n == nil {
		return []api.Node{}
	}
	root := api.Node{Key: n.item.Key, Id: n.item.Id, Left: -1, Right: -1}
	behind := at + 1 + n.left.size()
	if n.left != nil {
		root.Left = at + 1
	}
	if n.right != nil {
		root.Right = behind
	}
	return slices.Concat([]api.Node{root}, n.left.list(at+1), n.right.list(behind))
}

// grown makes the tree of a list that is known to be a leaning heap.
func grown(l []api.Node, at int) *node {
	if at < 0 || len(l) == 0 {
		return nil
	}
	return &node{api.Item{Key: l[at].Key, Id: l[at].Id}, grown(l, l[at].Left), grown(l, l[at].Right)}
}

// melded melds in another way than the program: the nodes of both spines are brought into one row by their keys,
// and then hung up from the last one on.
func melded(a, b *node) *node {
	row := []*node{}
	for ; a != nil; a = a.right {
		row = append(row, a)
	}
	for ; b != nil; b = b.right {
		row = append(row, b)
	}
	slices.SortStableFunc(row, func(x, y *node) int { return x.item.Key - y.item.Key })
	var top *node
	for _, n := range slices.Backward(row) {
		n.right = top
		if n.left.spine() < n.right.spine() {
			n.left, n.right = n.right, n.left
		}
		top = n
	}
	return top
}

// meld is what Meld is to answer.
func meld(a, b []api.Node) []api.Node {
	return melded(grown(a, 0), grown(b, 0)).list(0)
}

// single is the heap of one item.
func single(x api.Item) []api.Node {
	return []api.Node{{Key: x.Key, Id: x.Id, Left: -1, Right: -1}}
}

// pushed makes a heap of items, one by one.
func pushed(items []api.Item) []api.Node {
	l := []api.Node{}
	for _, x := range items {
		l = meld(l, single(x))
	}
	return l
}

// chain is a heap of so many nodes, each below the left of the one before.
func chain(many int) []api.Node {
	l := make([]api.Node, many)
	for i := range l {
		l[i] = api.Node{Key: i, Id: many - i, Left: i + 1, Right: -1}
	}
	if many > 0 {
		l[many-1].Left = -1
	}
	return l
}

// full is a tree of so many rows without a gap: no spine is longer for its size.
func full(rows, key int) *node {
	if rows == 0 {
		return nil
	}
	return &node{api.Item{Key: key, Id: rows}, full(rows-1, key+1), full(rows-1, key+2)}
}

// mixed makes so many items of few keys, from a rule that a seed starts.
func mixed(seed, many, keys int) []api.Item {
	l := []api.Item{}
	for i := range many {
		seed = (seed*1103515245 + 12345) % (1 << 31)
		l = append(l, api.Item{Key: (seed>>8)%keys - keys/2, Id: i})
	}
	return l
}

// leaning makes all trees of so many nodes that are leaning heaps with keys from a number up to another one.
func leaning(many, from, to int) []*node {
	if many == 0 {
		return []*node{nil}
	}
	all := []*node{}
	for key := from; key <= to; key++ {
		for inLeft := range many {
			for _, left := range leaning(inLeft, key, to) {
				for _, right := range leaning(many-1-inLeft, key, to) {
					if left.spine() >= right.spine() {
						all = append(all, &node{api.Item{Key: key, Id: 10*many + key}, left, right})
					}
				}
			}
		}
	}
	return all
}

// short makes all heaps of up to so many nodes with keys from 0 to 2; ids tell where a node stood.
func short(many int) [][]api.Node {
	all := [][]api.Node{}
	for n := range many + 1 {
		for _, tree := range leaning(n, 0, 2) {
			l := tree.list(0)
			for i := range l {
				l[i].Id = 10*n + i
			}
			all = append(all, l)
		}
	}
	return all
}

// long makes heaps of up to 60 nodes, the edges among them.
func long() [][]api.Node {
	all := [][]api.Node{nil, {}, chain(1), chain(2), chain(most - 1), chain(most),
		full(1, 0).list(0), full(2, 0).list(0), full(3, -3).list(0), full(4, 0).list(0), full(5, -9).list(0),
		single(api.Item{Key: keyTop, Id: keyTop}), single(api.Item{Key: -keyTop, Id: 0}),
		pushed([]api.Item{{Key: keyTop, Id: 0}, {Key: -keyTop, Id: keyTop}, {Key: 0, Id: 1}, {Key: keyTop, Id: 1}}),
	}
	for i := range most + 1 {
		all = append(all, pushed(mixed(i, i, 1+i%7)), pushed(mixed(i, i, 2*keyTop+1)))
	}
	// Not by pushing alone: melds of greater ones have other forms.
	for i := range most/2 + 1 {
		all = append(all, meld(pushed(mixed(i+1, i, 5)), pushed(mixed(i+2, most/2, 5))))
	}
	return all
}

// heaps makes what ordinary calls are tried with.
func heaps() [][]api.Node { return slices.Concat(short(4), long()) }

// fails wants an error that is or wraps an Errno other than OK, or nil where OK is wanted.
func fails(t *testing.T, what string, err error, want api.Errno) {
	t.Helper()
	if (err == nil) != (want == api.OK) || plain.Told(err) != want {
		t.Errorf("%s: got error %v, want %v", what, err, want)
	}
}

// row: a list that is refused, and why.
type row struct {
	l    []api.Node
	want api.Errno
}

// changed is a chain of which one node is another one.
func changed(many, at int, n api.Node) []api.Node {
	l := chain(many)
	l[at] = n
	return l
}

// faulty: lists with too many nodes, or with numbers that may not be.
func faulty() map[string]row {
	one := func(key, id int) []api.Node { return []api.Node{{Key: key, Id: id, Left: -1, Right: -1}} }
	return map[string]row{
		"61 nodes":                    {chain(most + 1), api.ErrFull},
		"63 nodes":                    {full(6, 0).list(0), api.ErrFull},
		"61 nodes, out of range":      {changed(most+1, 0, api.Node{Key: keyTop + 1, Left: 1, Right: -1}), api.ErrFull},
		"61 nodes, written otherwise": {changed(most+1, 0, api.Node{Left: -9, Right: 7}), api.ErrFull},
		"very many nodes":             {make([]api.Node, 1<<20), api.ErrFull},
		"key above":                   {one(keyTop+1, 0), api.ErrRange},
		"key below":                   {one(-keyTop-1, 0), api.ErrRange},
		"key greatest":                {one(math.MaxInt, 0), api.ErrRange},
		"key least":                   {one(math.MinInt, 0), api.ErrRange},
		"id above":                    {one(0, keyTop+1), api.ErrRange},
		"id below":                    {one(0, -1), api.ErrRange},
		"id greatest":                 {one(0, math.MaxInt), api.ErrRange},
		"id least":                    {one(0, math.MinInt), api.ErrRange},
		"last key of 60":              {changed(most, most-1, api.Node{Key: keyTop + 1, Left: -1, Right: -1}), api.ErrRange},
		"last id of 60":               {changed(most, most-1, api.Node{Key: most, Id: -1, Left: -1, Right: -1}), api.ErrRange},
		"out of range, key falls":     {changed(2, 1, api.Node{Key: -keyTop - 1, Left: -1, Right: -1}), api.ErrRange},
		"out of range behind a place outside": {
			[]api.Node{{Left: 7, Right: -1}, {Id: -1, Left: -1, Right: -1}}, api.ErrRange},
		"out of range in no tree": {
			[]api.Node{{Left: -1, Right: -1}, {Key: keyTop + 1, Left: -1, Right: -1}}, api.ErrRange},
		"out of range, not leaning": {
			[]api.Node{{Left: -1, Right: 1}, {Id: keyTop + 1, Left: -1, Right: -1}}, api.ErrRange},
	}
}

// places makes a list of nodes of one key, from where their left and right parts are said to begin.
func places(pairs ...[2]int) []api.Node {
	l := []api.Node{}
	for i, p := range pairs {
		l = append(l, api.Node{Key: 1, Id: i, Left: p[0], Right: p[1]})
	}
	return l
}

// withKeys gives nodes their keys.
func withKeys(l []api.Node, keys ...int) []api.Node {
	for i, k := range keys {
		l[i].Key = k
	}
	return l
}

// unshaped: lists that are no leaning heaps.
func unshaped() map[string]row {
	none := [2]int{-1, -1}
	all := map[string][]api.Node{
		"left -2":                   places([2]int{-2, -1}),
		"right -2":                  places([2]int{-1, -2}),
		"left greatest":             places([2]int{math.MaxInt, -1}),
		"left least":                places([2]int{math.MinInt, -1}),
		"right greatest":            places([2]int{1, math.MaxInt}, none),
		"right least":               places([2]int{1, math.MinInt}, none),
		"left behind the list":      places([2]int{1, -1}),
		"right behind the list":     places([2]int{1, 2}, none),
		"left at the root":          places([2]int{0, -1}),
		"right at the root":         places([2]int{1, 0}, none),
		"both at the root":          places([2]int{0, 0}),
		"a circle of two":           places([2]int{1, -1}, [2]int{0, -1}),
		"a circle by itself":        places([2]int{1, -1}, [2]int{1, -1}),
		"a circle to the right":     places([2]int{1, 2}, none, [2]int{-1, 2}),
		"two roots":                 places(none, none),
		"three, one of them alone":  places([2]int{1, -1}, none, none),
		"alone in the middle":       places([2]int{2, -1}, none, none),
		"alone ahead of the right":  places([2]int{1, 3}, none, none, none),
		"the last one alone":        places([2]int{1, 2}, none, none, none),
		"a part twice":              places([2]int{1, 1}, none),
		"a part twice, three":       places([2]int{1, 1}, [2]int{2, -1}, none),
		"one node below two":        places([2]int{1, 3}, [2]int{2, 3}, none, none),
		"one below two, no circle":  places([2]int{1, 2}, [2]int{2, -1}, none),
		"right ahead of left":       places([2]int{2, 1}, none, none),
		"right within the left":     places([2]int{1, 2}, [2]int{2, -1}, none, none),
		"no left":                   places([2]int{-1, 1}, none),
		"no left deep down":         places([2]int{1, -1}, [2]int{-1, 2}, none),
		"no left to the right":      places([2]int{1, 2}, none, [2]int{-1, 3}, none),
		"left spine 1, right 2":     places([2]int{1, 2}, none, [2]int{3, 4}, none, none),
		"greater left, less spine":  places([2]int{1, 4}, [2]int{2, -1}, [2]int{3, -1}, none, [2]int{5, 6}, none, none),
		"left key falls":            withKeys(places([2]int{1, -1}, none), 1, 0),
		"right key falls":           withKeys(places([2]int{1, 2}, none, none), 1, 1, 0),
		"left key falls of two":     withKeys(places([2]int{1, 2}, none, none), 1, 0, 1),
		"falls at the bounds":       withKeys(places([2]int{1, -1}, none), keyTop, -keyTop),
		"falls deep down":           withKeys(places([2]int{1, -1}, [2]int{2, -1}, none), 0, 2, 1),
		"falls deep, to the right":  withKeys(places([2]int{1, 2}, none, [2]int{3, -1}, none), 0, 2, 2, 1),
		"row by row, as in a list":  places([2]int{1, 2}, [2]int{3, 4}, none, none, none),
		"all zero":                  make([]api.Node, 3),
		"all -1, 60 nodes":          places(slices.Repeat([][2]int{none}, most)...),
		"last of 60 goes on":        changed(most, most-1, api.Node{Key: most, Left: most, Right: -1}),
		"last of 60 back to 0":      changed(most, most-1, api.Node{Key: most, Left: 0, Right: -1}),
		"first of 60 is alone":      changed(most, 0, api.Node{Left: -1, Right: -1}),
		"first of 60 to the right":  changed(most, 0, api.Node{Left: -1, Right: 1}),
		"two behind each of 60":     twice(most),
		"key falls at the last one": changed(most, most-1, api.Node{Key: most - 3, Left: -1, Right: -1}),
	}
	rows := map[string]row{}
	for name, l := range all {
		rows[name] = row{l, api.ErrShape}
	}
	for at := 1; at < most; at++ {
		l := chain(most)
		l[at].Key -= 2
		rows["key falls at "+strconv.Itoa(at)] = row{l, api.ErrShape}
	}
	return rows
}

// twice names each part both left and right: whoever follows both goes 2 to the 60 steps.
func twice(many int) []api.Node {
	l := chain(many)
	for i := range l {
		l[i].Right = l[i].Left
	}
	return l
}

// TestCheck: 3.1, P3.
func TestCheck(t *testing.T) {
	for _, l := range heaps() {
		if err := lean.Check(l); err != nil {
			t.Errorf("Check(%v): got %v", l, err)
		}
	}
	for _, rows := range []map[string]row{faulty(), unshaped()} {
		for name, c := range rows {
			fails(t, name, lean.Check(c.l), c.want)
		}
	}
}

// next counts on: the last number first, each from a number on up to another one; false after the last way.
func next(digits []int, from, to int) bool {
	for i := range slices.Backward(digits) {
		if digits[i] < to {
			digits[i]++
			return true
		}
		digits[i] = from
	}
	return false
}

// allPlaces calls with all lists of so many nodes whose places are from a number up to another one.
func allPlaces(many, from, to int, f func(l []api.Node)) {
	digits := slices.Repeat([]int{from}, 2*many)
	l := make([]api.Node, many)
	for more := true; more; more = next(digits, from, to) {
		for i := range l {
			l[i] = api.Node{Left: digits[2*i], Right: digits[2*i+1]}
		}
		f(l)
	}
}

// TestCheckAllShapes: 3.1: of all lists of few nodes those are heaps that are written from a leaning tree, and no others.
func TestCheckAllShapes(t *testing.T) {
	for _, c := range []struct{ many, from, to int }{{1, -3, 3}, {2, -3, 4}, {3, -2, 4}, {4, -1, 4}} {
		good := map[[4]api.Node]bool{}
		for _, tree := range leaning(c.many, 0, 0) {
			good[keyOf(tree.list(0))] = true
		}
		found := 0
		allPlaces(c.many, c.from, c.to, func(l []api.Node) {
			is := good[keyOf(l)]
			err := lean.Check(l)
			if (err == nil) != is || !is && plain.Told(err) != api.ErrShape {
				t.Fatalf("Check(%v): got %v, while that it is a heap is %v", l, err, is)
			}
			if is {
				found++
			}
		})
		if found != len(good) || found == 0 {
			t.Errorf("%d nodes: %d heaps tried, want %d", c.many, found, len(good))
		}
	}
}

// keyOf brings up to four nodes into a form that maps have; ids are left out.
func keyOf(l []api.Node) [4]api.Node {
	var k [4]api.Node
	copy(k[:], l)
	for i := range k {
		k[i].Id = 0
	}
	return k
}

// TestCheckAllKeys: 3.1: each heap of few nodes, with all keys from 0 to 2.
func TestCheckAllKeys(t *testing.T) {
	for many := 1; many <= 4; many++ {
		good := map[[4]api.Node]bool{}
		for _, tree := range leaning(many, 0, 2) {
			good[keyOf(tree.list(0))] = true
		}
		for _, tree := range leaning(many, 0, 0) {
			keys := make([]int, many)
			for more := true; more; more = next(keys, 0, 2) {
				l := withKeys(tree.list(0), keys...)
				want := api.ErrShape
				if good[keyOf(l)] {
					want = api.OK
				}
				fails(t, "keys "+strconv.Itoa(many), lean.Check(l), want)
			}
		}
	}
}

// TestSpine: 3.1.
func TestSpine(t *testing.T) {
	for _, l := range heaps() {
		if got, err := lean.Spine(l); err != nil || got != grown(l, 0).spine() {
			t.Errorf("Spine(%v): got %v, %v, want %v", l, got, err, grown(l, 0).spine())
		}
	}
	for _, c := range []struct {
		l    []api.Node
		want int
	}{{nil, 0}, {[]api.Node{}, 0}, {chain(1), 1}, {chain(2), 1}, {chain(most), 1}, {full(2, 0).list(0), 2}, {full(5, 0).list(0), 5}} {
		if got, err := lean.Spine(c.l); err != nil || got != c.want {
			t.Errorf("Spine(%v): got %v, %v, want %v", c.l, got, err, c.want)
		}
	}
}

// checkMeld holds Meld against the other way.
func checkMeld(t *testing.T, a, b []api.Node) {
	t.Helper()
	got, err := lean.Meld(a, b)
	if len(a)+len(b) > most {
		fails(t, "Meld of "+strconv.Itoa(len(a))+" and "+strconv.Itoa(len(b)), err, api.ErrFull)
		if len(got) != 0 {
			t.Errorf("Meld(%v, %v): got %v beside an error", a, b, got)
		}
		return
	}
	if want := meld(a, b); err != nil || !slices.Equal(got, want) {
		t.Errorf("Meld(%v, %v): got %v, %v, want %v", a, b, got, err, want)
	}
	if err := lean.Check(got); err != nil {
		t.Errorf("Meld(%v, %v): %v is no heap: %v", a, b, got, err)
	}
}

// TestMeld: 3.2.
func TestMeld(t *testing.T) {
	for _, group := range [][][]api.Node{short(3), long()} {
		for _, a := range group {
			for _, b := range group {
				checkMeld(t, a, b)
			}
		}
	}
}

// TestMeldByHand: 3.2: what is told in words, each by one small meld.
func TestMeldByHand(t *testing.T) {
	two := func(key, id int) []api.Node {
		return []api.Node{{Key: key, Id: id, Left: 1, Right: -1}, {Key: key, Id: id + 1, Left: -1, Right: -1}}
	}
	three := func(key, id int) []api.Node {
		return []api.Node{{Key: key, Id: id, Left: 1, Right: 2}, {Key: key, Id: id + 1, Left: -1, Right: -1}, {Key: key, Id: id + 2, Left: -1, Right: -1}}
	}
	for name, c := range map[string]struct{ a, b, want []api.Node }{
		"both missing":       {nil, []api.Node{}, nil},
		"the first missing":  {nil, two(3, 4), two(3, 4)},
		"the second missing": {two(3, 4), nil, two(3, 4)},
		// The first one's root, and what is melded into it changes places with the missing left part.
		"roots alike": {single(api.Item{Key: 1, Id: 1}), single(api.Item{Key: 1, Id: 2}),
			[]api.Node{{Key: 1, Id: 1, Left: 1, Right: -1}, {Key: 1, Id: 2, Left: -1, Right: -1}}},
		"the second is less": {single(api.Item{Key: 1, Id: 1}), single(api.Item{Key: 0, Id: 2}),
			[]api.Node{{Key: 0, Id: 2, Left: 1, Right: -1}, {Key: 1, Id: 1, Left: -1, Right: -1}}},
		// Spines 1 and 1: no change of places.
		"spines alike": {two(1, 10), single(api.Item{Key: 1, Id: 20}),
			[]api.Node{{Key: 1, Id: 10, Left: 1, Right: 2}, {Key: 1, Id: 11, Left: -1, Right: -1}, {Key: 1, Id: 20, Left: -1, Right: -1}}},
		"spines alike, second less": {single(api.Item{Key: 2, Id: 20}), two(1, 10),
			[]api.Node{{Key: 1, Id: 10, Left: 1, Right: 2}, {Key: 1, Id: 11, Left: -1, Right: -1}, {Key: 2, Id: 20, Left: -1, Right: -1}}},
		// The right part of the second is alike with the first tree: that stays the first one.
		"alike below the second": {single(api.Item{Key: 1, Id: 9}),
			withKeys(three(0, 20), 0, 1, 1),
			[]api.Node{{Key: 0, Id: 20, Left: 1, Right: 2}, {Key: 1, Id: 21, Left: -1, Right: -1},
				{Key: 1, Id: 9, Left: 3, Right: -1}, {Key: 1, Id: 22, Left: -1, Right: -1}}},
		// The right part becomes a tree of spine 2 and goes to the left.
		"parts change places": {two(0, 10), three(0, 20),
			[]api.Node{{Key: 0, Id: 10, Left: 1, Right: 4}, {Key: 0, Id: 20, Left: 2, Right: 3}, {Key: 0, Id: 21, Left: -1, Right: -1},
				{Key: 0, Id: 22, Left: -1, Right: -1}, {Key: 0, Id: 11, Left: -1, Right: -1}}},
	} {
		if got, err := lean.Meld(c.a, c.b); err != nil || !slices.Equal(got, c.want) {
			t.Errorf("%s: got %v, %v, want %v", name, got, err, c.want)
		}
	}
}

// TestMeldFull: 3.2: 60 nodes in both are melded, 61 are not.
func TestMeldFull(t *testing.T) {
	for in := range most + 1 {
		got, err := lean.Meld(chain(in), chain(most-in))
		if err != nil || len(got) != most {
			t.Errorf("Meld of %d and %d: got %d nodes, %v", in, most-in, len(got), err)
		}
		got, err = lean.Meld(chain(in), chain(most - in)[:0])
		if err != nil || len(got) != in {
			t.Errorf("Meld of %d and none: got %d nodes, %v", in, len(got), err)
		}
		if in == 0 {
			continue
		}
		got, err = lean.Meld(chain(in), chain(most+1-in))
		fails(t, "Meld of 61 in both", err, api.ErrFull)
		if len(got) != 0 {
			t.Errorf("Meld of 61 in both: got %v beside an error", got)
		}
	}
}

// TestMeldFirstFault: 3.2, P3: what is wrong with a, then with b, then whether there is room.
func TestMeldFirstFault(t *testing.T) {
	wrong := []row{
		{chain(most + 1), api.ErrFull},
		{single(api.Item{Key: keyTop + 1}), api.ErrRange},
		{changed(most, most-1, api.Node{Id: -1, Left: -1, Right: -1}), api.ErrRange},
		{places([2]int{0, 0}), api.ErrShape},
		{twice(most), api.ErrShape},
	}
	meldFails := func(a, b []api.Node, want api.Errno) {
		t.Helper()
		got, err := lean.Meld(a, b)
		fails(t, "Meld", err, want)
		if len(got) != 0 {
			t.Errorf("Meld(%v, %v): got %v beside an error", a, b, got)
		}
	}
	for _, first := range wrong {
		for _, good := range [][]api.Node{nil, chain(1), chain(most)} {
			meldFails(first.l, good, first.want)
			meldFails(good, first.l, first.want)
		}
		for _, second := range wrong {
			meldFails(first.l, second.l, first.want)
		}
	}
}

// items: what is pushed: below, among and above the keys of heaps, and at the bounds.
func items() []api.Item {
	all := []api.Item{{Key: keyTop, Id: keyTop}, {Key: -keyTop, Id: 0}}
	for k := -1; k <= 3; k++ {
		all = append(all, api.Item{Key: k, Id: 99})
	}
	return all
}

// TestPush: 3.2.
func TestPush(t *testing.T) {
	for _, l := range heaps() {
		for _, x := range items() {
			got, err := lean.Push(l, x)
			if len(l) == most {
				fails(t, "Push to 60", err, api.ErrFull)
				if len(got) != 0 {
					t.Errorf("Push(%v, %v): got %v beside an error", l, x, got)
				}
				continue
			}
			if want := meld(l, single(x)); err != nil || !slices.Equal(got, want) {
				t.Errorf("Push(%v, %v): got %v, %v, want %v", l, x, got, err, want)
			}
		}
	}
	// The heap is the first one: what is alike to its root goes below it.
	want := []api.Node{{Key: 4, Id: 1, Left: 1, Right: -1}, {Key: 4, Id: 2, Left: -1, Right: -1}}
	if got, err := lean.Push(single(api.Item{Key: 4, Id: 1}), api.Item{Key: 4, Id: 2}); err != nil || !slices.Equal(got, want) {
		t.Errorf("Push of one alike: got %v, %v, want %v", got, err, want)
	}
}

// TestPushFirstFault: 3.2, P3: the heap first, then the item, then whether there is room.
func TestPushFirstFault(t *testing.T) {
	for _, x := range []api.Item{
		{Key: keyTop + 1}, {Key: -keyTop - 1}, {Key: math.MaxInt}, {Key: math.MinInt},
		{Id: keyTop + 1}, {Id: -1}, {Id: math.MaxInt}, {Id: math.MinInt},
	} {
		for name, c := range map[string]row{
			"none":     {nil, api.ErrRange},
			"59 nodes": {chain(most - 1), api.ErrRange},
			"60 nodes": {chain(most), api.ErrRange},
			"61 nodes": {chain(most + 1), api.ErrFull},
			"no heap":  {places([2]int{0, 0}), api.ErrShape},
		} {
			got, err := lean.Push(c.l, x)
			fails(t, "Push, "+name, err, c.want)
			if len(got) != 0 {
				t.Errorf("Push(%v), %s: got %v beside an error", x, name, got)
			}
		}
	}
	for name, c := range map[string]row{
		"59 nodes":          {chain(most - 1), api.OK},
		"60 nodes":          {chain(most), api.ErrFull},
		"60 nodes, no heap": {twice(most), api.ErrShape},
	} {
		_, err := lean.Push(c.l, api.Item{})
		fails(t, "Push, "+name, err, c.want)
	}
}

// TestPop: 3.2.
func TestPop(t *testing.T) {
	for _, l := range heaps() {
		x, got, err := lean.Pop(l)
		if len(l) == 0 {
			fails(t, "Pop of none", err, api.ErrNone)
			if x != (api.Item{}) || len(got) != 0 {
				t.Errorf("Pop of none: got %v, %v beside an error", x, got)
			}
			continue
		}
		root := grown(l, 0)
		if want := melded(root.left, root.right).list(0); err != nil || x != root.item || !slices.Equal(got, want) {
			t.Errorf("Pop(%v): got %v, %v, %v, want %v, %v", l, x, got, err, root.item, want)
		}
	}
	// The left part is the first one: of two alike its root goes up.
	l := []api.Node{{Key: 0, Id: 1, Left: 1, Right: 2}, {Key: 3, Id: 2, Left: -1, Right: -1}, {Key: 3, Id: 3, Left: -1, Right: -1}}
	want := []api.Node{{Key: 3, Id: 2, Left: 1, Right: -1}, {Key: 3, Id: 3, Left: -1, Right: -1}}
	if x, got, err := lean.Pop(l); err != nil || x != (api.Item{Key: 0, Id: 1}) || !slices.Equal(got, want) {
		t.Errorf("Pop(%v): got %v, %v, %v, want %v", l, x, got, err, want)
	}
}

// drained pops till there is none.
func drained(t *testing.T, l []api.Node) []api.Item {
	t.Helper()
	out := []api.Item{}
	for len(l) > 0 {
		x, rest, err := lean.Pop(l)
		if err != nil || len(rest) != len(l)-1 || lean.Check(rest) != nil {
			t.Fatalf("Pop(%v): got %v, %v, %v", l, x, rest, err)
		}
		out, l = append(out, x), rest
	}
	return out
}

// byBoth sorts by key, and then by id, so that what two lists have in them can be held against each other.
func byBoth(l []api.Item) []api.Item {
	l = slices.Clone(l)
	slices.SortFunc(l, func(a, b api.Item) int {
		if a.Key != b.Key {
			return a.Key - b.Key
		}
		return a.Id - b.Id
	})
	return l
}

// TestDrained: 3.2: what is pushed one by one, or melded from two, comes out by its keys, each item once.
func TestDrained(t *testing.T) {
	for i := range 3 * most {
		all := mixed(i, i%(most+1), 2+i%50)
		var whole []api.Node
		parts := [2][]api.Node{}
		var err error
		for j, x := range all {
			if whole, err = lean.Push(whole, x); err != nil {
				t.Fatalf("Push(%v): got %v", x, err)
			}
			if parts[j%2], err = lean.Push(parts[j%2], x); err != nil {
				t.Fatalf("Push(%v): got %v", x, err)
			}
		}
		both, err := lean.Meld(parts[0], parts[1])
		if err != nil {
			t.Fatalf("Meld(%v): got %v", parts, err)
		}
		for _, l := range [][]api.Node{whole, both} {
			got := drained(t, l)
			rises := slices.IsSortedFunc(got, func(a, b api.Item) int { return a.Key - b.Key })
			if !rises || !slices.Equal(byBoth(got), byBoth(all)) {
				t.Errorf("%v: drained as %v", all, got)
			}
		}
	}
}

// TestFaulty: P1, P3: with an error every other result is 0 or empty.
func TestFaulty(t *testing.T) {
	for _, rows := range []map[string]row{faulty(), unshaped()} {
		for name, c := range rows {
			spine, err := lean.Spine(c.l)
			fails(t, "Spine, "+name, err, c.want)
			a, err := lean.Meld(c.l, nil)
			fails(t, "Meld of a, "+name, err, c.want)
			b, err := lean.Meld(nil, c.l)
			fails(t, "Meld of b, "+name, err, c.want)
			p, err := lean.Push(c.l, api.Item{Key: 5, Id: 6})
			fails(t, "Push, "+name, err, c.want)
			x, q, err := lean.Pop(c.l)
			fails(t, "Pop, "+name, err, c.want)
			if spine != 0 || len(a) != 0 || len(b) != 0 || len(p) != 0 || len(q) != 0 || x != (api.Item{}) {
				t.Errorf("%s: got %v, %v, %v, %v, %v, %v beside an error", name, spine, a, b, p, x, q)
			}
		}
	}
	for _, none := range [][]api.Node{nil, {}, chain(3)[:0]} {
		x, rest, err := lean.Pop(none)
		fails(t, "Pop of none", err, api.ErrNone)
		if x != (api.Item{}) || len(rest) != 0 {
			t.Errorf("Pop of none: got %v, %v beside an error", x, rest)
		}
	}
}

// roomy gives a list with memory behind its length, and all of that memory.
func roomy(l []api.Node) (list, all []api.Node) {
	all = slices.Concat(l, []api.Node{{Key: -77, Id: 1, Left: -1, Right: -1}, {Key: -78, Id: -2, Left: 1, Right: 3}, {Key: math.MinInt}})
	return all[:len(l)], all
}

// spoil writes over a list and all that lies behind it in its memory.
func spoil(l []api.Node) {
	l = l[:cap(l)]
	for i := range l {
		l[i] = api.Node{Key: 123456, Id: 654321, Left: 7, Right: 8}
	}
}

// calls: all that answer a list.
func calls() map[string]func(l []api.Node) ([]api.Node, error) {
	return map[string]func(l []api.Node) ([]api.Node, error){
		"Meld as a":         func(l []api.Node) ([]api.Node, error) { return lean.Meld(l, chain(3)) },
		"Meld as b":         func(l []api.Node) ([]api.Node, error) { return lean.Meld(chain(3), l) },
		"Meld with none":    func(l []api.Node) ([]api.Node, error) { return lean.Meld(l, nil) },
		"Meld of none":      func(l []api.Node) ([]api.Node, error) { return lean.Meld(nil, l) },
		"Meld with itself":  func(l []api.Node) ([]api.Node, error) { return lean.Meld(l, l) },
		"Push of the least": func(l []api.Node) ([]api.Node, error) { return lean.Push(l, api.Item{Key: -keyTop}) },
		"Push":              func(l []api.Node) ([]api.Node, error) { return lean.Push(l, api.Item{Key: keyTop}) },
		"Pop": func(l []api.Node) ([]api.Node, error) {
			_, rest, err := lean.Pop(l)
			return rest, err
		},
	}
}

// TestNothingChanged: P2, P4: no list is written into, nor what stands behind it, with an error or without.
func TestNothingChanged(t *testing.T) {
	tried := heaps()
	for _, rows := range []map[string]row{faulty(), unshaped()} {
		for _, c := range rows {
			if len(c.l) <= 2*most {
				tried = append(tried, c.l)
			}
		}
	}
	for _, l := range tried {
		in, all := roomy(l)
		before := slices.Clone(all)
		lean.Check(in)
		lean.Spine(in)
		for name, call := range calls() {
			got, err := call(in)
			bare, bareErr := call(slices.Clip(slices.Clone(l)))
			if !slices.Equal(all, before) {
				t.Fatalf("%s of %v: changed to %v", name, l, all)
			}
			if plain.Told(err) != plain.Told(bareErr) || !slices.Equal(got, bare) {
				t.Errorf("%s of %v: what lies behind it shows: got %v, want %v", name, l, got, bare)
			}
		}
	}
}

// TestFresh: P2: an answer and what was handed in may be written into, and neither shows in the other, nor in later answers.
func TestFresh(t *testing.T) {
	for _, l := range heaps() {
		for name, call := range calls() {
			in, all := roomy(l)
			before := slices.Clone(all)
			first, _ := call(in)
			kept := slices.Clone(first)
			second, _ := call(in)
			spoil(first)
			if !slices.Equal(all, before) {
				t.Errorf("%s: an answer shares memory with %v", name, l)
			}
			if !slices.Equal(second, kept) {
				t.Errorf("%s of %v: two answers share memory", name, l)
			}
			spoil(in)
			if !slices.Equal(second, kept) {
				t.Errorf("%s of %v: got %v, then %v", name, l, kept, second)
			}
		}
	}
}
