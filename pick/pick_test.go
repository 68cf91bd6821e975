package pick_test

import (
	"math"
	"slices"
	"testing"

	"rickstead/api"
	"rickstead/order"
	"rickstead/pick"
	"rickstead/plain"
)

// The document's numbers are written out here, so that a change of package api is seen too.
const (
	most   = 60
	keyTop = 1000000
)

// keyed makes items whose ids tell where they stood.
func keyed(keys ...int) []api.Item {
	l := []api.Item{}
	for i, k := range keys {
		l = append(l, api.Item{Key: k, Id: i})
	}
	return l
}

// rising makes so many items, each of a greater key than the one before.
func rising(many int) []api.Item {
	l := []api.Item{}
	for i := range many {
		l = append(l, api.Item{Key: i, Id: i})
	}
	return l
}

// falling is rising, the other way round.
func falling(many int) []api.Item {
	l := rising(many)
	slices.Reverse(l)
	return l
}

// alike makes so many items of one key, whose ids fall.
func alike(many int) []api.Item {
	l := []api.Item{}
	for i := range many {
		l = append(l, api.Item{Key: 7, Id: many - i})
	}
	return l
}

// mixed makes so many items of few keys, from a rule that a seed starts.
func mixed(seed, many, keys int) []api.Item {
	l := []api.Item{}
	for i := range many {
		seed = (seed*1103515245 + 12345) % (1 << 31)
		l = append(l, api.Item{Key: (seed>>8)%keys - keys/2, Id: i})
	}
	return l
}

// short makes all lists of up to so many items with keys from 0 to 2.
func short(many int) [][]api.Item {
	all := [][]api.Item{{}}
	for from := 0; len(all[from]) < many; from++ {
		for k := range 3 {
			l := slices.Clone(all[from])
			all = append(all, append(l, api.Item{Key: k, Id: len(l)}))
		}
	}
	return all
}

// lists makes what ordinary calls are tried with, the edges among them.
func lists() [][]api.Item {
	all := short(6)
	for i := range 200 {
		all = append(all, mixed(i, i%(most+1), 3+i))
	}
	return append(all, nil, rising(most), falling(most), falling(most-1), alike(most), mixed(1, most, 5),
		keyed(keyTop), keyed(-keyTop), keyed(keyTop, -keyTop, 0, keyTop, -keyTop),
		[]api.Item{{Key: 0, Id: keyTop}, {Key: 0, Id: 0}, {Key: -1, Id: keyTop}},
		[]api.Item{{Key: 1, Id: 4}, {Key: 0, Id: 4}, {Key: 1, Id: 4}, {Key: 1, Id: 4}})
}

// keys makes what a list is asked by: each of its keys, those beside them, and numbers far from all of them.
func keys(l []api.Item) []int {
	all := []int{0, -keyTop, keyTop, -keyTop - 1, keyTop + 1, math.MinInt, math.MinInt + 1, math.MaxInt - 1, math.MaxInt,
		math.MinInt32, math.MaxInt32, -1 << 32, 1 << 32, 1<<32 + 1}
	for _, x := range l {
		all = append(all, x.Key-1, x.Key, x.Key+1)
	}
	slices.Sort(all)
	return slices.Compact(all)
}

// places that are none of a list with so many items.
func noPlaces(many int) []int {
	return []int{-1, -2, -many - 1, -1 << 32, math.MinInt, math.MinInt + 1,
		many, many + 1, 1 << 32, math.MaxInt - 1, math.MaxInt}
}

// faulty: lists that chapter 1's Check refuses, and why.
func faulty() map[string]struct {
	l    []api.Item
	want api.Errno
} {
	type row = struct {
		l    []api.Item
		want api.Errno
	}
	behind := func(x api.Item) []api.Item { return append(rising(most-1), x) }
	both := rising(most + 1)
	both[0].Key = keyTop + 1
	both[most].Id = -1
	return map[string]row{
		"61 items":               {rising(most + 1), api.ErrFull},
		"61 items alike":         {alike(most + 1), api.ErrFull},
		"very many items":        {make([]api.Item, 1<<20), api.ErrFull},
		"61 items, out of range": {both, api.ErrFull},
		"key above":              {[]api.Item{{Key: keyTop + 1}}, api.ErrRange},
		"key below":              {[]api.Item{{Key: -keyTop - 1}}, api.ErrRange},
		"key greatest":           {[]api.Item{{Key: math.MaxInt}}, api.ErrRange},
		"key least":              {[]api.Item{{Key: math.MinInt}}, api.ErrRange},
		"id above":               {[]api.Item{{Id: keyTop + 1}}, api.ErrRange},
		"id below":               {[]api.Item{{Id: -1}}, api.ErrRange},
		"id greatest":            {[]api.Item{{Id: math.MaxInt}}, api.ErrRange},
		"id least":               {[]api.Item{{Id: math.MinInt}}, api.ErrRange},
		"last key of 60":         {behind(api.Item{Key: keyTop + 1}), api.ErrRange},
		"last id of 60":          {behind(api.Item{Key: keyTop, Id: -1}), api.ErrRange},
		"a key behind":           {keyed(2, 1, -keyTop-1, 0), api.ErrRange},
	}
}

// fails wants an error that is or wraps an Errno other than OK, or nil where OK is wanted.
func fails(t *testing.T, what string, err error, want api.Errno) {
	t.Helper()
	if (err == nil) != (want == api.OK) || plain.Told(err) != want {
		t.Errorf("%s: got error %v, want %v", what, err, want)
	}
}

// kept gives the items of which something is true, as they stand.
func kept(l []api.Item, is func(key int) bool) []api.Item {
	return slices.DeleteFunc(slices.Clone(l), func(x api.Item) bool { return !is(x.Key) })
}

// aheadOf counts the items that come ahead of the one at a place: lesser ones, and those alike that stand ahead.
func aheadOf(l []api.Item, at int) int {
	many := 0
	for i, x := range l {
		if x.Key < l[at].Key || x.Key == l[at].Key && i < at {
			many++
		}
	}
	return many
}

// TestParts: 6.1: all lists by all keys, held against three that are picked one by one.
func TestParts(t *testing.T) {
	for _, l := range lists() {
		for _, key := range keys(l) {
			below, same, above, err := pick.Parts(l, key)
			if err != nil ||
				!slices.Equal(below, kept(l, func(k int) bool { return k < key })) ||
				!slices.Equal(same, kept(l, func(k int) bool { return k == key })) ||
				!slices.Equal(above, kept(l, func(k int) bool { return k > key })) {
				t.Errorf("Parts(%v, %d): got %v, %v, %v, %v", l, key, below, same, above, err)
			}
		}
	}
}

// TestPartsByHand: 6.1: the edges, written out.
func TestPartsByHand(t *testing.T) {
	l := []api.Item{{Key: 4, Id: 9}, {Key: 2, Id: 8}, {Key: 4, Id: 1}, {Key: 6, Id: 3}, {Key: 1, Id: 5}, {Key: 2, Id: 0}, {Key: 5, Id: 2}}
	for name, c := range map[string]struct {
		l                  []api.Item
		key                int
		below, same, above []api.Item
	}{
		"none":     {nil, 0, nil, nil, nil},
		"one, it":  {keyed(3), 3, nil, keyed(3), nil},
		"one less": {keyed(3), 4, keyed(3), nil, nil},
		"one more": {keyed(3), 2, nil, nil, keyed(3)},
		"two of a key": {l, 4, []api.Item{{Key: 2, Id: 8}, {Key: 1, Id: 5}, {Key: 2, Id: 0}},
			[]api.Item{{Key: 4, Id: 9}, {Key: 4, Id: 1}}, []api.Item{{Key: 6, Id: 3}, {Key: 5, Id: 2}}},
		"no such key": {l, 3, []api.Item{{Key: 2, Id: 8}, {Key: 1, Id: 5}, {Key: 2, Id: 0}}, nil,
			[]api.Item{{Key: 4, Id: 9}, {Key: 4, Id: 1}, {Key: 6, Id: 3}, {Key: 5, Id: 2}}},
		"all above":        {l, 0, nil, nil, l},
		"all below":        {l, 7, l, nil, nil},
		"far below all":    {l, math.MinInt, nil, nil, l},
		"far above all":    {l, math.MaxInt, l, nil, nil},
		"60 alike":         {alike(most), 7, nil, alike(most), nil},
		"at the low bound": {keyed(-keyTop, keyTop), -keyTop, nil, keyed(-keyTop), []api.Item{{Key: keyTop, Id: 1}}},
		"just below it":    {keyed(-keyTop, keyTop), -keyTop - 1, nil, nil, keyed(-keyTop, keyTop)},
		"just above both":  {keyed(-keyTop, keyTop), keyTop + 1, keyed(-keyTop, keyTop), nil, nil},
	} {
		below, same, above, err := pick.Parts(c.l, c.key)
		if err != nil || !slices.Equal(below, c.below) || !slices.Equal(same, c.same) || !slices.Equal(above, c.above) {
			t.Errorf("%s: got %v, %v, %v, %v, want %v, %v, %v", name, below, same, above, err, c.below, c.same, c.above)
		}
	}
}

// TestNth: 6.1: each item is found at the place that counting gives it, and so Sort has it there.
func TestNth(t *testing.T) {
	for _, l := range lists() {
		sorted, err := order.Sort(l)
		if err != nil || len(sorted) != len(l) {
			t.Fatalf("Sort(%v): got %v, %v", l, sorted, err)
		}
		for at, want := range l {
			n := aheadOf(l, at)
			if got, err := pick.Nth(l, n); err != nil || got != want || got != sorted[n] {
				t.Errorf("Nth(%v, %d): got %v, %v, want %v", l, n, got, err, want)
			}
		}
	}
}

// TestNthByHand: 6.1: keys that are alike come as they stood, whatever their ids.
func TestNthByHand(t *testing.T) {
	l := []api.Item{{Key: 4, Id: 9}, {Key: 2, Id: 8}, {Key: 4, Id: 1}, {Key: 2, Id: 0}, {Key: -1, Id: 5}, {Key: 4, Id: 3}}
	for name, c := range map[string]struct {
		l    []api.Item
		want []api.Item
	}{
		"one":      {[]api.Item{{Key: 3, Id: 2}}, []api.Item{{Key: 3, Id: 2}}},
		"several":  {l, []api.Item{{Key: -1, Id: 5}, {Key: 2, Id: 8}, {Key: 2, Id: 0}, {Key: 4, Id: 9}, {Key: 4, Id: 1}, {Key: 4, Id: 3}}},
		"60 alike": {alike(most), alike(most)},
		"60 down":  {falling(most), rising(most)},
		"bounds":   {keyed(keyTop, -keyTop), []api.Item{{Key: -keyTop, Id: 1}, {Key: keyTop, Id: 0}}},
	} {
		for n, want := range c.want {
			if got, err := pick.Nth(c.l, n); err != nil || got != want {
				t.Errorf("%s: Nth(%d): got %v, %v, want %v", name, n, got, err, want)
			}
		}
	}
}

// TestNthNoPlace: 6.1: places below 0 and behind the last one, also of an empty list.
func TestNthNoPlace(t *testing.T) {
	for _, l := range lists() {
		for _, n := range noPlaces(len(l)) {
			got, err := pick.Nth(l, n)
			if plain.Told(err) != api.ErrRange || got != (api.Item{}) {
				t.Errorf("Nth(%v, %d): got %v, %v", l, n, got, err)
			}
		}
	}
	for _, none := range [][]api.Item{nil, {}, rising(3)[:0]} {
		got, err := pick.Nth(none, 0)
		fails(t, "Nth of none", err, api.ErrRange)
		if got != (api.Item{}) {
			t.Errorf("Nth of none: got %v beside an error", got)
		}
	}
}

// TestRank: 6.1: where the key would stand first among the sorted keys.
func TestRank(t *testing.T) {
	for _, l := range lists() {
		sorted := []int{}
		for _, x := range l {
			sorted = append(sorted, x.Key)
		}
		slices.Sort(sorted)
		for _, key := range keys(l) {
			want, _ := slices.BinarySearch(sorted, key)
			if got, err := pick.Rank(l, key); err != nil || got != want {
				t.Errorf("Rank(%v, %d): got %v, %v, want %d", l, key, got, err, want)
			}
		}
	}
}

// TestRankByHand: 6.1: the edges, written out.
func TestRankByHand(t *testing.T) {
	l := keyed(4, 2, 4, 6, -1, 2)
	for name, c := range map[string]struct {
		l         []api.Item
		key, want int
	}{
		"none":             {nil, 5, 0},
		"none, greatest":   {nil, math.MaxInt, 0},
		"one, it":          {keyed(3), 3, 0},
		"one less":         {keyed(3), 4, 1},
		"one more":         {keyed(3), 2, 0},
		"least key":        {l, -1, 0},
		"two of a key":     {l, 2, 1},
		"two and one":      {l, 3, 3},
		"two and two":      {l, 4, 3},
		"greatest key":     {l, 6, 5},
		"above all":        {l, 7, 6},
		"below all":        {l, -2, 0},
		"far above all":    {l, math.MaxInt, 6},
		"far below all":    {l, math.MinInt, 0},
		"60 alike, it":     {alike(most), 7, 0},
		"60 alike, above":  {alike(most), 8, most},
		"at the top":       {keyed(keyTop, -keyTop), keyTop, 1},
		"beyond the top":   {keyed(keyTop, -keyTop), keyTop + 1, 2},
		"beyond the other": {keyed(keyTop, -keyTop), -keyTop - 1, 0},
	} {
		if got, err := pick.Rank(c.l, c.key); err != nil || got != c.want {
			t.Errorf("%s: got %v, %v, want %d", name, got, err, c.want)
		}
	}
}

// TestTogether: 6.1: Rank counts what Parts has below, and there Nth finds what Parts has, one behind the other.
func TestTogether(t *testing.T) {
	for _, l := range lists() {
		for _, key := range keys(l) {
			below, same, _, _ := pick.Parts(l, key)
			rank, _ := pick.Rank(l, key)
			if rank != len(below) {
				t.Errorf("%v, %d: Rank %d, and below %v", l, key, rank, below)
			}
			for i, want := range same {
				if got, err := pick.Nth(l, rank+i); err != nil || got != want {
					t.Errorf("Nth(%v, %d): got %v, %v, want %v", l, rank+i, got, err, want)
				}
			}
		}
	}
}

// TestFaulty: P1, P3: what is wrong with the items is told, whatever key or place is asked; every other result is 0 or empty.
func TestFaulty(t *testing.T) {
	for name, c := range faulty() {
		for _, key := range keys(nil) {
			below, same, above, err := pick.Parts(c.l, key)
			fails(t, "Parts, "+name, err, c.want)
			rank, err := pick.Rank(c.l, key)
			fails(t, "Rank, "+name, err, c.want)
			if len(below) != 0 || len(same) != 0 || len(above) != 0 || rank != 0 {
				t.Errorf("%s, %d: answers beside an error: %v %v %v %v", name, key, below, same, above, rank)
			}
		}
		for _, n := range append(noPlaces(len(c.l)), 0, len(c.l)-1) {
			got, err := pick.Nth(c.l, n)
			fails(t, "Nth, "+name, err, c.want)
			if got != (api.Item{}) {
				t.Errorf("%s: Nth(%d): got %v beside an error", name, n, got)
			}
		}
	}
}

// roomy gives a list with memory behind its length, and all of that memory.
func roomy(l []api.Item) (list, all []api.Item) {
	all = slices.Concat(l, []api.Item{{Key: 1, Id: 1}, {Key: -78, Id: -2}, {Key: math.MinInt, Id: 3}})
	return all[:len(l)], all
}

// spoil writes over a list and all that lies behind it in its memory.
func spoil(l []api.Item) {
	l = l[:cap(l)]
	for i := range l {
		l[i] = api.Item{Key: 123456, Id: 654321}
	}
}

// TestNothingChanged: P2, P4: no list is written into, with an error or without, and what lies behind it is neither written nor read.
func TestNothingChanged(t *testing.T) {
	tried := append(lists(), keyed(2, 1, keyTop+1), falling(most+1))
	for _, l := range tried {
		in, all := roomy(l)
		before := slices.Clone(all)
		for _, key := range keys(l) {
			pick.Parts(in, key)
			pick.Rank(in, key)
		}
		for _, n := range append(noPlaces(len(l)), 0, len(l)-1, len(l)/2) {
			pick.Nth(in, n)
		}
		below, same, above, _ := pick.Parts(in, 1)
		rank, _ := pick.Rank(in, 1)
		a, b, c, _ := pick.Parts(slices.Clip(slices.Clone(l)), 1)
		if !slices.Equal(all, before) {
			t.Errorf("%v: changed to %v", l, all)
		}
		if !slices.Equal(below, a) || !slices.Equal(same, b) || !slices.Equal(above, c) || rank != len(a) {
			t.Errorf("%v: what lies behind it shows: %v %v %v %d", l, below, same, above, rank)
		}
	}
}

// partsOf gives the parts of a list as a list.
func partsOf(l []api.Item, key int) [][]api.Item {
	below, same, above, _ := pick.Parts(l, key)
	return [][]api.Item{below, same, above}
}

// TestFresh: P2: each part may be written into, and so may what was handed in; neither shows in the other, nor in other parts, nor in other answers.
func TestFresh(t *testing.T) {
	for _, l := range lists() {
		for _, key := range keys(l) {
			for spoiled := range 3 {
				in, all := roomy(l)
				before := slices.Clone(all)
				first, second := partsOf(in, key), partsOf(in, key)
				want := [][]api.Item{slices.Clone(first[0]), slices.Clone(first[1]), slices.Clone(first[2])}
				spoil(first[spoiled])
				if !slices.Equal(all, before) {
					t.Errorf("Parts(%v, %d): part %d shares memory with what was handed in", l, key, spoiled)
				}
				spoil(in)
				for i := range 3 {
					if i != spoiled && !slices.Equal(first[i], want[i]) || !slices.Equal(second[i], want[i]) {
						t.Errorf("Parts(%v, %d): part %d shows what was written elsewhere", l, key, i)
					}
				}
			}
		}
	}
}
