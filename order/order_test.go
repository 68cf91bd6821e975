package order_test

import (
	"math"
	"slices"
	"testing"

	"rickstead/api"
	"rickstead/order"
	"rickstead/plain"
)

// The document's numbers are written out here, so that a change of package api is seen too.
const (
	most   = 60
	keyTop = 1000000
)

// keyed makes items whose ids tell where they stood.
func keyed(keys ...int) []api.Item {
	l := []api.Item{}
	for i, k := range keys {
		l = append(l, api.Item{Key: k, Id: i})
	}
	return l
}

// rising makes so many items, of keys from a number on.
func rising(from, many int) []api.Item {
	l := []api.Item{}
	for i := range many {
		l = append(l, api.Item{Key: from + i, Id: i})
	}
	return l
}

// falling is rising, the other way round.
func falling(many int) []api.Item {
	l := rising(0, many)
	slices.Reverse(l)
	return l
}

// mixed makes so many items of few keys, from a rule that a seed starts.
func mixed(seed, many, keys int) []api.Item {
	l := []api.Item{}
	for i := range many {
		seed = (seed*1103515245 + 12345) % (1 << 31)
		l = append(l, api.Item{Key: (seed>>8)%keys - keys/2, Id: i})
	}
	return l
}

// short makes all lists of up to so many items with keys from 0 to 2.
func short(many int) [][]api.Item {
	all := [][]api.Item{{}}
	for from := 0; len(all[from]) < many; from++ {
		for k := range 3 {
			l := slices.Clone(all[from])
			all = append(all, append(l, api.Item{Key: k, Id: len(l)}))
		}
	}
	return all
}

// lists makes what ordinary calls are tried with, the edges among them.
func lists() [][]api.Item {
	all := short(6)
	for i := range 100 {
		all = append(all, mixed(i, i%(most+1), 3+i))
	}
	same := make([]api.Item, most)
	for i := range same {
		same[i] = api.Item{Key: 7, Id: most - i}
	}
	return append(all, nil, rising(0, most), falling(most), same, mixed(1, most, 5),
		keyed(keyTop, -keyTop, 0, keyTop, -keyTop),
		[]api.Item{{Key: 0, Id: keyTop}, {Key: 0, Id: 0}, {Key: -1, Id: keyTop}})
}

// bySelection sorts in another way than the program: the first of the least keys goes, till none is left.
func bySelection(l []api.Item) []api.Item {
	rest, out := slices.Clone(l), []api.Item{}
	for len(rest) > 0 {
		at := 0
		for i := range rest {
			if rest[i].Key < rest[at].Key {
				at = i
			}
		}
		out = append(out, rest[at])
		rest = slices.Delete(rest, at, at+1)
	}
	return out
}

// fails wants an error that is or wraps an Errno other than OK, or nil where OK is wanted.
func fails(t *testing.T, what string, err error, want api.Errno) {
	t.Helper()
	if (err == nil) != (want == api.OK) || plain.Told(err) != want {
		t.Errorf("%s: got error %v, want %v", what, err, want)
	}
}

// faulty: lists that Check refuses, and why.
func faulty() map[string]struct {
	l    []api.Item
	want api.Errno
} {
	type row = struct {
		l    []api.Item
		want api.Errno
	}
	behind := func(x api.Item) []api.Item { return append(rising(0, most-1), x) }
	both := rising(0, most+1)
	both[0].Key = keyTop + 1
	both[most].Id = -1
	return map[string]row{
		"61 items":               {rising(0, most+1), api.ErrFull},
		"very many items":        {make([]api.Item, 1<<20), api.ErrFull},
		"61 items, out of range": {both, api.ErrFull},
		"key above":              {[]api.Item{{Key: keyTop + 1}}, api.ErrRange},
		"key below":              {[]api.Item{{Key: -keyTop - 1}}, api.ErrRange},
		"key greatest":           {[]api.Item{{Key: math.MaxInt}}, api.ErrRange},
		"key least":              {[]api.Item{{Key: math.MinInt}}, api.ErrRange},
		"id above":               {[]api.Item{{Id: keyTop + 1}}, api.ErrRange},
		"id below":               {[]api.Item{{Id: -1}}, api.ErrRange},
		"id greatest":            {[]api.Item{{Id: math.MaxInt}}, api.ErrRange},
		"id least":               {[]api.Item{{Id: math.MinInt}}, api.ErrRange},
		"last key of 60":         {behind(api.Item{Key: keyTop + 1}), api.ErrRange},
		"last id of 60":          {behind(api.Item{Key: keyTop, Id: -1}), api.ErrRange},
		"a key behind":           {keyed(2, 1, -keyTop-1, 0), api.ErrRange},
	}
}

// TestCheck: 1.1, P3.
func TestCheck(t *testing.T) {
	for _, l := range lists() {
		if err := order.Check(l); err != nil {
			t.Errorf("Check(%v): got %v", l, err)
		}
	}
	for name, c := range faulty() {
		fails(t, name, order.Check(c.l), c.want)
	}
}

// TestFaulty: with an error every other result is 0, false or empty (P1).
func TestFaulty(t *testing.T) {
	for name, c := range faulty() {
		s, err := order.Sort(c.l)
		fails(t, "Sort, "+name, err, c.want)
		is, err := order.Sorted(c.l)
		fails(t, "Sorted, "+name, err, c.want)
		many, err := order.Inversions(c.l)
		fails(t, "Inversions, "+name, err, c.want)
		m, err := order.Merge(c.l, nil)
		fails(t, "Merge of a, "+name, err, c.want)
		n, err := order.Merge(nil, c.l)
		fails(t, "Merge of b, "+name, err, c.want)
		if len(s) != 0 || is || many != 0 || len(m) != 0 || len(n) != 0 {
			t.Errorf("%s: answers beside an error: %v %v %v %v %v", name, s, is, many, m, n)
		}
	}
}

// TestSort: 1.1.
func TestSort(t *testing.T) {
	for _, l := range lists() {
		got, err := order.Sort(l)
		if want := bySelection(l); err != nil || !slices.Equal(got, want) {
			t.Errorf("Sort(%v): got %v, %v, want %v", l, got, err, want)
		}
	}
}

// TestSorted: 1.1.
func TestSorted(t *testing.T) {
	for _, l := range lists() {
		got, err := order.Sorted(l)
		if want := slices.Equal(l, bySelection(l)); err != nil || got != want {
			t.Errorf("Sorted(%v): got %v, %v, want %v", l, got, err, want)
		}
	}
	last := rising(0, most)
	last[most-1].Key = last[most-2].Key - 1
	for _, l := range [][]api.Item{keyed(1, 0), keyed(0, 1, 0), keyed(0, -1, 0), last} {
		if got, err := order.Sorted(l); got || err != nil {
			t.Errorf("Sorted(%v): got %v, %v", l, got, err)
		}
	}
}

// steps counts how often neighbours change places until none stands wrong: one for each inversion.
func steps(l []api.Item) int {
	l = slices.Clone(l)
	many := 0
	for end := len(l); end > 1; end-- {
		for i := 1; i < end; i++ {
			if l[i].Key < l[i-1].Key {
				l[i], l[i-1] = l[i-1], l[i]
				many++
			}
		}
	}
	return many
}

// TestInversions: 1.2.
func TestInversions(t *testing.T) {
	for _, l := range lists() {
		got, err := order.Inversions(l)
		if want := steps(l); err != nil || got != want {
			t.Errorf("Inversions(%v): got %v, %v, want %v", l, got, err, want)
		}
	}
	for want, l := range map[int][]api.Item{
		0: keyed(4, 4, 4), 2: keyed(3, 1, 2), 3: keyed(3, 2, 1), 4: keyed(2, 2, 1, 1), 1770: falling(most),
	} {
		if got, err := order.Inversions(l); got != want || err != nil {
			t.Errorf("Inversions(%v): got %v, %v, want %v", l, got, err, want)
		}
	}
}

// relabelled has ids that tell the items of b from those of a.
func relabelled(b []api.Item) []api.Item {
	b = slices.Clone(b)
	for i := range b {
		b[i].Id += 100
	}
	return b
}

// TestMerge: 1.2: all pairs of short lists, and some of long ones.
func TestMerge(t *testing.T) {
	all := append(short(4), nil, rising(-30, 30), bySelection(mixed(3, 30, 5)), bySelection(mixed(4, 30, 50)))
	for _, a := range all {
		for _, b := range all {
			b := relabelled(b)
			got, err := order.Merge(a, b)
			if !slices.Equal(a, bySelection(a)) || !slices.Equal(b, bySelection(b)) {
				fails(t, "Merge of what is not sorted", err, api.ErrShape)
				if len(got) != 0 {
					t.Errorf("Merge(%v, %v): got %v beside an error", a, b, got)
				}
				continue
			}
			if want := bySelection(slices.Concat(a, b)); err != nil || !slices.Equal(got, want) {
				t.Errorf("Merge(%v, %v): got %v, %v, want %v", a, b, got, err, want)
			}
		}
	}
}

// TestMergeBounds: 1.2: 60 items in both fit, 61 do not.
func TestMergeBounds(t *testing.T) {
	for n := range most + 1 {
		a, b := rising(0, n), relabelled(rising(0, most-n))
		got, err := order.Merge(a, b)
		if want := bySelection(slices.Concat(a, b)); err != nil || !slices.Equal(got, want) {
			t.Errorf("Merge of %d and %d: got %v, %v, want %v", n, most-n, got, err, want)
		}
	}
	for n := 1; n <= most; n++ {
		got, err := order.Merge(rising(0, n), rising(0, most+1-n))
		fails(t, "Merge of 61", err, api.ErrFull)
		if len(got) != 0 {
			t.Errorf("Merge of %d and %d: got %v beside an error", n, most+1-n, got)
		}
	}
	ends := []api.Item{{Key: -keyTop, Id: keyTop}, {Key: keyTop, Id: 0}}
	want := []api.Item{ends[0], {Key: -keyTop, Id: 0}, ends[1], {Key: keyTop, Id: 1}}
	if got, err := order.Merge(ends, keyed(-keyTop, keyTop)); err != nil || !slices.Equal(got, want) {
		t.Errorf("Merge at the ends: got %v, %v, want %v", got, err, want)
	}
}

// TestMergeFirstFault: 1.2, P3: of several errors the one that is named first.
func TestMergeFirstFault(t *testing.T) {
	full, good, unsorted := rising(0, most+1), rising(0, most), keyed(2, 1)
	outside, both := keyed(keyTop+1), keyed(2, 1, keyTop+1)
	for name, c := range map[string]struct {
		a, b []api.Item
		want api.Errno
	}{
		"a full, b out of range":             {full, outside, api.ErrFull},
		"a full, b unsorted":                 {full, unsorted, api.ErrFull},
		"a full and unsorted":                {falling(most + 1), nil, api.ErrFull},
		"a out of range, b full":             {outside, full, api.ErrRange},
		"a out of range, b unsorted":         {outside, unsorted, api.ErrRange},
		"a out of range and unsorted":        {both, nil, api.ErrRange},
		"a unsorted, b full":                 {unsorted, full, api.ErrShape},
		"a unsorted, b out of range":         {unsorted, outside, api.ErrShape},
		"a unsorted, 62 in both":             {unsorted, good, api.ErrShape},
		"b full and unsorted":                {nil, falling(most + 1), api.ErrFull},
		"b out of range and unsorted":        {nil, both, api.ErrRange},
		"b out of range, 61 in both":         {good, outside, api.ErrRange},
		"b unsorted, 62 in both":             {good, unsorted, api.ErrShape},
		"b out of range, unsorted, 63 in it": {good, both, api.ErrRange},
		"120 in both":                        {good, good, api.ErrFull},
	} {
		got, err := order.Merge(c.a, c.b)
		fails(t, name, err, c.want)
		if len(got) != 0 {
			t.Errorf("%s: got %v beside an error", name, got)
		}
	}
}

// roomy gives a list with memory behind its length, and all of that memory.
func roomy(l []api.Item) (list, all []api.Item) {
	all = slices.Concat(l, []api.Item{{Key: 77, Id: 1}, {Key: -77, Id: -2}, {Key: math.MinInt, Id: 3}})
	return all[:len(l)], all
}

// spoil writes over a list and all that lies behind it in its memory.
func spoil(l []api.Item) {
	l = l[:cap(l)]
	for i := range l {
		l[i] = api.Item{Key: 123456, Id: 654321}
	}
}

// TestNothingChanged: P2, P4: no list is written into, nor what stands behind it, with an error or without.
func TestNothingChanged(t *testing.T) {
	tried := append(lists(), keyed(2, 1, keyTop+1), falling(most+1))
	for _, l := range tried {
		a, all := roomy(l)
		b, rest := roomy(bySelection(l))
		before, beside := slices.Clone(all), slices.Clone(rest)
		order.Check(a)
		order.Sort(a)
		order.Sorted(a)
		order.Inversions(a)
		order.Merge(a, b)
		order.Merge(b, a)
		order.Merge(b, b)
		order.Merge(b, nil)
		if !slices.Equal(all, before) || !slices.Equal(rest, beside) {
			t.Errorf("%v: changed to %v, %v", l, all, rest)
		}
	}
}

// TestFresh: P2: an answer and what was handed in may be written into, and neither shows in the other, nor in later answers.
func TestFresh(t *testing.T) {
	for _, l := range lists() {
		l = bySelection(l)[:len(l)/2]
		for name, call := range map[string]func(l []api.Item) ([]api.Item, error){
			"Sort":         order.Sort,
			"Merge of a":   func(l []api.Item) ([]api.Item, error) { return order.Merge(l, nil) },
			"Merge of b":   func(l []api.Item) ([]api.Item, error) { return order.Merge(nil, l) },
			"Merge of one": func(l []api.Item) ([]api.Item, error) { return order.Merge(l, l) },
		} {
			in, all := roomy(l)
			before := slices.Clone(all)
			first, _ := call(in)
			kept := slices.Clone(first)
			second, _ := call(in)
			spoil(first)
			if !slices.Equal(all, before) {
				t.Errorf("%s: an answer shares memory with %v", name, l)
			}
			spoil(in)
			if !slices.Equal(second, kept) {
				t.Errorf("%s of %v: got %v, then %v", name, l, kept, second)
			}
		}
	}
}
