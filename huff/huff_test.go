package huff_test

import (
	"math"
	"slices"
	"testing"

	"rickstead/api"
	"rickstead/huff"
	"rickstead/plain"
)

// The document's numbers are written out here, so that a change of package api is seen too.
const (
	most      = 40
	weightTop = 1000
)

// fails wants an error that is or wraps an Errno other than OK, or nil where OK is wanted.
func fails(t *testing.T, what string, err error, want api.Errno) {
	t.Helper()
	if (err == nil) != (want == api.OK) || plain.Told(err) != want {
		t.Errorf("%s: got error %v, want %v", what, err, want)
	}
}

// same makes so many of one number.
func same(many, n int) []int { return slices.Repeat([]int{n}, many) }

// upTo makes the numbers from one to another one.
func upTo(from, to int) []int {
	l := []int{}
	for n := from; n <= to; n++ {
		l = append(l, n)
	}
	return l
}

// turned is a list, the other way round.
func turned(l []int) []int {
	l = slices.Clone(l)
	slices.Reverse(l)
	return l
}

// sums makes so many weights, of which each is what the two ahead of it are together: none makes longer codes.
func sums(many int) []int {
	l := []int{1, 1}
	for len(l) < many {
		l = append(l, l[len(l)-1]+l[len(l)-2])
	}
	return l[:many]
}

// mixed makes so many numbers from 0 to a top, from a rule that a seed starts.
func mixed(seed, many, top int) []int {
	l := []int{}
	for range many {
		seed = (seed*1103515245 + 12345) % (1 << 31)
		l = append(l, (seed>>8)%(top+1))
	}
	return l
}

// placed puts a number at a place of a list that is as long as may be.
func placed(n, at int) []int {
	l := upTo(1, most)
	l[at] = n
	return l
}

// edges: weights at the bounds of what may be.
func edges() [][]int {
	all := [][]int{
		{0}, {weightTop}, {0, weightTop}, {weightTop, 0}, {0, 0, weightTop}, {weightTop, weightTop, 0},
		sums(16), turned(sums(16)), append([]int{0, 0}, sums(16)...), append(same(24, 0), sums(16)...),
	}
	for _, many := range []int{1, 2, 3, 4, 5, 7, 8, 9, 15, 16, 17, 31, 32, 33, most - 1, most} {
		all = append(all, same(many, 0), same(many, 1), same(many, weightTop), upTo(1, many), turned(upTo(1, many)))
		all = append(all, upTo(0, many-1), upTo(weightTop-many+1, weightTop), mixed(many, many, weightTop))
	}
	return all
}

// lists makes the weights that are tried, the edges among them.
func lists() [][]int {
	all := edges()
	for _, many := range []int{1, 2, 3, 4, 5, 6} {
		all = append(all, tuples(many, 3)...)
	}
	for i := range 1500 {
		// Weights of few kinds, too, so that many groups weigh the same.
		all = append(all, mixed(i, 1+i%most, 1+i%7), mixed(i, 1+i%most, weightTop))
	}
	return all
}

// fault is a list that is refused, and why.
type fault struct {
	l    []int
	want api.Errno
}

// beyond: numbers that are not from 0 to a top.
func beyond(top int) []int {
	return []int{-1, top + 1, -2, top + 2, -top, 2 * top, 1 << 16, 1 << 32, 1<<32 + 1, -1 << 32, 1 - 1<<32, 1 << 62, math.MaxInt, math.MinInt, math.MinInt + 1}
}

// faults: lists in which one thing is wrong or several are, where the numbers are to be from 0 to a top.
func faults(top int) []fault {
	all := []fault{
		{nil, api.ErrNone}, {[]int{}, api.ErrNone}, {[]int{5, 6}[:0], api.ErrNone},
		{same(most+1, 0), api.ErrFull}, {same(most+1, top), api.ErrFull}, {upTo(0, most), api.ErrFull},
		{same(2*most, 1), api.ErrFull}, {make([]int, 1<<20), api.ErrFull},
	}
	for _, n := range beyond(top) {
		for _, l := range [][]int{{n}, {1, n}, {n, 1}, {n, n}, {0, n, 1}, placed(n, 0), placed(n, most/2), placed(n, most-1), same(most, n)} {
			all = append(all, fault{l, api.ErrRange})
		}
		all = append(all, fault{same(most+1, n), api.ErrFull}, fault{append(placed(n, 0), 1), api.ErrFull}, fault{append(upTo(1, most), n), api.ErrFull})
	}
	return all
}

// TestLengthsByHand: 9.1, worked out from the document's words.
func TestLengthsByHand(t *testing.T) {
	for name, c := range map[string]struct{ w, want []int }{
		"one":                            {[]int{7}, []int{0}},
		"one, 0":                         {[]int{0}, []int{0}},
		"one, the greatest":              {[]int{weightTop}, []int{0}},
		"two":                            {[]int{7, 3}, []int{1, 1}},
		"two, 0":                         {[]int{0, 0}, []int{1, 1}},
		"two, bounds":                    {[]int{0, weightTop}, []int{1, 1}},
		"three, rising":                  {[]int{1, 2, 4}, []int{2, 2, 1}},
		"three, falling":                 {[]int{4, 2, 1}, []int{1, 2, 2}},
		"three, greatest between":        {[]int{1, 4, 2}, []int{2, 1, 2}},
		"three alike":                    {[]int{5, 5, 5}, []int{2, 2, 1}},
		"three, 0":                       {[]int{0, 0, 0}, []int{2, 2, 1}},
		"three, the greatest":            {same(3, weightTop), []int{2, 2, 1}},
		"three, two greater":             {[]int{1, 2, 2}, []int{2, 2, 1}},
		"three, two greater, turned":     {[]int{2, 2, 1}, []int{2, 1, 2}},
		"a symbol against a group":       {[]int{1, 1, 2, 2}, []int{2, 2, 2, 2}},
		"the same, symbols first":        {[]int{2, 2, 1, 1}, []int{2, 2, 2, 2}},
		"the symbol goes with a third":   {[]int{2, 1, 1, 3}, []int{2, 3, 3, 1}},
		"symbol, group, and greater":     {[]int{1, 1, 2, 3}, []int{3, 3, 2, 1}},
		"a group against two symbols":    {[]int{1, 1, 2, 2, 3}, []int{3, 3, 2, 2, 2}},
		"two groups against a symbol":    {[]int{1, 1, 1, 1, 2}, []int{3, 3, 2, 2, 2}},
		"two groups, the symbol first":   {[]int{2, 1, 1, 1, 1}, []int{2, 3, 3, 2, 2}},
		"the symbol between":             {[]int{1, 1, 2, 1, 1}, []int{3, 3, 2, 2, 2}},
		"a group of three against one":   {[]int{1, 1, 1, 3, 4}, []int{4, 4, 3, 2, 1}},
		"a group of three against two":   {[]int{1, 1, 1, 3, 3}, []int{3, 3, 2, 2, 2}},
		"two, the group between them":    {[]int{3, 1, 1, 1, 3}, []int{2, 3, 3, 2, 2}},
		"four alike":                     {same(4, 9), same(4, 2)},
		"five alike":                     {same(5, 9), []int{3, 3, 2, 2, 2}},
		"six alike":                      {same(6, 9), []int{3, 3, 3, 3, 2, 2}},
		"five, 0":                        {same(5, 0), []int{3, 3, 2, 2, 2}},
		"0 among others":                 {[]int{0, 3, 0, 4}, []int{3, 2, 3, 1}},
		"0 once":                         {[]int{3, 0, 4}, []int{2, 2, 1}},
		"a group of 0 against a 0":       {[]int{0, 0, 0, 1}, []int{3, 3, 2, 1}},
		"four 0":                         {[]int{0, 0, 0, 0, 1}, []int{3, 3, 3, 3, 1}},
		"a frequent one":                 {[]int{1, 1, 1, 1, 9}, []int{3, 3, 3, 3, 1}},
		"as long as can be, rising":      {[]int{1, 1, 2, 3, 5, 8}, []int{5, 5, 4, 3, 2, 1}},
		"as long as can be, falling":     {[]int{8, 5, 3, 2, 1, 1}, []int{1, 2, 3, 4, 5, 5}},
		"mixed":                          {[]int{5, 9, 12, 13, 16, 45}, []int{4, 4, 3, 3, 3, 1}},
		"mixed, turned":                  {[]int{45, 16, 13, 12, 9, 5}, []int{1, 3, 3, 3, 4, 4}},
		"mixed, shuffled":                {[]int{13, 45, 5, 16, 9, 12}, []int{3, 1, 4, 3, 4, 3}},
		"eight, rising":                  {upTo(1, 8), []int{5, 5, 4, 3, 3, 3, 2, 2}},
		"32 alike":                       {same(32, 3), same(32, 5)},
		"MaxCodes alike":                 {same(most, 1), slices.Concat(same(16, 6), same(24, 5))},
		"MaxCodes, all the greatest":     {same(most, weightTop), slices.Concat(same(16, 6), same(24, 5))},
		"MaxCodes, all 0":                {same(most, 0), slices.Concat(same(16, 6), same(24, 5))},
		"16 as long as can be":           {sums(16), append([]int{15}, turned(upTo(1, 15))...)},
		"16 as long as can be, falling":  {turned(sums(16)), append(upTo(1, 15), 15)},
		"0 ahead of as long as can be":   {append([]int{0, 0}, sums(16)...), append([]int{17}, turned(upTo(1, 17))...)},
		"0 behind as long as can be":     {append(sums(16), 0), append(append([]int{16}, turned(upTo(1, 15))...), 16)},
		"the group of the last symbols":  {[]int{3, 3, 2, 2, 1, 1}, []int{2, 2, 3, 3, 3, 3}},
		"the group of the first symbols": {[]int{1, 1, 2, 2, 3, 3}, []int{3, 3, 3, 3, 2, 2}},
	} {
		got, err := huff.Lengths(c.w)
		fails(t, name, err, api.OK)
		if !slices.Equal(got, c.want) {
			t.Errorf("%s: Lengths(%v): got %v, want %v", name, c.w, got, c.want)
		}
	}
}

// TestLengths: 9.1: weights of all shapes, held against another way.
func TestLengths(t *testing.T) {
	for _, w := range lists() {
		got, err := huff.Lengths(w)
		fails(t, "Lengths", err, api.OK)
		if want := lengthsOf(w); !slices.Equal(got, want) {
			t.Errorf("Lengths(%v): got %v, want %v", w, got, want)
		}
	}
}

// TestLengthsFillAll: 9.1, 9.2: there are codes so long, and there is room for none more; what they cost is what was put together.
func TestLengthsFillAll(t *testing.T) {
	for _, w := range lists() {
		l, err := huff.Lengths(w)
		fails(t, "Lengths", err, api.OK)
		if fits, full, err := huff.Fits(l); !fits || !full || err != nil {
			t.Errorf("Fits(Lengths(%v)): got %v, %v, %v", w, fits, full, err)
		}
		cost, err := huff.Cost(w, l)
		if want := treeOf(w).joined(); cost != want || err != nil {
			t.Errorf("Cost(%v, %v): got %v, %v, want %v", w, l, cost, err, want)
		}
	}
}

// TestNoneCostsLess: 9.1, 9.2: of all lengths that fit none cost less than those that are found.
func TestNoneCostsLess(t *testing.T) {
	for _, many := range []int{1, 2, 3, 4, 5} {
		// No code needs to be longer than many.
		may := slices.DeleteFunc(tuples(many, many), func(l []int) bool {
			fits, _, err := huff.Fits(l)
			return err != nil || !fits
		})
		tried := append(tuples(min(many, 3), 4), sums(many), turned(sums(many)), same(many, weightTop), mixed(many, many, 9), mixed(many, many, weightTop))
		for _, w := range slices.DeleteFunc(tried, func(w []int) bool { return len(w) != many }) {
			found, _ := huff.Lengths(w)
			least, _ := huff.Cost(w, found)
			for _, l := range may {
				if cost, err := huff.Cost(w, l); cost < least || err != nil {
					t.Errorf("%v: found %v, that cost %d; but %v cost %d, %v", w, found, least, l, cost, err)
				}
			}
		}
	}
}

// TestHeavierIsNoLonger: 9.1: of two symbols the heavier one is no longer.
func TestHeavierIsNoLonger(t *testing.T) {
	for _, w := range lists() {
		l, _ := huff.Lengths(w)
		for a := range w {
			for b := range w {
				if w[a] > w[b] && l[a] > l[b] {
					t.Fatalf("Lengths(%v): got %v: symbol %d is longer than %d", w, l, a, b)
				}
			}
		}
	}
}

// TestLengthsFaulty: 9.1, P1, P3: with an error there are no lengths.
func TestLengthsFaulty(t *testing.T) {
	for _, c := range faults(weightTop) {
		got, err := huff.Lengths(c.l)
		fails(t, "Lengths", err, c.want)
		if len(got) != 0 {
			t.Errorf("Lengths(%v): got %v beside an error", c.l, got)
		}
	}
}

// TestCostByHand: 9.2.
func TestCostByHand(t *testing.T) {
	for name, c := range map[string]struct {
		w, l []int
		want int
	}{
		"one":                     {[]int{5}, []int{3}, 15},
		"one, length 0":           {[]int{517}, []int{0}, 0},
		"one, weight 0":           {[]int{0}, []int{7}, 0},
		"one, the most":           {[]int{weightTop}, []int{most}, 40000},
		"two":                     {[]int{7, 3}, []int{2, 1}, 17},
		"two, turned":             {[]int{7, 3}, []int{1, 2}, 13},
		"lengths that fit not":    {[]int{2, 3, 4}, []int{0, 1, 0}, 3},
		"lengths that leave room": {[]int{2, 3, 4}, []int{40, 3, 10}, 129},
		"all lengths 0":           {[]int{2, 3, 4}, []int{0, 0, 0}, 0},
		"all weights 0":           {[]int{0, 0, 0}, []int{1, 40, 3}, 0},
		"one length 0":            {[]int{2, 3, 4}, []int{5, 0, 6}, 34},
		"one weight 0":            {[]int{2, 0, 4}, []int{5, 9, 6}, 34},
		"MaxCodes, the most":      {same(most, weightTop), same(most, most), 1600000},
		"MaxCodes, rising":        {upTo(1, most), upTo(1, most), 22140},
		"MaxCodes, to and fro":    {upTo(1, most), turned(upTo(1, most)), 11480},
		"MaxCodes, lengths 0":     {same(most, weightTop), same(most, 0), 0},
		"MaxCodes, weights 0":     {same(most, 0), same(most, most), 0},
	} {
		got, err := huff.Cost(c.w, c.l)
		fails(t, name, err, api.OK)
		if got != c.want {
			t.Errorf("%s: Cost(%v, %v): got %d, want %d", name, c.w, c.l, got, c.want)
		}
	}
}

// TestCost: 9.2: one more of one length costs one more time its weight, from lengths of 0 on.
func TestCost(t *testing.T) {
	for i, w := range edges() {
		l, want := same(len(w), 0), 0
		for at, more := range mixed(i, len(w), most) {
			for range more {
				l[at]++
				want += w[at]
				if got, err := huff.Cost(w, l); got != want || err != nil {
					t.Fatalf("Cost(%v, %v): got %d, %v, want %d", w, l, got, err, want)
				}
			}
		}
	}
}

// noCost wants an error of Cost, and nothing beside it.
func noCost(t *testing.T, w, l []int, want api.Errno) {
	t.Helper()
	got, err := huff.Cost(w, l)
	fails(t, "Cost", err, want)
	if got != 0 {
		t.Errorf("Cost(%v, %v): got %d beside an error", w, l, got)
	}
}

// TestCostFaultyWeights: 9.2, P1, P3: what is wrong with the weights is told, whatever the lengths are.
func TestCostFaultyWeights(t *testing.T) {
	for _, c := range faults(weightTop) {
		for _, l := range [][]int{nil, {}, {1}, {most + 1}, {-1, 2}, same(len(c.l), 1), same(len(c.l), -1), same(most, most), same(most+1, 1), same(most+1, most+1)} {
			noCost(t, c.l, l, c.want)
		}
	}
}

// TestCostNotAsMany: 9.2, P1, P3: whatever the lengths are of which there are fewer or more.
func TestCostNotAsMany(t *testing.T) {
	for _, w := range edges() {
		for _, many := range []int{0, 1, 2, len(w) - 1, len(w) + 1, 2 * len(w), most - 1, most, most + 1, 3000} {
			if many == len(w) {
				continue
			}
			for _, n := range append(beyond(most), 0, 1, most) {
				noCost(t, w, same(many, n), api.ErrShape)
			}
		}
		noCost(t, w, nil, api.ErrShape)
		noCost(t, w, make([]int, 1<<20), api.ErrShape)
	}
}

// TestCostFaultyLengths: 9.2, P1, P3: as many lengths as weights, of which one is none, at any place, or all are.
func TestCostFaultyLengths(t *testing.T) {
	for _, n := range beyond(most) {
		for _, many := range []int{1, 2, 3, most - 1, most} {
			for at := range many {
				l := same(many, 1)
				l[at] = n
				noCost(t, same(many, weightTop), l, api.ErrRange)
				noCost(t, same(many, 0), l, api.ErrRange)
			}
			noCost(t, upTo(1, many), same(many, n), api.ErrRange)
		}
	}
}

// fitting wants an answer of Fits.
func fitting(t *testing.T, l []int, fits, full bool) {
	t.Helper()
	gotFits, gotFull, err := huff.Fits(l)
	fails(t, "Fits", err, api.OK)
	if gotFits != fits || gotFull != full {
		t.Errorf("Fits(%v): got %v, %v, want %v, %v", l, gotFits, gotFull, fits, full)
	}
}

// TestFitsAndFull: 9.2: lengths that fit and fill all.
func TestFitsAndFull(t *testing.T) {
	for _, l := range [][]int{
		{0}, {1, 1}, {2, 1, 2}, {1, 2, 2}, {2, 2, 1}, {2, 2, 2, 2}, {3, 3, 2, 1}, {1, 3, 2, 3}, same(8, 3), same(16, 4), same(32, 5),
		slices.Concat(same(16, 6), same(24, 5)), slices.Concat(same(24, 5), same(16, 6)),
		append(upTo(1, 39), 39), append([]int{39}, turned(upTo(1, 39))...), append(upTo(1, 12), 12),
	} {
		fitting(t, l, true, true)
	}
}

// TestFitsWithRoom: 9.2: lengths that fit and leave room, by much and by as little as can be.
func TestFitsWithRoom(t *testing.T) {
	for _, l := range [][]int{
		{1}, {2}, {39}, {40}, {2, 1}, {1, 3, 3}, {2, 2, 2}, {3, 3, 2, 2}, same(7, 3), same(31, 5), same(2, 40), same(40, 6), same(39, 40), same(40, 40),
		upTo(1, 40), turned(upTo(1, 40)), append(upTo(1, 38), 40, 40), append(upTo(1, 38), 39, 40), append(upTo(1, 38), 39), upTo(2, 40),
	} {
		fitting(t, l, true, false)
	}
}

// TestFitsNot: 9.2: lengths that do not fit, by much and by as little as can be.
func TestFitsNot(t *testing.T) {
	for _, l := range [][]int{
		{0, 0}, {0, 1}, {1, 0}, {0, 40}, {40, 0}, {0, 39, 40}, {1, 1, 1}, {1, 1, 40}, {40, 1, 1}, {1, 2, 2, 40}, {2, 2, 2, 2, 2}, same(9, 3), same(33, 5), same(40, 5),
		append(upTo(1, 38), 38, 40), append([]int{40, 38}, upTo(1, 38)...), append(same(32, 5), 40), append(same(39, 40), 0),
		same(2, 0), same(39, 0), same(40, 0), same(40, 1), same(40, 2), upTo(0, 39), turned(upTo(0, 39)), {0, 40, 40}, append(same(20, 0), same(20, 40)...),
	} {
		fitting(t, l, false, false)
	}
}

// TestFits: 9.2: lengths of all shapes, held against a sum of quotients.
func TestFits(t *testing.T) {
	tried := [][]int{}
	for _, many := range []int{1, 2, 3, 4, 5} {
		tried = append(tried, tuples(many, 5)...)
	}
	for a := range most + 1 {
		for b := range most + 1 {
			tried = append(tried, []int{a, b}, []int{1, a, b})
		}
	}
	for i := range 300 {
		tried = append(tried, mixed(i, 1+i%most, most), mixed(i, 1+i%most, 4+i%5))
	}
	for _, w := range lists() {
		// From lengths that fill all, one is made longer, or shorter.
		for i, by := range []int{-1, 1} {
			l := lengthsOf(w)
			at := (len(w) / 2) * i
			l[at] = max(0, l[at]+by)
			tried = append(tried, l)
		}
	}
	for _, l := range tried {
		sum := against(l)
		fitting(t, l, sum <= 0, sum == 0)
	}
}

// TestFitsFaulty: 9.2, P1, P3: with an error nothing fits.
func TestFitsFaulty(t *testing.T) {
	for _, c := range faults(most) {
		fits, full, err := huff.Fits(c.l)
		fails(t, "Fits", err, c.want)
		if fits || full {
			t.Errorf("Fits(%v): got %v, %v beside an error", c.l, fits, full)
		}
	}
}

// TestAtBounds: 9.1, 9.2: what is just no fault.
func TestAtBounds(t *testing.T) {
	for _, many := range []int{1, 2, most - 1, most} {
		for _, weight := range []int{0, 1, weightTop - 1, weightTop} {
			w := same(many, weight)
			l, err := huff.Lengths(w)
			fails(t, "Lengths", err, api.OK)
			if len(l) != many {
				t.Errorf("Lengths(%v): got %v", w, l)
			}
			for _, n := range []int{0, 1, most - 1, most} {
				got, err := huff.Cost(w, same(many, n))
				fails(t, "Cost", err, api.OK)
				if got != many*weight*n {
					t.Errorf("Cost: %d times %d of %d: got %d", many, weight, n, got)
				}
				_, _, err = huff.Fits(same(many, n))
				fails(t, "Fits", err, api.OK)
			}
		}
	}
}

// roomy copies a list into memory that goes on behind it; all is that memory.
func roomy(l []int) (list, all []int) {
	all = append(slices.Clone(l), 1, 0, -777, math.MaxInt)
	return all[:len(l)], all
}

// spoil writes over a list and all that lies behind it in its memory.
func spoil(l []int) {
	l = l[:cap(l)]
	for i := range l {
		l[i] = 123456
	}
}

// TestNothingChanged: P2, P4: no list is written into, nor what stands behind it, with an error or without; what is asked twice is told twice.
func TestNothingChanged(t *testing.T) {
	tried := edges()
	for _, c := range append(faults(weightTop), faults(most)...) {
		tried = append(tried, c.l)
	}
	for i, list := range tried {
		w, allW := roomy(list)
		l, allL := roomy(mixed(i, len(list), most+i%2))
		beforeW, beforeL := slices.Clone(allW), slices.Clone(allL)
		first, firstErr := huff.Lengths(w)
		cost, costErr := huff.Cost(w, l)
		fits, full, fitsErr := huff.Fits(w)
		if !slices.Equal(allW, beforeW) || !slices.Equal(allL, beforeL) {
			t.Fatalf("%v, %v: changed to %v, %v", list, l, allW, allL)
		}
		clipped := slices.Clip(slices.Clone(list))
		second, secondErr := huff.Lengths(clipped)
		costAgain, costErrAgain := huff.Cost(clipped, slices.Clip(slices.Clone(l)))
		fitsAgain, fullAgain, fitsErrAgain := huff.Fits(clipped)
		if !slices.Equal(first, second) || cost != costAgain || fits != fitsAgain || full != fullAgain {
			t.Errorf("%v, %v: got %v, %d, %v, %v, then %v, %d, %v, %v", list, l, first, cost, fits, full, second, costAgain, fitsAgain, fullAgain)
		}
		if plain.Told(firstErr) != plain.Told(secondErr) || plain.Told(costErr) != plain.Told(costErrAgain) || plain.Told(fitsErr) != plain.Told(fitsErrAgain) {
			t.Errorf("%v, %v: got errors %v, %v, %v, then %v, %v, %v", list, l, firstErr, costErr, fitsErr, secondErr, costErrAgain, fitsErrAgain)
		}
	}
}

// TestFresh: P2: an answer shares memory neither with what was handed in nor with other answers.
func TestFresh(t *testing.T) {
	for _, list := range lists() {
		w, all := roomy(list)
		before := slices.Clone(all)
		first, _ := huff.Lengths(w)
		second, _ := huff.Lengths(w)
		kept := slices.Clone(first)
		spoil(append(first, 5))
		spoil(first)
		if !slices.Equal(all, before) {
			t.Fatalf("Lengths(%v): an answer shares memory with what was handed in", list)
		}
		spoil(all)
		if !slices.Equal(second, kept) {
			t.Errorf("Lengths(%v): got %v, then %v", list, kept, second)
		}
	}
}

// TestAnswersHangOnArgumentsAlone: P2: calls between two calls don't show.
func TestAnswersHangOnArgumentsAlone(t *testing.T) {
	tried := edges()
	for i, w := range tried {
		first, _ := huff.Lengths(w)
		other := tried[(i*7+3)%len(tried)]
		huff.Lengths(other)
		huff.Lengths(append(slices.Clone(other), -1))
		huff.Cost(other, same(len(other), 3))
		huff.Fits(same(9, 3))
		if second, _ := huff.Lengths(w); !slices.Equal(first, second) {
			t.Errorf("Lengths(%v): got %v, then %v", w, first, second)
		}
	}
}
