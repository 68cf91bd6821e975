package runs_test

import (
	"math"
	"slices"
	"testing"

	"rickstead/api"
	"rickstead/plain"
	"rickstead/runs"
)

// The document's numbers are written out here, so that a change of package api is seen too.
const (
	most    = 60
	keyTop  = 1000000
	roomTop = 8
)

// fails wants an error that is or wraps an Errno other than OK, or nil where OK is wanted.
func fails(t *testing.T, what string, err error, want api.Errno) {
	t.Helper()
	if (err == nil) != (want == api.OK) || plain.Told(err) != want {
		t.Errorf("%s: got error %v, want %v", what, err, want)
	}
}

// alike tells whether two answers have the same runs.
func alike(a, b [][]int) bool { return slices.EqualFunc(a, b, slices.Equal[[]int]) }

// rising makes so many numbers, from below 0 on.
func rising(many int) []int {
	l := []int{}
	for i := range many {
		l = append(l, i-many/2)
	}
	return l
}

// falling is rising, the other way round.
func falling(many int) []int {
	l := rising(many)
	slices.Reverse(l)
	return l
}

// same makes so many of one number.
func same(many, n int) []int { return slices.Repeat([]int{n}, many) }

// mixed makes so many numbers of so many kinds, from a rule that a seed starts.
func mixed(seed, many, kinds int) []int {
	l := []int{}
	for range many {
		seed = (seed*1103515245 + 12345) % (1 << 31)
		l = append(l, (seed>>8)%kinds-kinds/2)
	}
	return l
}

// short makes all lists of up to so many numbers from -1 on, of so many kinds.
func short(many, kinds int) [][]int {
	all := [][]int{{}}
	for from := 0; len(all[from]) < many; from++ {
		for n := range kinds {
			all = append(all, append(slices.Clone(all[from]), n-1))
		}
	}
	return all
}

// edges: lists at the bounds of what may be.
func edges() [][]int {
	all := [][]int{
		nil, {keyTop}, {-keyTop}, {keyTop, -keyTop}, {-keyTop, keyTop},
		{keyTop, -keyTop, keyTop, -keyTop, 0, keyTop, -keyTop, -keyTop, keyTop, keyTop},
		same(most, keyTop), same(most, -keyTop),
	}
	for _, many := range []int{1, 2, 3, 6, 7, 8, 9, 10, 15, 16, 17, 31, most - 1, most} {
		all = append(all, rising(many), falling(many), same(many, 7), mixed(many, many, 2*keyTop+1))
	}
	return all
}

// lists makes what Make is tried with, the edges among them.
func lists() [][]int {
	all := append(edges(), short(6, 3)...)
	for i := range 200 {
		all = append(all, mixed(i, i%(most+1), 3+i), append(rising(i%31), falling(i%30)...))
	}
	return all
}

// rooms: all that may be.
func rooms() []int { return []int{1, 2, 3, 4, 5, 6, 7, 8} }

// noRooms: rooms that may not be.
func noRooms() []int {
	return []int{0, -1, -2, -8, roomTop + 1, roomTop + 2, most, keyTop, 1 << 32, 1<<32 + 4, -1 << 32, 4 - 1<<32, math.MaxInt, math.MinInt, math.MinInt + 1}
}

// beyond: numbers that may not be.
func beyond() []int {
	return []int{keyTop + 1, -keyTop - 1, keyTop + 2, 2 * keyTop, -2 * keyTop, 1 << 32, -1 << 32, 1<<32 + 5, math.MaxInt, math.MinInt, math.MinInt + 1}
}

// model makes runs by another way than the program's: what is held for this run, and for the next one, lies in two lists.
type model struct {
	now, later []int
	runs       [][]int
}

// out brings the least number of this run to its end; if none of this run is held, the next one is this run.
func (m *model) out() int {
	if len(m.now) == 0 {
		m.now, m.later = m.later, nil
		m.runs = append(m.runs, nil)
	}
	n := slices.Min(m.now)
	at := slices.Index(m.now, n)
	m.now = slices.Delete(m.now, at, at+1)
	last := len(m.runs) - 1
	m.runs[last] = append(m.runs[last], n)
	return n
}

// made is what Make is to answer.
func made(l []int, room int) [][]int {
	if len(l) == 0 {
		return nil
	}
	m := &model{runs: [][]int{nil}}
	for i, n := range l {
		if i < room || m.out() <= n {
			m.now = append(m.now, n)
		} else {
			m.later = append(m.later, n)
		}
	}
	for range min(room, len(l)) {
		m.out()
	}
	return m.runs
}

// TestMakeByHand: 8.1, worked out from the document's words.
func TestMakeByHand(t *testing.T) {
	for name, c := range map[string]struct {
		l    []int
		room int
		want [][]int
	}{
		"none":                       {nil, 1, nil},
		"none, much room":            {[]int{}, 8, nil},
		"one":                        {[]int{5}, 1, [][]int{{5}}},
		"one, much room":             {[]int{-5}, 8, [][]int{{-5}}},
		"one, 0":                     {[]int{0}, 2, [][]int{{0}}},
		"fewer than the room":        {[]int{3, 1, 2}, 4, [][]int{{1, 2, 3}}},
		"as many as the room":        {[]int{3, 1, 4, 2}, 4, [][]int{{1, 2, 3, 4}}},
		"one more, that fits":        {[]int{3, 1, 4, 2, 1}, 4, [][]int{{1, 1, 2, 3, 4}}},
		"one more, too late":         {[]int{3, 1, 4, 2, 0}, 4, [][]int{{1, 2, 3, 4}, {0}}},
		"just as great":              {[]int{2, 5, 2}, 2, [][]int{{2, 2, 5}}},
		"one less":                   {[]int{2, 5, 1}, 2, [][]int{{2, 5}, {1}}},
		"one more":                   {[]int{2, 5, 3}, 2, [][]int{{2, 3, 5}}},
		"alike":                      {[]int{3, 3, 3, 3, 3}, 2, [][]int{{3, 3, 3, 3, 3}}},
		"rising":                     {[]int{1, 2, 3, 4, 5, 6}, 2, [][]int{{1, 2, 3, 4, 5, 6}}},
		"falling":                    {[]int{6, 5, 4, 3, 2, 1}, 2, [][]int{{5, 6}, {3, 4}, {1, 2}}},
		"falling, a rest":            {[]int{5, 4, 3, 2, 1}, 2, [][]int{{4, 5}, {2, 3}, {1}}},
		"falling, room of one":       {[]int{3, 2, 1}, 1, [][]int{{3}, {2}, {1}}},
		"room of one":                {[]int{1, 2, 2, 1, 3}, 1, [][]int{{1, 2, 2}, {1, 3}}},
		"mixed":                      {[]int{5, 1, 4, 2, 8, 3, 0, 9, 7, 6}, 3, [][]int{{1, 2, 4, 5, 8, 9}, {0, 3, 6, 7}}},
		"held while others go out":   {[]int{4, 5, 6, 1}, 3, [][]int{{4, 5, 6}, {1}}},
		"two held, a lesser one":     {[]int{4, 5, 6, 2, 1}, 3, [][]int{{4, 5, 6}, {1, 2}}},
		"late ones for the next run": {[]int{9, 8, 1, 5, 2}, 2, [][]int{{8, 9}, {1, 2, 5}}},
		"a run after the next":       {[]int{9, 8, 1, 5, 0}, 2, [][]int{{8, 9}, {1, 5}, {0}}},
		"greatest room":              {[]int{8, 7, 6, 5, 4, 3, 2, 1, 0, 9}, 8, [][]int{{1, 2, 3, 4, 5, 6, 7, 8, 9}, {0}}},
		"bounds, room of one":        {[]int{keyTop, -keyTop, keyTop, -keyTop}, 1, [][]int{{keyTop}, {-keyTop, keyTop}, {-keyTop}}},
		"bounds, room of two":        {[]int{keyTop, -keyTop, keyTop, -keyTop}, 2, [][]int{{-keyTop, keyTop, keyTop}, {-keyTop}}},
	} {
		got, err := runs.Make(c.l, c.room)
		fails(t, name, err, api.OK)
		if !alike(got, c.want) {
			t.Errorf("%s: Make(%v, %d): got %v, want %v", name, c.l, c.room, got, c.want)
		}
	}
}

// TestMake: 8.1: lists of all shapes, held against another way.
func TestMake(t *testing.T) {
	for _, l := range lists() {
		for _, room := range rooms() {
			got, err := runs.Make(l, room)
			fails(t, "Make", err, api.OK)
			if want := made(l, room); !alike(got, want) {
				t.Errorf("Make(%v, %d): got %v, want %v", l, room, got, want)
			}
		}
	}
}

// TestMakeShort: 8.1: all lists of few numbers, more of them than most rooms have.
func TestMakeShort(t *testing.T) {
	for _, l := range short(6, 4) {
		for _, room := range []int{1, 2, 3, 5} {
			got, err := runs.Make(l, room)
			fails(t, "Make", err, api.OK)
			if want := made(l, room); !alike(got, want) {
				t.Errorf("Make(%v, %d): got %v, want %v", l, room, got, want)
			}
		}
	}
}

// TestRunsAreRuns: 8.1: each run is sorted, none is empty, two that follow each other are not one, all but the last one have the room's numbers at least, and all of them together, merged, are what came.
func TestRunsAreRuns(t *testing.T) {
	for _, l := range lists() {
		for _, room := range rooms() {
			got, err := runs.Make(l, room)
			fails(t, "Make", err, api.OK)
			for i, run := range got {
				if len(run) == 0 || !slices.IsSorted(run) || i < len(got)-1 && len(run) < room {
					t.Fatalf("Make(%v, %d): run %d of %v", l, room, i, got)
				}
				if i > 0 && run[0] >= got[i-1][len(got[i-1])-1] {
					t.Fatalf("Make(%v, %d): run %d of %v goes on with the one ahead", l, room, i, got)
				}
			}
			all, err := runs.Merge(got)
			fails(t, "Merge", err, api.OK)
			if !slices.Equal(all, slices.Sorted(slices.Values(l))) {
				t.Errorf("Make(%v, %d): got %v, merged %v", l, room, got, all)
			}
		}
	}
}

// TestHowManyRuns: 8.1: numbers that rise are one run, those that fall make runs of just the room's numbers.
func TestHowManyRuns(t *testing.T) {
	for many := 1; many <= most; many++ {
		for _, room := range rooms() {
			up, err := runs.Make(rising(many), room)
			fails(t, "Make", err, api.OK)
			down, downErr := runs.Make(falling(many), room)
			fails(t, "Make", downErr, api.OK)
			if len(up) != 1 || len(down) != (many+room-1)/room {
				t.Errorf("%d numbers, room %d: rising %d runs, falling %d", many, room, len(up), len(down))
			}
		}
	}
}

// placed puts a number at a place of a list that is as long as may be.
func placed(n, at int) []int {
	l := rising(most)
	l[at] = n
	return l
}

// TestMakeFaulty: 8.1, P1, P3: with an error there are no runs.
func TestMakeFaulty(t *testing.T) {
	refused := func(l []int, room int, want api.Errno) {
		t.Helper()
		got, err := runs.Make(l, room)
		fails(t, "Make", err, want)
		if len(got) != 0 {
			t.Errorf("Make(%v, %d): got %v beside an error", l, room, got)
		}
	}
	for _, room := range rooms() {
		for _, l := range [][]int{rising(most + 1), falling(most + 1), same(most+1, 0), make([]int, 2*most), make([]int, 1<<20)} {
			refused(l, room, api.ErrFull)
		}
		for _, n := range beyond() {
			for _, l := range [][]int{{n}, {1, n}, {n, 1}, placed(n, 0), placed(n, 30), placed(n, most-1)} {
				refused(l, room, api.ErrRange)
			}
		}
	}
	for _, room := range noRooms() {
		for _, l := range [][]int{nil, {}, {1}, rising(9), falling(most)} {
			refused(l, room, api.ErrRange)
		}
		// All three are wrong, or two of them.
		refused(same(most+1, keyTop+1), room, api.ErrFull)
		refused(rising(most+1), room, api.ErrFull)
		refused([]int{keyTop + 1}, room, api.ErrRange)
	}
	for _, n := range beyond() {
		refused(append(placed(n, 0), 1), 4, api.ErrFull)
		refused(append(rising(most), n), 4, api.ErrFull)
	}
}

// TestMakeAtBounds: 8.1: what is just no fault.
func TestMakeAtBounds(t *testing.T) {
	for _, room := range []int{1, roomTop} {
		for _, l := range [][]int{nil, rising(most), falling(most), same(most, keyTop), same(most, -keyTop), placed(keyTop, 0), placed(-keyTop, most-1)} {
			got, err := runs.Make(l, room)
			fails(t, "Make", err, api.OK)
			if many := len(slices.Concat(got...)); many != len(l) {
				t.Errorf("Make(%v, %d): got %d numbers", l, room, many)
			}
		}
	}
}

// sortedShort makes all runs of up to so many numbers from -1 to 1.
func sortedShort(many int) [][]int {
	return slices.DeleteFunc(short(many, 3), func(l []int) bool { return !slices.IsSorted(l) })
}

// dealt gives out numbers, by turns, to so many runs.
func dealt(l []int, many int) [][]int {
	out := make([][]int, many)
	for i, n := range l {
		out[i%many] = append(out[i%many], n)
	}
	for _, run := range out {
		slices.Sort(run)
	}
	return out
}

// families makes what Merge is tried with, the edges among them.
func families() [][][]int {
	all := [][][]int{
		nil, {}, {nil}, {{}, nil, {}}, make([][]int, most+1), make([][]int, 3000),
		{rising(most)}, {same(most, 7)}, {nil, rising(most), {}}, {rising(30), rising(30)}, {same(30, keyTop), same(30, -keyTop)},
		{{keyTop}, {-keyTop}}, {{-keyTop, keyTop}, {-keyTop, -keyTop, keyTop, keyTop}, {0}},
		{{5, 6}, {1, 2}}, {{1, 2}, {5, 6}}, {{1, 9}, {4, 5}}, {{4, 5}, {1, 9}},
	}
	for i, l := range edges() {
		all = append(all, dealt(l, 1), dealt(l, 2), dealt(l, 3), dealt(l, 7+i), dealt(l, most), dealt(l, most+40))
	}
	for i := range 200 {
		all = append(all, dealt(mixed(i, i%(most+1), 3+i), 1+i%9))
	}
	return all
}

// merges holds an answer of Merge against another way: all numbers in one list, sorted.
func merges(t *testing.T, l ...[]int) {
	t.Helper()
	got, err := runs.Merge(l)
	fails(t, "Merge", err, api.OK)
	if want := slices.Sorted(slices.Values(slices.Concat(l...))); !slices.Equal(got, want) {
		t.Errorf("Merge(%v): got %v, want %v", l, got, want)
	}
}

// TestMerge: 8.2.
func TestMerge(t *testing.T) {
	for _, l := range families() {
		merges(t, l...)
	}
	runsOf := sortedShort(3)
	for _, a := range runsOf {
		merges(t, a)
		for _, b := range runsOf {
			merges(t, a, b)
			for _, c := range runsOf {
				merges(t, a, b, c)
			}
		}
	}
}

// TestMergeByHand: 8.2, worked out from the document's words.
func TestMergeByHand(t *testing.T) {
	for name, c := range map[string]struct {
		l    [][]int
		want []int
	}{
		"no runs":          {nil, nil},
		"empty runs":       {[][]int{{}, nil, {}}, nil},
		"one run":          {[][]int{{1, 2, 2, 5}}, []int{1, 2, 2, 5}},
		"one number each":  {[][]int{{3}, {1}, {2}}, []int{1, 2, 3}},
		"shared numbers":   {[][]int{{1, 2, 2}, {2, 3}, {0, 2}}, []int{0, 1, 2, 2, 2, 2, 3}},
		"empty among them": {[][]int{nil, {4, 7}, {}, {5}, nil}, []int{4, 5, 7}},
		"one after other":  {[][]int{{5, 6}, {1, 2}, {3, 4}}, []int{1, 2, 3, 4, 5, 6}},
		"at the bounds":    {[][]int{{-keyTop, keyTop}, {-keyTop, 0, keyTop}}, []int{-keyTop, -keyTop, 0, keyTop, keyTop}},
		"the same twice":   {[][]int{{1, 2}, {1, 2}}, []int{1, 1, 2, 2}},
	} {
		got, err := runs.Merge(c.l)
		fails(t, name, err, api.OK)
		if !slices.Equal(got, c.want) {
			t.Errorf("%s: Merge(%v): got %v, want %v", name, c.l, got, c.want)
		}
	}
}

// family is what Merge refuses, and why.
type family struct {
	l    [][]int
	want api.Errno
}

// tooMany: families of more numbers than may be, in all; with other faults, too.
func tooMany() map[string]family {
	wide := make([]int, 1<<20)
	return map[string]family{
		"61 in one run":         {[][]int{rising(most + 1)}, api.ErrFull},
		"60 and one":            {[][]int{rising(most), {1}}, api.ErrFull},
		"one and 60":            {[][]int{{1}, rising(most)}, api.ErrFull},
		"30 and 31":             {[][]int{rising(30), rising(31)}, api.ErrFull},
		"61 runs of one":        {dealt(rising(most+1), most+1), api.ErrFull},
		"61 among empty ones":   {[][]int{nil, rising(most), {}, {1}, nil}, api.ErrFull},
		"very many":             {slices.Repeat([][]int{wide}, 1000), api.ErrFull},
		"61, out of range":      {[][]int{{keyTop + 1}, rising(most)}, api.ErrFull},
		"61, the last too high": {[][]int{rising(most), {keyTop + 1}}, api.ErrFull},
		"61, falling":           {[][]int{{2, 1}, rising(most - 1)}, api.ErrFull},
		"61, all wrong":         {[][]int{{keyTop + 1, 2, 1}, rising(most)}, api.ErrFull},
	}
}

// unsorted: families in which a number is less than the one ahead of it, and other faults ahead or behind.
func unsorted() map[string]family {
	atEnd := rising(most)
	atEnd[most-1] = atEnd[most-2] - 1
	atBegin := rising(most)
	atBegin[0] = atBegin[1] + 1
	return map[string]family{
		"two":                      {[][]int{{2, 1}}, api.ErrShape},
		"at its beginning":         {[][]int{{2, 1, 3, 4}}, api.ErrShape},
		"at its end":               {[][]int{{1, 2, 3, 2}}, api.ErrShape},
		"in the middle":            {[][]int{{1, 3, 2, 4}}, api.ErrShape},
		"at its beginning, of 60":  {[][]int{atBegin}, api.ErrShape},
		"at its end, of 60":        {[][]int{atEnd}, api.ErrShape},
		"in the first run":         {[][]int{{2, 1}, {1, 2}, {3}}, api.ErrShape},
		"in the last run":          {[][]int{{1, 2}, {}, {3}, {2, 1}}, api.ErrShape},
		"in all runs":              {[][]int{{2, 1}, {2, 1}}, api.ErrShape},
		"from bound to bound":      {[][]int{{keyTop, -keyTop}}, api.ErrShape},
		"60, falling":              {[][]int{falling(most)}, api.ErrShape},
		"number too high ahead":    {[][]int{{keyTop + 1}, {2, 1}}, api.ErrRange},
		"number too high behind":   {[][]int{{2, 1}, {1, keyTop + 1}}, api.ErrRange},
		"number too low in itself": {[][]int{{2, 1, -keyTop - 1}}, api.ErrRange},
		"it is itself too low":     {[][]int{{1, 2, math.MinInt}}, api.ErrRange},
	}
}

// TestMergeFaulty: 8.2, P1, P3: with an error nothing is merged; of several errors the one that is named first is told.
func TestMergeFaulty(t *testing.T) {
	refused := func(name string, l [][]int, want api.Errno) {
		t.Helper()
		got, err := runs.Merge(l)
		fails(t, name, err, want)
		if len(got) != 0 {
			t.Errorf("%s: got %v beside an error", name, got)
		}
	}
	for name, c := range tooMany() {
		refused(name, c.l, c.want)
	}
	for name, c := range unsorted() {
		refused(name, c.l, c.want)
	}
	for _, n := range beyond() {
		for _, l := range [][][]int{{{n}}, {{1, 2}, {n}}, {{n}, {1, 2}}, {{0, n}, {}}, {{n, 0}}, {placed(n, 0)}, {placed(n, most-1)}, {nil, {1}, {0, 3, n}}} {
			refused("beyond a bound", l, api.ErrRange)
		}
	}
}

// behind is what lies behind lists in their memory; it may neither be read nor written.
const behind = 777

// roomy copies a list into memory that goes on behind it; all is that memory.
func roomy(l []int) (list, all []int) {
	all = append(append([]int{}, l...), same(9, behind)...)
	return all[:len(l)], all
}

// roomyRuns copies runs into one memory, one right behind the other; all is that memory, and outer that of the list of runs.
func roomyRuns(l [][]int) (list [][]int, all []int, outer [][]int) {
	_, all = roomy(slices.Concat(l...))
	from := 0
	for _, run := range l {
		outer = append(outer, all[from:from+len(run)])
		from += len(run)
	}
	outer = append(outer, []int{behind}, []int{behind})
	return outer[:len(l)], all, outer
}

// spoil writes over a list and all that lies behind it in its memory.
func spoil(l []int) {
	l = l[:cap(l)]
	for i := range l {
		l[i] = 123456
	}
}

// copied is a copy of runs that shares no memory with them.
func copied(l [][]int) [][]int {
	out := [][]int{}
	for _, run := range l {
		out = append(out, slices.Clone(run))
	}
	return out
}

// TestMakeChangesNothing: P2, P4: with an error or without; what is asked twice is told twice.
func TestMakeChangesNothing(t *testing.T) {
	for _, l := range append(lists(), rising(most+1), []int{2, 1, keyTop + 1}) {
		for _, room := range append(rooms(), 0, roomTop+1) {
			in, all := roomy(l)
			before := slices.Clone(all)
			first, err := runs.Make(in, room)
			if !slices.Equal(all, before) {
				t.Fatalf("Make(%v, %d) wrote %v", l, room, all)
			}
			second, again := runs.Make(in, room)
			if !alike(first, second) || plain.Told(err) != plain.Told(again) {
				t.Errorf("Make(%v, %d): got %v, %v, then %v, %v", l, room, first, err, second, again)
			}
		}
	}
}

// TestMakeFresh: P2: an answer shares memory neither with what was handed in nor with other answers, nor do its runs with each other, also where one goes on.
func TestMakeFresh(t *testing.T) {
	for _, l := range lists() {
		for _, room := range rooms() {
			in, all := roomy(l)
			before := slices.Clone(all)
			first, _ := runs.Make(in, room)
			second, _ := runs.Make(in, room)
			kept := copied(first)
			for i, run := range first {
				spoil(append(run, 5))
				spoil(run)
				if !alike(first[:i], kept[:i]) || !alike(first[i+1:], kept[i+1:]) {
					t.Fatalf("Make(%v, %d): run %d shares memory with another one", l, room, i)
				}
				copy(run, kept[i])
			}
			for _, run := range first {
				spoil(run)
			}
			clear(first[:cap(first)])
			if !slices.Equal(all, before) {
				t.Errorf("Make(%v, %d): an answer shares memory with what was handed in", l, room)
			}
			spoil(in)
			if !alike(second, kept) {
				t.Errorf("Make(%v, %d): got %v, then %v", l, room, kept, second)
			}
		}
	}
}

// TestMergeChangesNothing: P2, P4: neither a run nor the list of them, nor what stands behind either, with an error or without.
func TestMergeChangesNothing(t *testing.T) {
	tried := append(families(), [][]int{{2, 1}, {3}}, [][]int{{1}, {keyTop + 1, 1}}, [][]int{rising(most), {1, 0}})
	for _, l := range tried {
		in, all, outer := roomyRuns(l)
		before, runsBefore := slices.Clone(all), copied(outer)
		first, err := runs.Merge(in)
		if !slices.Equal(all, before) || !alike(outer, runsBefore) {
			t.Fatalf("Merge(%v) wrote %v, %v", l, outer, all)
		}
		second, again := runs.Merge(in)
		if !slices.Equal(first, second) || plain.Told(err) != plain.Told(again) {
			t.Errorf("Merge(%v): got %v, %v, then %v, %v", l, first, err, second, again)
		}
	}
}

// TestMergeFresh: P2: an answer shares memory neither with what was handed in nor with other answers.
func TestMergeFresh(t *testing.T) {
	for _, l := range families() {
		in, all, outer := roomyRuns(l)
		before, runsBefore := slices.Clone(all), copied(outer)
		first, _ := runs.Merge(in)
		second, _ := runs.Merge(in)
		kept := slices.Clone(first)
		spoil(append(first, 5))
		spoil(first)
		if !slices.Equal(all, before) || !alike(outer, runsBefore) {
			t.Errorf("Merge(%v): an answer shares memory with what was handed in", l)
		}
		spoil(all)
		clear(outer)
		if !slices.Equal(second, kept) {
			t.Errorf("Merge(%v): got %v, then %v", l, kept, second)
		}
	}
}
