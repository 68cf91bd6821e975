package stream_test

import (
	"math"
	"slices"
	"testing"

	"rickstead/api"
	"rickstead/plain"
	"rickstead/stream"
)

// The document's numbers are written out here, so that a change of package api is seen too.
const (
	most   = 60
	keyTop = 1000000
)

// fails wants an error that is or wraps an Errno other than OK, or nil where OK is wanted.
func fails(t *testing.T, what string, err error, want api.Errno) {
	t.Helper()
	if (err == nil) != (want == api.OK) || plain.Told(err) != want {
		t.Errorf("%s: got error %v, want %v", what, err, want)
	}
}

// made is a new stream with a room that may be.
func made(t *testing.T, room int) *stream.Stream {
	t.Helper()
	s, err := stream.New(room)
	if s == nil || err != nil {
		t.Fatalf("New(%d): got %v, %v", room, s, err)
	}
	return s
}

// put puts numbers that may be.
func put(t *testing.T, s *stream.Stream, l ...int) {
	t.Helper()
	for _, n := range l {
		fails(t, "Put", s.Put(n), api.OK)
	}
}

// answer is all that a stream can be asked.
type answer struct {
	middle, least       int
	middleErr, leastErr api.Errno
}

// none is what is told where no number came.
func none() answer { return answer{0, 0, api.ErrNone, api.ErrNone} }

// asked asks a stream, and wants no error that tells OK.
func asked(t *testing.T, s *stream.Stream) answer {
	t.Helper()
	var a answer
	var err error
	a.middle, err = s.Middle()
	a.middleErr = plain.Told(err)
	fails(t, "Middle", err, a.middleErr)
	a.least, err = s.Least()
	a.leastErr = plain.Told(err)
	fails(t, "Least", err, a.leastErr)
	return a
}

// model answers by another way than the program's: all numbers are kept, in both orders.
type model struct {
	room         int
	came, sorted []int
}

func (m *model) put(n int) {
	at, _ := slices.BinarySearch(m.sorted, n)
	m.sorted = slices.Insert(m.sorted, at, n)
	m.came = append(m.came, n)
}

func (m *model) asked() answer {
	many := len(m.came)
	if many == 0 {
		return none()
	}
	least := m.came[many-1]
	for i := 2; i <= m.room && i <= many; i++ {
		if n := m.came[many-i]; n < least {
			least = n
		}
	}
	middle := m.sorted[many/2]
	if many%2 == 0 {
		middle = m.sorted[many/2-1]
	}
	return answer{middle: middle, least: least}
}

// play holds a stream against the other way, number by number.
func play(t *testing.T, room int, l []int) {
	t.Helper()
	s, m := made(t, room), &model{room: room}
	for i, n := range l {
		put(t, s, n)
		m.put(n)
		if got, want := asked(t, s), m.asked(); got != want {
			t.Fatalf("room %d, after number %d of %v: got %v, want %v", room, i, l[:i+1], got, want)
		}
	}
}

// next is a rule that makes numbers which look mixed.
func next(seed int) int { return (seed*1103515245 + 12345) % (1 << 31) }

// mixed makes so many numbers of so many kinds, from a rule that a seed starts.
func mixed(seed, many, kinds int) []int {
	l := []int{}
	for range many {
		seed = next(seed)
		l = append(l, (seed>>8)%kinds-kinds/2)
	}
	return l
}

// rising makes so many numbers, from below 0 on.
func rising(many int) []int {
	l := []int{}
	for i := range many {
		l = append(l, i-many/2)
	}
	return l
}

// falling is rising, the other way round.
func falling(many int) []int {
	l := rising(many)
	slices.Reverse(l)
	return l
}

// alike makes so many of one number.
func alike(many, n int) []int { return slices.Repeat([]int{n}, many) }

// swinging makes so many numbers, by turns from the low and the high end inwards.
func swinging(many int) []int {
	up, down := rising(many), falling(many)
	l := []int{}
	for i := range many {
		if i%2 == 0 {
			l = append(l, up[i/2])
		} else {
			l = append(l, down[i/2])
		}
	}
	return l
}

// short makes all lists of up to so many numbers from -1 to 1.
func short(many int) [][]int {
	all := [][]int{{}}
	for from := 0; len(all[from]) < many; from++ {
		for n := -1; n <= 1; n++ {
			all = append(all, append(slices.Clone(all[from]), n))
		}
	}
	return all
}

// lists makes numbers of many shapes, the edges among them.
func lists() [][]int {
	all := [][]int{
		{keyTop}, {-keyTop}, {-keyTop, keyTop}, {keyTop, -keyTop},
		{keyTop, keyTop, -keyTop}, {-keyTop, -keyTop, keyTop}, {0, keyTop, -keyTop, 0, keyTop, -keyTop},
	}
	for _, many := range []int{2, 3, 4, 7, 8, 31, 58, 59, 60, 61, 62, 119, 120, 121, 300} {
		all = append(all, rising(many), falling(many), swinging(many), alike(many, 7), alike(many, -keyTop),
			mixed(many, many, 3), mixed(many, many, 50), mixed(many, many, 2*keyTop+1),
			append(falling(many), rising(many)...), append(rising(many), falling(many)...))
	}
	return all
}

// rooms that may be: the edges, and some between.
func rooms() []int { return []int{1, 2, 3, 4, 5, 8, 30, most - 1, most} }

// noRooms: rooms that may not be.
func noRooms() []int {
	return []int{math.MinInt, math.MinInt + 1, -keyTop, -61, -60, -2, -1, 0, most + 1, most + 2, 400, keyTop, math.MaxInt}
}

// outside: numbers that may not be.
func outside() []int {
	return []int{keyTop + 1, -keyTop - 1, keyTop + 2, 2 * keyTop, -2 * keyTop, 1 << 32, -1 << 32, 1<<32 + 5, math.MaxInt, math.MinInt}
}

// TestNew: 7.1, P3.
func TestNew(t *testing.T) {
	for _, room := range noRooms() {
		s, err := stream.New(room)
		fails(t, "New", err, api.ErrRange)
		if s != nil {
			t.Errorf("New(%d): got a stream beside an error", room)
		}
	}
	for room := 1; room <= most; room++ {
		if got := asked(t, made(t, room)); got != none() {
			t.Errorf("New(%d): nothing came, and it tells %v", room, got)
		}
	}
}

// TestByHand: 7.1: what is told after each number, worked out from the document's words.
func TestByHand(t *testing.T) {
	for name, c := range map[string]struct {
		room                 int
		came, middles, least []int
	}{
		"one":                  {1, []int{5}, []int{5}, []int{5}},
		"one, much room":       {most, []int{-5}, []int{-5}, []int{-5}},
		"one, 0":               {3, []int{0}, []int{0}, []int{0}},
		"two that rise":        {2, []int{5, 8}, []int{5, 5}, []int{5, 5}},
		"two that fall":        {2, []int{8, 5}, []int{8, 5}, []int{8, 5}},
		"two alike":            {2, []int{4, 4}, []int{4, 4}, []int{4, 4}},
		"two of one room":      {1, []int{5, 8}, []int{5, 5}, []int{5, 8}},
		"no mean of two":       {2, []int{1, 100}, []int{1, 1}, []int{1, 1}},
		"rising":               {3, []int{1, 2, 3, 4, 5, 6}, []int{1, 1, 2, 2, 3, 3}, []int{1, 1, 1, 2, 3, 4}},
		"falling":              {3, []int{6, 5, 4, 3, 2, 1}, []int{6, 5, 5, 4, 4, 3}, []int{6, 5, 4, 3, 2, 1}},
		"alike":                {2, []int{7, 7, 7, 7, 7}, []int{7, 7, 7, 7, 7}, []int{7, 7, 7, 7, 7}},
		"mixed":                {2, []int{3, -1, 4, -1, 5, -9, 2}, []int{3, -1, 3, -1, 3, -1, 2}, []int{3, -1, -1, -1, -1, -9, -9}},
		"each counts":          {1, []int{2, 2, 9, 9, 9}, []int{2, 2, 2, 2, 9}, []int{2, 2, 9, 9, 9}},
		"the least twice":      {3, []int{1, 5, 1, 5, 5, 5}, []int{1, 1, 1, 1, 5, 5}, []int{1, 1, 1, 1, 1, 5}},
		"a new least":          {3, []int{4, 6, 2, 8, 8, 8}, []int{4, 4, 4, 4, 6, 6}, []int{4, 4, 2, 2, 2, 8}},
		"one of each left":     {2, []int{0, 9, 1, 8, 2, 7}, []int{0, 0, 1, 1, 2, 2}, []int{0, 0, 1, 1, 2, 2}},
		"at the bounds":        {2, []int{keyTop, -keyTop, keyTop, keyTop}, []int{keyTop, -keyTop, keyTop, keyTop}, []int{keyTop, -keyTop, -keyTop, keyTop}},
		"at the bounds, low":   {1, []int{-keyTop, keyTop, -keyTop}, []int{-keyTop, -keyTop, -keyTop}, []int{-keyTop, keyTop, -keyTop}},
		"fewer than the room":  {4, []int{1, 3, 2}, []int{1, 1, 2}, []int{1, 1, 1}},
		"as many as the room":  {4, []int{1, 3, 2, 4}, []int{1, 1, 2, 2}, []int{1, 1, 1, 1}},
		"one more than it has": {4, []int{1, 3, 2, 4, 5}, []int{1, 1, 2, 2, 3}, []int{1, 1, 1, 1, 2}},
	} {
		s := made(t, c.room)
		for i, n := range c.came {
			put(t, s, n)
			if got := asked(t, s); got != (answer{middle: c.middles[i], least: c.least[i]}) {
				t.Errorf("%s, after %v: got %v, want middle %d, least %d", name, c.came[:i+1], got, c.middles[i], c.least[i])
			}
		}
	}
}

// TestShort: 7.1: all lists of few numbers.
func TestShort(t *testing.T) {
	for _, l := range short(7) {
		for _, room := range []int{1, 2, 3, 6, 7, 8} {
			play(t, room, l)
		}
	}
}

// TestLists: 7.1: lists of many shapes.
func TestLists(t *testing.T) {
	for _, l := range lists() {
		for _, room := range rooms() {
			play(t, room, l)
		}
	}
}

// TestEachRoom: 7.1: the least number counts as long as it is one of the last room ones, and no longer.
func TestEachRoom(t *testing.T) {
	for room := 1; room <= most; room++ {
		for _, ahead := range []int{0, 1, room - 1, room, room + 1, 3 * room} {
			s := made(t, room)
			put(t, s, alike(ahead, 9)...)
			put(t, s, -5)
			for i := 1; i < room; i++ {
				if got := asked(t, s); got.least != -5 || got.leastErr != api.OK {
					t.Fatalf("room %d: %d came behind: got %v", room, i-1, got)
				}
				put(t, s, 10+i)
			}
			if got := asked(t, s); got.least != -5 {
				t.Errorf("room %d: %d came behind: got %v", room, room-1, got)
			}
			put(t, s, 100)
			want := 100
			if room > 1 {
				want = 11
			}
			if got := asked(t, s); got.least != want {
				t.Errorf("room %d: it left: got %v, want %d", room, got, want)
			}
		}
	}
}

// TestMiddleOfAll: 7.1: the middle is of all numbers, whatever the room, also when they are far more than MaxItems.
func TestMiddleOfAll(t *testing.T) {
	for _, room := range []int{1, 7, most} {
		for _, l := range [][]int{rising(3000), falling(3001), swinging(3000), mixed(3, 3001, 2*keyTop+1), mixed(4, 3000, 9)} {
			play(t, room, l)
		}
	}
	s := made(t, 1)
	put(t, s, rising(100001)...)
	if got := asked(t, s); got != (answer{middle: 0, least: 50000}) {
		t.Errorf("100001 numbers: got %v", got)
	}
	put(t, s, -keyTop)
	if got := asked(t, s); got != (answer{middle: -1, least: -keyTop}) {
		t.Errorf("100002 numbers: got %v", got)
	}
}

// TestRefused: 7.1, P1: a number that is refused changes nothing, whenever it comes; it takes no room either.
func TestRefused(t *testing.T) {
	for _, l := range lists() {
		for _, room := range []int{1, 2, most} {
			s, m := made(t, room), &model{room: room}
			for i := 0; ; i++ {
				for _, n := range outside() {
					fails(t, "Put", s.Put(n), api.ErrRange)
				}
				if got, want := asked(t, s), m.asked(); got != want {
					t.Fatalf("room %d, after number %d of %v, and refused ones: got %v, want %v", room, i, l, got, want)
				}
				if i == len(l) {
					break
				}
				put(t, s, l[i])
				m.put(l[i])
			}
		}
	}
}

// TestRefusedAlone: 7.1: each number beyond a bound is refused, and those at the bounds are not.
func TestRefusedAlone(t *testing.T) {
	for _, n := range outside() {
		s := made(t, 2)
		fails(t, "Put", s.Put(n), api.ErrRange)
		if got := asked(t, s); got != none() {
			t.Errorf("Put(%d) was refused, and then: %v", n, got)
		}
		put(t, s, 3)
		fails(t, "Put", s.Put(n), api.ErrRange)
		if got := asked(t, s); got != (answer{middle: 3, least: 3}) {
			t.Errorf("3 came, Put(%d) was refused, and then: %v", n, got)
		}
	}
	for _, n := range []int{keyTop, -keyTop, keyTop - 1, 1 - keyTop, 0, 1, -1} {
		play(t, 1, []int{n})
	}
}

// TestAskingChangesNothing: P1, P2: one stream is asked all the time, one only at the end.
func TestAskingChangesNothing(t *testing.T) {
	for _, l := range lists() {
		for _, room := range rooms() {
			often, once := made(t, room), made(t, room)
			for _, n := range l {
				first := asked(t, often)
				for range 3 {
					if got := asked(t, often); got != first {
						t.Fatalf("room %d, %v: got %v, then %v", room, l, first, got)
					}
				}
				put(t, often, n)
				put(t, once, n)
			}
			if got, want := asked(t, often), asked(t, once); got != want {
				t.Errorf("room %d, %v: asked often: got %v, asked once: %v", room, l, got, want)
			}
		}
	}
}

// TestOneAlone: 7.1: what is asked alone doesn't hang on the other question.
func TestOneAlone(t *testing.T) {
	for _, l := range lists() {
		middles, leasts, m := made(t, 5), made(t, 5), &model{room: 5}
		for _, n := range l {
			put(t, middles, n)
			put(t, leasts, n)
			m.put(n)
			middle, err := middles.Middle()
			fails(t, "Middle", err, api.OK)
			least, err := leasts.Least()
			fails(t, "Least", err, api.OK)
			if want := m.asked(); middle != want.middle || least != want.least {
				t.Fatalf("%v: got %d and %d, want %v", m.came, middle, least, want)
			}
		}
	}
}

// TestStreamsShareNothing: P2: two streams go side by side, each as if it were alone.
func TestStreamsShareNothing(t *testing.T) {
	a, b := made(t, 3), made(t, most)
	m, n := &model{room: 3}, &model{room: most}
	for i, x := range mixed(5, 500, 2*keyTop+1) {
		put(t, a, x)
		m.put(x)
		if got := asked(t, b); got != n.asked() {
			t.Fatalf("number %d: the other stream tells %v, want %v", i, got, n.asked())
		}
		if i%3 == 0 {
			put(t, b, -x/2)
			n.put(-x / 2)
		}
		if got := asked(t, a); got != m.asked() {
			t.Fatalf("number %d: got %v, want %v", i, got, m.asked())
		}
	}
	if got := asked(t, made(t, 3)); got != none() {
		t.Errorf("a new stream tells %v", got)
	}
}
