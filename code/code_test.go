package code_test

import (
	"math"
	"slices"
	"strings"
	"testing"

	"rickstead/api"
	"rickstead/code"
	"rickstead/huff"
	"rickstead/plain"
)

// The document's numbers are written out here, so that a change of package api is seen too.
const (
	most     = 40
	longest  = 20
	bitsTop  = 400
	bytesTop = 60
)

// fails wants an error that is or wraps an Errno other than OK, or nil where OK is wanted.
func fails(t *testing.T, what string, err error, want api.Errno) {
	t.Helper()
	if (err == nil) != (want == api.OK) || plain.Told(err) != want {
		t.Errorf("%s: got error %v, want %v", what, err, want)
	}
}

// same makes so many of one number.
func same(many, n int) []int { return slices.Repeat([]int{n}, many) }

// upTo makes the numbers from one to another one.
func upTo(from, to int) []int {
	l := []int{}
	for n := from; n <= to; n++ {
		l = append(l, n)
	}
	return l
}

// turned is a list, the other way round.
func turned(l []int) []int {
	l = slices.Clone(l)
	slices.Reverse(l)
	return l
}

// mixed makes so many numbers from 0 to a top, from a rule that a seed starts.
func mixed(seed, many, top int) []int {
	l := []int{}
	for range many {
		seed = (seed*1103515245 + 12345) % (1 << 31)
		l = append(l, (seed>>8)%(top+1))
	}
	return l
}

// at is a list with another number at a place.
func at(l []int, place, n int) []int {
	l = slices.Clone(l)
	l[place] = n
	return l
}

// joined is one list behind the other.
func joined(lists ...[]int) []int { return slices.Concat(lists...) }

// filling: lengths that fill all there is.
func filling() [][]int {
	return [][]int{
		{1, 1}, {2, 2, 1}, {2, 1, 2}, {1, 2, 2}, same(4, 2), same(8, 3), same(32, 5), {3, 2, 1, 3}, {1, 3, 3, 2}, {4, 4, 3, 2, 1},
		append(upTo(1, longest), longest), append([]int{longest}, turned(upTo(1, longest))...), joined(upTo(1, 10), []int{longest}, upTo(11, longest)),
		joined(same(24, 5), same(16, 6)), joined(same(16, 6), same(24, 5)), {1, 0, 1}, {0, 2, 2, 0, 1, 0}, joined(same(38, 0), same(2, 1)),
	}
}

// roomLeft: lengths that leave room.
func roomLeft() [][]int {
	return [][]int{
		{1}, {2}, {longest}, {19}, {0, 1}, {1, 0}, {0, 7, 0}, {2, 1}, {1, 2}, {1, longest}, {longest, 1}, same(3, 2), same(7, 3), same(most, 6), same(most, longest), same(most, 19),
		upTo(1, longest), turned(upTo(1, longest)), joined(upTo(1, longest), same(longest, 0)), joined(same(longest, 0), upTo(1, longest)), upTo(0, longest),
		joined(same(most-1, 0), []int{1}), joined(same(most-1, 0), []int{longest}), {5, 3, 0, 3, 5, 0, 1, 5}, {3, 3, 2}, {2, 3, 3}, {3, 2, 3}, {4, 2}, {2, 4},
	}
}

// codeless: lengths of symbols of which none has a code.
func codeless() [][]int {
	return [][]int{nil, {}, []int{1, 1}[:0], {0}, {0, 0}, same(most-1, 0), same(most, 0)}
}

// right: lengths that Make takes, of all shapes.
func right() [][]int {
	all := slices.Concat(filling(), roomLeft(), codeless())
	for i := range 400 {
		l := mixed(i, 1+i%most, longest)
		// What does not fit is made longer, symbol by symbol.
		for place := 0; !fits(l); place = (place + 1) % len(l) {
			if l[place] > 0 {
				l[place] = min(longest, l[place]+1)
			}
		}
		all = append(all, l)
		if w, err := huff.Lengths(mixed(i, 1+i%most, 1+i)); err == nil {
			all = append(all, w)
		}
	}
	return all
}

// fault is a list that is refused, and why.
type fault struct {
	l    []int
	want api.Errno
}

// beyond: numbers that are not from 0 to a top.
func beyond(top int) []int {
	return []int{-1, top + 1, -2, top + 2, -top - 1, 2*top + 1, 63, 64, 65, 1 << 16, 1 << 32, 1<<32 + 1, -1 << 32, 1 - 1<<32, 1 << 62, math.MaxInt, math.MinInt, math.MinInt + 1}
}

// heavy: lengths whose sum is above 1, by much and by as little as can be.
func heavy() [][]int {
	return [][]int{
		same(3, 1), same(most, 1), same(5, 2), same(9, 3), same(33, 5), same(most, 5), {1, 1, 2}, {2, 1, 1}, {1, 2, 1}, {1, 0, 1, 0, 1}, {1, 1, longest}, {longest, 1, 1}, {1, longest, 1},
		append(upTo(1, longest), longest, longest), append([]int{longest, longest}, upTo(1, longest)...), joined(same(32, 5), []int{longest}), joined([]int{longest}, same(32, 5)),
		joined(same(most-3, 0), same(3, 1)), append(upTo(1, longest), 19), joined(same(2, 1), same(38, longest)),
	}
}

// faults: lengths in which one thing is wrong or several are.
func faults() []fault {
	all := []fault{
		{same(most+1, 0), api.ErrFull}, {same(most+1, longest), api.ErrFull}, {same(most+1, 1), api.ErrFull}, {same(2*most, 6), api.ErrFull}, {make([]int, 1<<20), api.ErrFull},
	}
	for _, l := range heavy() {
		all = append(all, fault{l, api.ErrShape})
	}
	for _, n := range beyond(longest) {
		for _, l := range [][]int{
			{n}, {1, n}, {n, 1}, {n, n}, {0, n, 0}, {2, n, 1, 2}, at(same(most, 6), 0, n), at(same(most, 6), most/2, n), at(same(most, 6), most-1, n), same(most, n),
			// The sum is above 1, too, ahead of it and behind it.
			{1, 1, 1, n}, {n, 1, 1, 1}, {1, 1, n, 1}, at(same(most, 1), most-1, n),
		} {
			all = append(all, fault{l, api.ErrRange})
		}
		all = append(all, fault{same(most+1, n), api.ErrFull}, fault{append(same(most, 6), n), api.ErrFull}, fault{append([]int{n}, same(most, 1)...), api.ErrFull})
	}
	return all
}

// TestMakeByHand: 10.1, worked out from the document's words.
func TestMakeByHand(t *testing.T) {
	for name, c := range map[string]struct {
		l    []int
		want string
	}{
		"no length":                   {nil, ""},
		"no code":                     {[]int{0}, "-"},
		"no code at all":              {[]int{0, 0, 0}, "- - -"},
		"one bit":                     {[]int{1}, "0"},
		"one, two bits":               {[]int{2}, "00"},
		"one, MaxLong bits":           {[]int{20}, "00000000000000000000"},
		"two":                         {[]int{1, 1}, "0 1"},
		"two, room left":              {[]int{2, 2}, "00 01"},
		"three, rising":               {[]int{1, 2, 2}, "0 10 11"},
		"three, falling":              {[]int{2, 2, 1}, "10 11 0"},
		"three, the shortest between": {[]int{2, 1, 2}, "10 0 11"},
		"three alike":                 {[]int{2, 2, 2}, "00 01 10"},
		"four alike":                  {[]int{2, 2, 2, 2}, "00 01 10 11"},
		"four":                        {[]int{3, 2, 1, 3}, "110 10 0 111"},
		"four, with 0 among them":     {[]int{0, 3, 2, 0, 1, 3, 0}, "- 110 10 - 0 111 -"},
		"longer by more than one":     {[]int{1, 4}, "0 1000"},
		"longer, and first":           {[]int{4, 1}, "1000 0"},
		"longer twice":                {[]int{5, 1, 3}, "10100 0 100"},
		"two, and longer by two":      {[]int{4, 2, 4, 2}, "1000 00 1001 01"},
		"carried over":                {[]int{3, 3, 4}, "000 001 0100"},
		"carried over twice":          {[]int{3, 3, 3, 3, 5, 5}, "000 001 010 011 10000 10001"},
		"mixed":                       {[]int{1, 5, 3, 2}, "0 11100 110 10"},
		"five":                        {[]int{4, 4, 3, 2, 1}, "1110 1111 110 10 0"},
		"bounds":                      {[]int{1, 20, 20}, "0 10000000000000000000 10000000000000000001"},
		"bounds, 0 ahead":             {[]int{0, 20, 1}, "- 10000000000000000000 0"},
		"as the standard's own":       {[]int{3, 3, 3, 3, 3, 2, 4, 4}, "010 011 100 101 110 00 1110 1111"},
	} {
		got, err := code.Make(c.l)
		fails(t, name, err, api.OK)
		want := []string{}
		for _, text := range strings.Fields(c.want) {
			want = append(want, strings.Trim(text, "-"))
		}
		if !slices.Equal(got, want) {
			t.Errorf("%s: Make(%v): got %q, want %q", name, c.l, got, want)
		}
	}
}

// TestMakeFills: 10.1: the last of the longest codes is all 1 where the lengths fill all there is, and only there.
func TestMakeFills(t *testing.T) {
	for i, l := range append(filling(), roomLeft()...) {
		got, err := code.Make(l)
		fails(t, "Make", err, api.OK)
		last := ""
		for _, text := range got {
			if len(text) >= len(last) {
				last = text
			}
		}
		if full := !strings.Contains(last, "0"); full != (i < len(filling())) {
			t.Errorf("Make(%v): got %q", l, got)
		}
	}
}

// made holds what Make answers against the other way.
func made(t *testing.T, l []int) {
	t.Helper()
	got, err := code.Make(l)
	if !fits(l) {
		fails(t, "Make", err, api.ErrShape)
		if len(got) != 0 {
			t.Errorf("Make(%v): got %q beside an error", l, got)
		}
		return
	}
	fails(t, "Make", err, api.OK)
	if want := codesOf(l); !slices.Equal(got, want) {
		t.Errorf("Make(%v): got %q, want %q", l, got, want)
	}
}

// TestMake: 10.1: lengths of all shapes, those that do not fit among them.
func TestMake(t *testing.T) {
	for many := range 6 {
		for _, l := range tuples(many, 5) {
			made(t, l)
		}
	}
	for a := range longest + 1 {
		for b := range longest + 1 {
			made(t, []int{a, b})
			made(t, []int{1, a, b})
			made(t, []int{b, 0, 2, a, 1})
		}
	}
	for _, l := range right() {
		made(t, l)
		for place := range l {
			made(t, at(l, place, max(0, l[place]-1)))
		}
	}
	for i := range 500 {
		made(t, mixed(i, 1+i%most, longest))
		made(t, mixed(i, 1+i%most, 3+i%6))
	}
}

// TestMakeBeginsNone: 10.1: no code begins another one.
func TestMakeBeginsNone(t *testing.T) {
	for _, l := range right() {
		codes, err := code.Make(l)
		fails(t, "Make", err, api.OK)
		for i, a := range codes {
			if len(a) != l[i] {
				t.Errorf("Make(%v): symbol %d got %q", l, i, a)
			}
			for j, b := range codes {
				if i != j && a != "" && strings.HasPrefix(b, a) {
					t.Errorf("Make(%v): %q begins %q", l, a, b)
				}
			}
		}
	}
}

// TestMakeFaulty: 10.1, P1, P3: with an error there are no codes.
func TestMakeFaulty(t *testing.T) {
	for _, c := range faults() {
		got, err := code.Make(c.l)
		fails(t, "Make", err, c.want)
		if len(got) != 0 {
			t.Errorf("Make(%v): got %q beside an error", c.l, got)
		}
	}
}

// TestMakeAtBounds: 10.1: what is just no fault.
func TestMakeAtBounds(t *testing.T) {
	for _, n := range []int{0, 1, longest - 1, longest} {
		for _, l := range [][]int{{n}, at(same(most, 0), 0, n), at(same(most, 0), most-1, n), at(same(most, 7), most/2, n)} {
			made(t, l)
		}
	}
	for _, n := range []int{0, 6, longest} {
		if got, err := code.Make(same(most, n)); len(got) != most || err != nil {
			t.Errorf("Make of %d lengths of %d: got %q, %v", most, n, got, err)
		}
	}
}

// roomy copies a list into memory that goes on behind it; all is that memory.
func roomy(l []int) (list, all []int) {
	all = append(slices.Clone(l), 1, 0, -777, math.MaxInt)
	return all[:len(l)], all
}

// spoil writes over a list and all that lies behind it in its memory.
func spoil[T any](l []T, by T) {
	l = l[:cap(l)]
	for i := range l {
		l[i] = by
	}
}

// answers of all calls to lists, with what errors told.
type answers struct {
	codes          []string
	encoded, text  string
	decoded, runes []int
	errs           []api.Errno
}

// ask calls all there is.
func ask(l, numbers []int, text string) answers {
	a := answers{}
	errs := make([]error, 5)
	a.codes, errs[0] = code.Make(l)
	a.encoded, errs[1] = code.Encode(l, numbers)
	a.decoded, errs[2] = code.Decode(l, text)
	a.runes, errs[3] = code.Runes(text)
	a.text, errs[4] = code.Text(numbers)
	for _, err := range errs {
		a.errs = append(a.errs, plain.Told(err))
	}
	return a
}

// alike tells whether answers are the same.
func (a answers) alike(b answers) bool {
	lists := slices.Equal(a.decoded, b.decoded) && slices.Equal(a.runes, b.runes) && slices.Equal(a.errs, b.errs)
	return lists && slices.Equal(a.codes, b.codes) && a.encoded == b.encoded && a.text == b.text
}

// asked is what all calls are given.
type asked struct {
	l, numbers []int
	text       string
}

// allAsked: right things and wrong ones, of all kinds.
func allAsked() []asked {
	lists := right()
	for _, c := range faults() {
		lists = append(lists, c.l)
	}
	all := []asked{}
	for i, l := range lists {
		numbers := mixed(i, i%30, max(0, len(l)-1))
		text := strings.Join(codesOf([]int{3, 0, 2, 2, 3}), "")
		if i%3 == 1 {
			numbers, text = append(numbers, -200, len(l)), text+"\xe2\x82\xac"
		}
		if i%3 == 2 {
			numbers, text = mixed(i, 500, max(0, len(l)-1)), strings.Repeat("01", 30+i%200)
		}
		all = append(all, asked{l, numbers, text})
	}
	return all
}

// TestNothingChanged: P2, P4: no list is written into, nor what stands behind it, with an error or without; what is asked twice is told twice.
func TestNothingChanged(t *testing.T) {
	for _, c := range allAsked() {
		l, allL := roomy(c.l)
		numbers, allNumbers := roomy(c.numbers)
		beforeL, beforeNumbers := slices.Clone(allL), slices.Clone(allNumbers)
		first := ask(l, numbers, c.text)
		if !slices.Equal(allL, beforeL) || !slices.Equal(allNumbers, beforeNumbers) {
			t.Fatalf("%v, %v: changed to %v, %v", c.l, c.numbers, allL, allNumbers)
		}
		second := ask(slices.Clip(slices.Clone(c.l)), slices.Clip(slices.Clone(c.numbers)), strings.Clone(c.text))
		if !first.alike(second) {
			t.Errorf("%v: got %v, then %v", c, first, second)
		}
	}
}

// TestFresh: P2: an answer shares memory neither with what was handed in nor with other answers.
func TestFresh(t *testing.T) {
	for _, c := range allAsked() {
		l, allL := roomy(c.l)
		numbers, allNumbers := roomy(c.numbers)
		beforeL, beforeNumbers := slices.Clone(allL), slices.Clone(allNumbers)
		first, second, kept := ask(l, numbers, c.text), ask(l, numbers, c.text), ask(l, numbers, c.text)
		spoil(first.codes, "spoiled")
		spoil(first.decoded, 123456)
		spoil(first.runes, 123456)
		if !slices.Equal(allL, beforeL) || !slices.Equal(allNumbers, beforeNumbers) {
			t.Fatalf("%v: an answer shares memory with what was handed in", c)
		}
		spoil(allL, 123456)
		spoil(allNumbers, 123456)
		if !second.alike(kept) {
			t.Errorf("%v: got %v, then %v", c, kept, second)
		}
	}
}

// TestAnswersHangOnArgumentsAlone: P2: calls between two calls don't show.
func TestAnswersHangOnArgumentsAlone(t *testing.T) {
	tried := allAsked()
	for i, c := range tried {
		first := ask(c.l, c.numbers, c.text)
		other := tried[(i*7+3)%len(tried)]
		ask(other.l, other.numbers, other.text)
		if second := ask(c.l, c.numbers, c.text); !first.alike(second) {
			t.Errorf("%v: got %v, then %v", c, first, second)
		}
	}
}
