package union_test

import (
	"math"
	"slices"
	"testing"

	"rickstead/api"
	"rickstead/plain"
	"rickstead/union"
)

// The document's number is written out here, so that a change of package api is seen too.
const most = 60

// fails wants an error that is or wraps an Errno other than OK, or nil where OK is wanted.
func fails(t *testing.T, what string, err error, want api.Errno) {
	t.Helper()
	if (err == nil) != (want == api.OK) || plain.Told(err) != want {
		t.Errorf("%s: got error %v, want %v", what, err, want)
	}
}

// made is new groups, of so many things as may be.
func made(t *testing.T, n int) *union.Groups {
	t.Helper()
	g, err := union.New(n)
	if g == nil || err != nil {
		t.Fatalf("New(%d): got %v, %v", n, g, err)
	}
	return g
}

// join joins two things that are there, and wants to be told whether they were in two groups.
func join(t *testing.T, g *union.Groups, a, b int, want bool) {
	t.Helper()
	got, err := g.Join(a, b)
	fails(t, "Join", err, api.OK)
	if got != want {
		t.Fatalf("Join(%d, %d): got %v, want %v", a, b, got, want)
	}
}

// joinAll joins pairs of things that are there.
func joinAll(t *testing.T, g *union.Groups, pairs [][2]int) {
	t.Helper()
	for _, p := range pairs {
		_, err := g.Join(p[0], p[1])
		fails(t, "Join", err, api.OK)
	}
}

// wants wants these groups, from all that can be asked.
func wants(t *testing.T, what string, g *union.Groups, want [][]int) {
	t.Helper()
	if got := g.All(); !slices.EqualFunc(got, want, slices.Equal) {
		t.Fatalf("%s: got %v, want %v", what, got, want)
	}
	if got := g.Many(); got != len(want) {
		t.Fatalf("%s: Many: got %d, want %d", what, got, len(want))
	}
	for _, l := range want {
		for _, a := range l {
			for _, other := range want {
				for _, b := range other {
					asks(t, what, g, a, b, other[0] == l[0])
				}
			}
		}
	}
}

// asks asks whether two things that are there are in one group.
func asks(t *testing.T, what string, g *union.Groups, a, b int, want bool) {
	t.Helper()
	if got, err := g.Same(a, b); got != want || err != nil {
		t.Fatalf("%s: Same(%d, %d): got %v, %v, want %v", what, a, b, got, err, want)
	}
}

// alone is so many groups of one thing each.
func alone(n int) [][]int {
	all := [][]int{}
	for thing := range n {
		all = append(all, []int{thing})
	}
	return all
}

// upTo is the things from one to another one.
func upTo(from, to int) []int {
	l := []int{}
	for thing := from; thing <= to; thing++ {
		l = append(l, thing)
	}
	return l
}

// turned is pairs, the last one first.
func turned(pairs [][2]int) [][2]int {
	pairs = slices.Clone(pairs)
	slices.Reverse(pairs)
	return pairs
}

// swapped is pairs, each the other way round.
func swapped(pairs [][2]int) [][2]int {
	pairs = slices.Clone(pairs)
	for i, p := range pairs {
		pairs[i] = [2]int{p[1], p[0]}
	}
	return pairs
}

// mixed makes so many pairs of n things, from a rule that a seed starts.
func mixed(seed, n, many int) [][2]int {
	pairs := [][2]int{}
	next := func() int {
		seed = (seed*1103515245 + 12345) % (1 << 31)
		return (seed >> 8) % n
	}
	for range many {
		pairs = append(pairs, [2]int{next(), next()})
	}
	return pairs
}

// chain joins each thing with the one behind it, from the least to the greatest.
func chain(n int) [][2]int {
	pairs := [][2]int{}
	for thing := 1; thing < n; thing++ {
		pairs = append(pairs, [2]int{thing - 1, thing})
	}
	return pairs
}

// star joins each thing with one of them.
func star(n, middle int) [][2]int {
	pairs := [][2]int{}
	for thing := range n {
		pairs = append(pairs, [2]int{middle, thing})
	}
	return pairs
}

// doubled joins groups of one thing in pairs, then those of two, and so on.
func doubled(n int) [][2]int {
	pairs := [][2]int{}
	for step := 1; step < n; step *= 2 {
		for thing := 0; thing+step < n; thing += 2 * step {
			pairs = append(pairs, [2]int{thing + step - 1, min(thing+2*step, n) - 1})
		}
	}
	return pairs
}

// folded joins the outermost things, then the next ones inwards, and then those pairs from within.
func folded(n int) [][2]int {
	pairs := [][2]int{}
	for thing := range n / 2 {
		pairs = append(pairs, [2]int{n - 1 - thing, thing})
	}
	return append(pairs, turned(chain(n/2+n%2))...)
}

// joining: joins that make one group of n things.
func joining(n int) [][][2]int {
	ways := [][][2]int{chain(n), star(n, 0), star(n, n-1), star(n, n/2), doubled(n), folded(n)}
	for _, w := range ways {
		ways = append(ways, turned(w), swapped(w), swapped(turned(w)))
	}
	return ways
}

// apart: joins that leave more than one group of n things, as most do.
func apart(n int) [][][2]int {
	ways := [][][2]int{nil, chain(n)[:n/2], turned(chain(n))[:n/2]}
	for seed := range 6 {
		ways = append(ways, mixed(seed, n, n/3), mixed(seed, n, n/2), mixed(seed, n, n))
	}
	byThree := [][2]int{}
	for thing := n - 4; thing >= 0; thing-- {
		byThree = append(byThree, [2]int{thing, thing + 3})
	}
	return append(ways, byThree, swapped(byThree))
}

// counts of things: the edges, and some between.
func counts() []int { return []int{1, 2, 3, 4, 5, 8, 13, 32, 33, most - 1, most} }

// beyond: numbers that are not from 0 to a top.
func beyond(top int) []int {
	return []int{-1, top + 1, -2, top + 2, -top - 2, 2*top + 3, 1 << 16, 1 << 32, 1<<32 + 1, -1 << 32, 1 - 1<<32, 1 << 62, math.MaxInt, math.MaxInt - 1, math.MinInt, math.MinInt + 1}
}

// TestNew: 11.1, P1, P3.
func TestNew(t *testing.T) {
	for n := range most + 1 {
		wants(t, "New", made(t, n), alone(n))
	}
	for _, n := range beyond(most) {
		g, err := union.New(n)
		fails(t, "New", err, api.ErrRange)
		if g != nil {
			t.Errorf("New(%d): got groups beside an error", n)
		}
	}
}

// TestByHand: 11.1: what is told of each join, and what groups come of them, worked out from the document's words.
func TestByHand(t *testing.T) {
	for name, c := range map[string]struct {
		n     int
		pairs [][2]int
		told  []bool
		want  [][]int
	}{
		"no things":                 {0, nil, nil, nil},
		"one thing":                 {1, nil, nil, [][]int{{0}}},
		"one thing with itself":     {1, [][2]int{{0, 0}, {0, 0}}, []bool{false, false}, [][]int{{0}}},
		"two things":                {2, nil, nil, [][]int{{0}, {1}}},
		"two things, each alone":    {2, [][2]int{{1, 1}, {0, 0}}, []bool{false, false}, [][]int{{0}, {1}}},
		"two things, joined":        {2, [][2]int{{0, 1}}, []bool{true}, [][]int{{0, 1}}},
		"two things, turned":        {2, [][2]int{{1, 0}}, []bool{true}, [][]int{{0, 1}}},
		"joined again":              {2, [][2]int{{0, 1}, {0, 1}}, []bool{true, false}, [][]int{{0, 1}}},
		"joined again, turned":      {2, [][2]int{{0, 1}, {1, 0}}, []bool{true, false}, [][]int{{0, 1}}},
		"in one group by another":   {3, [][2]int{{0, 1}, {1, 2}, {0, 2}}, []bool{true, true, false}, [][]int{{0, 1, 2}}},
		"by two others":             {5, [][2]int{{4, 2}, {0, 3}, {3, 2}, {0, 4}}, []bool{true, true, true, false}, [][]int{{0, 2, 3, 4}, {1}}},
		"the least was joined last": {5, [][2]int{{4, 2}, {3, 4}, {1, 3}}, []bool{true, true, true}, [][]int{{0}, {1, 2, 3, 4}}},
		"both leasts last":          {6, [][2]int{{5, 3}, {4, 2}, {3, 1}, {2, 0}}, []bool{true, true, true, true}, [][]int{{0, 2, 4}, {1, 3, 5}}},
		"the later group first":     {6, [][2]int{{5, 0}, {4, 1}, {3, 2}}, []bool{true, true, true}, [][]int{{0, 5}, {1, 4}, {2, 3}}},
		"two groups become one":     {6, [][2]int{{0, 1}, {4, 5}, {5, 0}}, []bool{true, true, true}, [][]int{{0, 1, 4, 5}, {2}, {3}}},
		"the greater one goes up":   {6, [][2]int{{1, 2}, {2, 3}, {0, 5}, {3, 5}}, []bool{true, true, true, true}, [][]int{{0, 1, 2, 3, 5}, {4}}},
		"the last with the first":   {4, [][2]int{{3, 0}, {1, 1}, {0, 3}}, []bool{true, false, false}, [][]int{{0, 3}, {1}, {2}}},
	} {
		t.Run(name, func(t *testing.T) {
			g := made(t, c.n)
			for i, p := range c.pairs {
				join(t, g, p[0], p[1], c.told[i])
			}
			wants(t, name, g, c.want)
		})
	}
}

// TestSame: 11.1: a thing with itself, two things either way round, and things that are in one group by way of others only.
func TestSame(t *testing.T) {
	g := made(t, most)
	for thing := range most {
		asks(t, "none joined", g, thing, thing, true)
		asks(t, "none joined", g, thing, most-1-thing, false)
	}
	for thing := range most - 1 {
		asks(t, "not yet joined", g, 0, thing+1, false)
		asks(t, "not yet joined", g, thing+1, 0, false)
		join(t, g, thing+1, thing, true)
		asks(t, "joined by way of others", g, 0, thing+1, true)
		asks(t, "joined by way of others", g, thing+1, 0, true)
		asks(t, "joined by way of others", g, thing/2, thing+1, true)
		asks(t, "with itself", g, thing+1, thing+1, true)
	}
}

// TestShort: 11.1: all ways to join few things a few times, held against the other way at each join.
func TestShort(t *testing.T) {
	for n := 1; n <= 4; n++ {
		for way := range int(math.Pow(float64(n*n), 4)) {
			g, m := made(t, n), &model{n: n}
			for range 4 {
				a, b := way%n, way/n%n
				way /= n * n
				join(t, g, a, b, m.join(a, b))
			}
			wants(t, "all short ways", g, m.all())
		}
	}
}

// TestWays: 11.1: joins of many shapes, held against the other way at each join.
func TestWays(t *testing.T) {
	for _, n := range counts() {
		for _, pairs := range append(joining(n), apart(n)...) {
			g, m := made(t, n), &model{n: n}
			for i, p := range pairs {
				join(t, g, p[0], p[1], m.join(p[0], p[1]))
				if i%7 == 0 {
					wants(t, "between joins", g, m.all())
				}
			}
			wants(t, "after all joins", g, m.all())
		}
	}
}

// TestAllJoined: 11.1: however all things are joined, one group comes of it, by as many joins that are told as it takes.
func TestAllJoined(t *testing.T) {
	for _, n := range counts() {
		for _, pairs := range joining(n) {
			g, left := made(t, n), n
			for _, p := range pairs {
				two, err := g.Join(p[0], p[1])
				fails(t, "Join", err, api.OK)
				if two {
					left--
				}
				if got := g.Many(); got != left {
					t.Fatalf("%v: %d joins were told of %d things, and there are %d groups", pairs, n-left, n, got)
				}
			}
			wants(t, "all joined", g, [][]int{upTo(0, n-1)})
			for _, p := range pairs {
				join(t, g, p[0], p[1], false)
			}
			wants(t, "joined again", g, [][]int{upTo(0, n-1)})
		}
	}
}

// TestOrders: 11.1: the same joins, in other orders and from the other side, make the same groups.
func TestOrders(t *testing.T) {
	for _, n := range counts() {
		for _, pairs := range append(joining(n), apart(n)...) {
			g := made(t, n)
			joinAll(t, g, pairs)
			want := g.All()
			half := len(pairs) / 2
			for _, other := range [][][2]int{
				turned(pairs), swapped(pairs), swapped(turned(pairs)),
				slices.Concat(pairs[half:], pairs[:half]), slices.Concat(pairs, pairs), slices.Concat(swapped(pairs[half:]), turned(pairs)),
			} {
				g := made(t, n)
				joinAll(t, g, other)
				wants(t, "another order", g, want)
			}
		}
	}
}

// refused asks of things of which at least one is not there.
func refused(t *testing.T, g *union.Groups, a, b int) {
	t.Helper()
	two, err := g.Join(a, b)
	fails(t, "Join", err, api.ErrRange)
	same, bad := g.Same(a, b)
	fails(t, "Same", bad, api.ErrRange)
	if two || same {
		t.Errorf("things %d and %d: got %v and %v beside an error", a, b, two, same)
	}
}

// TestRefused: 11.1, P1, P3: a thing that is none, as the first, as the second, and as both: it changes nothing.
func TestRefused(t *testing.T) {
	for _, n := range counts() {
		for _, pairs := range append(apart(n), chain(n), star(n, n-1)) {
			g := made(t, n)
			joinAll(t, g, pairs)
			want := g.All()
			for _, none := range beyond(n - 1) {
				for _, thing := range []int{0, n / 2, n - 1} {
					refused(t, g, none, thing)
					refused(t, g, thing, none)
				}
				refused(t, g, none, none)
				refused(t, g, none, -1)
				refused(t, g, n, none)
			}
			wants(t, "after refused joins", g, want)
		}
	}
}

// TestRefusedBetween: 11.1, P1: refused joins between the others leave all as if they had not been.
func TestRefusedBetween(t *testing.T) {
	for _, n := range counts() {
		for _, pairs := range append(joining(n), apart(n)...) {
			g, m := made(t, n), &model{n: n}
			for _, p := range pairs {
				refused(t, g, p[0], n)
				refused(t, g, -1, p[1])
				join(t, g, p[0], p[1], m.join(p[0], p[1]))
				refused(t, g, p[1], -p[0]-1)
			}
			wants(t, "refused between", g, m.all())
		}
	}
}

// TestNoThings: 11.1: where there are no things, each one is none.
func TestNoThings(t *testing.T) {
	g := made(t, 0)
	for _, a := range append(beyond(0), 0) {
		for _, b := range []int{a, 0, 1, -1, math.MaxInt} {
			refused(t, g, a, b)
			refused(t, g, b, a)
		}
	}
	wants(t, "no things", g, nil)
}

// TestAskingChangesNothing: P1, P2: one is asked all the time, and one only at the end.
func TestAskingChangesNothing(t *testing.T) {
	for _, n := range counts() {
		for _, pairs := range append(joining(n), apart(n)...) {
			often, once := made(t, n), made(t, n)
			for i, p := range pairs {
				if all := often.All(); i%5 == 0 {
					wants(t, "asked again", often, all)
				}
				asks(t, "with itself", often, p[1], p[1], true)
				_, err := often.Same(p[0], n-1-p[1])
				fails(t, "Same", err, api.OK)
				joinAll(t, often, pairs[i:i+1])
				joinAll(t, once, pairs[i:i+1])
			}
			wants(t, "asked often", often, once.All())
		}
	}
}

// spoil writes into groups that were told, and behind them.
func spoil(all [][]int) {
	for i, l := range all {
		for j := range l {
			l[j] = -7
		}
		l = append(l, -8)
		for j := range l[:cap(l)] {
			l[:cap(l)][j] = -9
		}
		all[i] = l
	}
	for i := range all[:cap(all)] {
		all[:cap(all)][i] = []int{-1}
	}
}

// TestToldStays: 11.1, P2: what All told is not changed by later joins.
func TestToldStays(t *testing.T) {
	for _, n := range counts() {
		for _, pairs := range joining(n) {
			g, m := made(t, n), &model{n: n}
			told, want := [][][]int{}, [][][]int{}
			for i, p := range pairs {
				if i%9 == 0 {
					told, want = append(told, g.All()), append(want, m.all())
				}
				join(t, g, p[0], p[1], m.join(p[0], p[1]))
			}
			for i := range told {
				if !slices.EqualFunc(told[i], want[i], slices.Equal) {
					t.Errorf("%v: what was told became %v, and was %v", pairs, told[i], want[i])
				}
			}
		}
	}
}

// TestFresh: P2: a change to what All told changes no group, and nothing else that was told.
func TestFresh(t *testing.T) {
	for _, n := range counts() {
		for _, pairs := range append(joining(n), apart(n)...) {
			g, m := made(t, n), &model{n: n}
			for i, p := range pairs {
				join(t, g, p[0], p[1], m.join(p[0], p[1]))
				spoil(g.All())
				if i%11 == 0 {
					kept, want := g.All(), m.all()
					spoil(g.All())
					if !slices.EqualFunc(kept, want, slices.Equal) {
						t.Fatalf("%v: one answer changed with another: %v", pairs, kept)
					}
				}
			}
			wants(t, "spoiled", g, m.all())
		}
	}
}

// TestListsShareNothing: P2: each list of one answer has its own memory, also behind its end.
func TestListsShareNothing(t *testing.T) {
	for _, n := range counts() {
		for _, pairs := range append(apart(n), chain(n)) {
			g, m := made(t, n), &model{n: n}
			for _, p := range pairs {
				join(t, g, p[0], p[1], m.join(p[0], p[1]))
			}
			want := m.all()
			for i := range want {
				all := g.All()
				spoil(all[i : i+1 : i+1])
				for j := range all {
					if j != i && !slices.Equal(all[j], want[j]) {
						t.Fatalf("%v: list %d changed with list %d: %v", pairs, j, i, all[j])
					}
				}
			}
		}
	}
}

// TestBeside: P2: groups that were made beside each other share nothing, each is as if it were alone.
func TestBeside(t *testing.T) {
	for _, n := range counts() {
		for i, pairs := range joining(n) {
			a, b, still := made(t, n), made(t, most), made(t, n)
			m, k := &model{n: n}, &model{n: most}
			for j, p := range pairs {
				q := mixed(i+j, most, 1)[0]
				join(t, a, p[0], p[1], m.join(p[0], p[1]))
				join(t, b, q[0], q[1], k.join(q[0], q[1]))
			}
			wants(t, "one of two", a, m.all())
			wants(t, "the other one", b, k.all())
			wants(t, "none joined", still, alone(n))
			wants(t, "made later", made(t, n), alone(n))
		}
	}
}
