package union_test

import "slices"

// model has groups by another way than the program's: only the joins are kept, and groups are what can be gone through along them.
type model struct {
	n     int
	pairs [][2]int
}

// join keeps two things, and tells whether there was no way between them.
func (m *model) join(a, b int) bool {
	two := !m.same(a, b)
	m.pairs = append(m.pairs, [2]int{a, b})
	return two
}

// same tells whether there is a way along the joins.
func (m *model) same(a, b int) bool { return slices.Contains(m.group(a), b) }

// group is all that can be come to from a thing, rising.
func (m *model) group(thing int) []int {
	met := []int{thing}
	for at := 0; at < len(met); at++ {
		for _, p := range m.pairs {
			for side := range p {
				if p[side] == met[at] && !slices.Contains(met, p[1-side]) {
					met = append(met, p[1-side])
				}
			}
		}
	}
	slices.Sort(met)
	return met
}

// all is the groups of those things that are the first ones of theirs.
func (m *model) all() [][]int {
	all := [][]int{}
	for thing := range m.n {
		if l := m.group(thing); l[0] == thing {
			all = append(all, l)
		}
	}
	return all
}
