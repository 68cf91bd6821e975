package soft_test

import (
	"slices"

	"rickstead/api"
)

// twig is a node whose parts stand in a list, so that a missing one leaves no gap: what is done to twigs makes new ones.
type twig struct {
	items      []api.Item
	key, wants int
	parts      []twig
}

// filled is what filling makes of a node.
func filled(n twig) twig {
	for len(n.items) < n.wants && len(n.parts) > 0 {
		first, others := n.parts[0], n.parts[1:]
		if len(others) > 0 && others[0].key < first.key {
			first, others = others[0], []twig{first}
		}
		n.items, n.key = slices.Concat(n.items, first.items), first.key
		first.items = nil
		n.parts = slices.Clone(others)
		if len(first.parts) > 0 {
			n.parts = slices.Insert(n.parts, 0, filled(first))
		}
	}
	return n
}

// all calls a function with each node of a tree.
func (n twig) all(do func(twig)) {
	do(n)
	for _, part := range n.parts {
		part.all(do)
	}
}

// model is a heap by the document's words; its trees stand at their ranks.
type model struct {
	rank, pushed int
	trees        [topRank + 2]*twig
}

// wanted has what nodes want whose rank is so many above the heap's: one and a half times as many, rounded up.
var wanted = []int{1, 2, 3, 5, 8, 12, 18, 27, 41}

func (m *model) push(x api.Item) api.Errno {
	if x.Key < -keyTop || x.Key > keyTop || x.Id < 0 || x.Id > keyTop {
		return api.ErrRange
	}
	if m.pushed == mostPushed {
		return api.ErrFull
	}
	m.pushed++
	t, rank := twig{items: []api.Item{x}, key: x.Key, wants: 1}, 0
	for m.trees[rank] != nil {
		ahead := *m.trees[rank]
		m.trees[rank] = nil
		rank++
		t = filled(twig{wants: wanted[max(0, rank-m.rank)], parts: []twig{ahead, t}})
	}
	m.trees[rank] = &t
	return api.OK
}

func (m *model) pop() (api.Item, int, api.Errno) {
	least := -1
	for rank, t := range slices.Backward(m.trees[:]) {
		if t != nil && (least < 0 || t.key <= m.trees[least].key) {
			least = rank
		}
	}
	if least < 0 {
		return api.Item{}, 0, api.ErrNone
	}
	t := *m.trees[least]
	x, key := t.items[0], t.key
	t.items = t.items[1:]
	if 2*len(t.items) <= t.wants {
		t = filled(t)
	}
	m.trees[least] = &t
	if len(t.items) == 0 {
		m.trees[least] = nil
	}
	return x, key, api.OK
}

// count tells how many items there are, and how many count as another key.
func (m *model) count() (many, wrong int) {
	for _, t := range m.trees {
		if t == nil {
			continue
		}
		t.all(func(n twig) {
			many += len(n.items)
			for _, x := range n.items {
				if x.Key != n.key {
					wrong++
				}
			}
		})
	}
	return many, wrong
}
