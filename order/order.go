// Package order has lists of items, and their order.
package order

import (
	"cmp"
	"slices"

	"rickstead/api"
)

// compare is below 0 if a comes first, above 0 if b does, and 0 if they are alike.
// All of this package asks it, so that there is but one order.
func compare[K cmp.Ordered](a, b K) int {
	switch {
	case a < b:
		return -1
	case b < a:
		return 1
	}
	return 0
}

// byKey leaves ids alone: items of one key are alike, whatever their ids.
func byKey(a, b api.Item) int { return compare(a.Key, b.Key) }

// Check tells what is wrong with items.
func Check(l []api.Item) error {
	if len(l) > api.MaxItems {
		return api.ErrFull
	}
	if slices.ContainsFunc(l, outside) {
		return api.ErrRange
	}
	return nil
}

// outside tells whether a number of an item is none that may be.
func outside(x api.Item) bool {
	return x.Key < -api.MaxKey || x.Key > api.MaxKey || x.Id < 0 || x.Id > api.MaxKey
}

// Sort by keys; what has one key stays in its order.
func Sort(l []api.Item) ([]api.Item, error) {
	if err := Check(l); err != nil {
		return nil, err
	}
	// Not slices.Clone: of an empty list that still points to the caller's memory.
	out := make([]api.Item, len(l))
	copy(out, l)
	slices.SortStableFunc(out, byKey)
	return out, nil
}

// Sorted tells whether keys do not fall.
func Sorted(l []api.Item) (bool, error) {
	if err := Check(l); err != nil {
		return false, err
	}
	return slices.IsSortedFunc(l, byKey), nil
}

// Inversions tells how many pairs stand the wrong way round.
func Inversions(l []api.Item) (int, error) {
	if err := Check(l); err != nil {
		return 0, err
	}
	many := 0
	for i, behind := range l {
		for _, ahead := range l[:i] {
			if byKey(behind, ahead) < 0 {
				many++
			}
		}
	}
	return many, nil
}

// Merge two sorted lists.
func Merge(a, b []api.Item) ([]api.Item, error) {
	if err := checkSorted(a); err != nil {
		return nil, err
	}
	if err := checkSorted(b); err != nil {
		return nil, err
	}
	if len(a)+len(b) > api.MaxItems {
		return nil, api.ErrFull
	}
	return merged(a, b), nil
}

// checkSorted tells what is wrong with items that are to be sorted.
func checkSorted(l []api.Item) error {
	sorted, err := Sorted(l)
	if err != nil {
		return err
	}
	if !sorted {
		return api.ErrShape
	}
	return nil
}

// merged takes two lists that are known to be sorted.
func merged(a, b []api.Item) []api.Item {
	out := make([]api.Item, 0, len(a)+len(b))
	for len(a) > 0 && len(b) > 0 {
		// Only a lesser key of b goes ahead: of one key those of a do.
		if byKey(b[0], a[0]) < 0 {
			out, b = append(out, b[0]), b[1:]
		} else {
			out, a = append(out, a[0]), a[1:]
		}
	}
	out = append(out, a...)
	return append(out, b...)
}
