package huff_test

import (
	"math/big"
	"slices"
)

// knot of a tree: one with symbol -1 has two below it, and each other one is a symbol.
type knot struct {
	weight, symbol int
	zero, one      *knot
}

// treeOf puts knots together by another way than the program's: they stand in the order in which they were made, and the first one of the lightest is looked for among all.
func treeOf(w []int) *knot {
	held := []*knot{}
	for symbol, weight := range w {
		held = append(held, &knot{weight: weight, symbol: symbol})
	}
	for len(held) > 1 {
		var a, b *knot
		a, held = lightest(held)
		b, held = lightest(held)
		held = append(held, &knot{weight: a.weight + b.weight, symbol: -1, zero: a, one: b})
	}
	return held[0]
}

// lightest takes the first one of the lightest away.
func lightest(held []*knot) (*knot, []*knot) {
	at := 0
	for i, k := range held {
		if k.weight < held[at].weight {
			at = i
		}
	}
	k := held[at]
	return k, slices.Delete(held, at, at+1)
}

// deep writes how deep each symbol stands below a knot.
func (k *knot) deep(depth int, lengths []int) {
	if k.symbol >= 0 {
		lengths[k.symbol] = depth
		return
	}
	k.zero.deep(depth+1, lengths)
	k.one.deep(depth+1, lengths)
}

// joined sums the weights of all knots that were put together.
func (k *knot) joined() int {
	if k.symbol >= 0 {
		return 0
	}
	return k.weight + k.zero.joined() + k.one.joined()
}

// lengthsOf is what Lengths is to answer.
func lengthsOf(w []int) []int {
	lengths := make([]int, len(w))
	treeOf(w).deep(0, lengths)
	return lengths
}

// against tells how the sum of 1 / 2^n over all lengths stands against 1: below it -1, at it 0, above it 1.
func against(l []int) int {
	sum := new(big.Rat)
	for _, n := range l {
		two := new(big.Int).Lsh(big.NewInt(1), uint(n))
		sum.Add(sum, new(big.Rat).SetFrac(big.NewInt(1), two))
	}
	return sum.Cmp(big.NewRat(1, 1))
}

// tuples makes all lists of just so many numbers from 0 to a top.
func tuples(many, top int) [][]int {
	all := [][]int{{}}
	for range many {
		longer := [][]int{}
		for _, l := range all {
			for n := range top + 1 {
				longer = append(longer, append(slices.Clone(l), n))
			}
		}
		all = longer
	}
	return all
}
