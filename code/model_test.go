package code_test

import (
	"math/big"
	"slices"
	"strings"
)

// codesOf is what Make is to answer, by another way than the program's: a code is the sum of 1 / 2^n over all symbols ahead of it, written as so many binary places.
func codesOf(l []int) []string {
	codes := make([]string, len(l))
	sum := new(big.Rat)
	for _, symbol := range inOrder(l) {
		codes[symbol] = places(sum, l[symbol])
		sum.Add(sum, part(l[symbol]))
	}
	return codes
}

// inOrder tells the symbols that have a code, by rising length, and of one length by rising symbol.
func inOrder(l []int) []int {
	symbols := []int{}
	for symbol, n := range l {
		if n > 0 {
			symbols = append(symbols, symbol)
		}
	}
	slices.SortStableFunc(symbols, func(a, b int) int { return l[a] - l[b] })
	return symbols
}

// part is 1 / 2^n.
func part(n int) *big.Rat {
	return new(big.Rat).SetFrac(big.NewInt(1), new(big.Int).Lsh(big.NewInt(1), uint(n)))
}

// places writes a quotient below 1 as so many binary places.
func places(q *big.Rat, many int) string {
	q, text := new(big.Rat).Set(q), ""
	for range many {
		q.Add(q, q)
		if q.Cmp(big.NewRat(1, 1)) >= 0 {
			q.Sub(q, big.NewRat(1, 1))
			text += "1"
		} else {
			text += "0"
		}
	}
	return text
}

// fits tells whether the sum of 1 / 2^n over all lengths above 0 is no more than 1.
func fits(l []int) bool {
	sum := new(big.Rat)
	for _, n := range l {
		if n > 0 {
			sum.Add(sum, part(n))
		}
	}
	return sum.Cmp(big.NewRat(1, 1)) <= 0
}

// written tells of each text of up to so many bits that codes can write the symbols that it is.
func written(codes []string, long int) map[string][]int {
	all := map[string][]int{"": {}}
	fresh := []string{""}
	for len(fresh) > 0 {
		longer := []string{}
		for _, text := range fresh {
			for symbol, code := range codes {
				if code == "" || len(text)+len(code) > long {
					continue
				}
				all[text+code] = append(slices.Clone(all[text]), symbol)
				longer = append(longer, text+code)
			}
		}
		fresh = longer
	}
	return all
}

// texts makes all texts of just so many bytes out of a few.
func texts(from string, many int) []string {
	all := []string{""}
	for range many {
		longer := []string{}
		for _, text := range all {
			for i := range len(from) {
				longer = append(longer, text+from[i:i+1])
			}
		}
		all = longer
	}
	return all
}

// tuples makes all lists of just so many numbers from 0 to a top.
func tuples(many, top int) [][]int {
	all := [][]int{{}}
	for range many {
		longer := [][]int{}
		for _, l := range all {
			for n := range top + 1 {
				longer = append(longer, append(slices.Clone(l), n))
			}
		}
		all = longer
	}
	return all
}

// form of runes of a kind: the first byte is from one number to another one, and so is the second; all others are from 0x80 to 0xBF.
type form struct{ long, from, to, secondFrom, secondTo int }

// forms are all that UTF-8 knows, as its standard writes them in a table.
func forms() []form {
	return []form{
		{1, 0x00, 0x7F, 0, 0},
		{2, 0xC2, 0xDF, 0x80, 0xBF},
		{3, 0xE0, 0xE0, 0xA0, 0xBF}, {3, 0xE1, 0xEC, 0x80, 0xBF}, {3, 0xED, 0xED, 0x80, 0x9F}, {3, 0xEE, 0xEF, 0x80, 0xBF},
		{4, 0xF0, 0xF0, 0x90, 0xBF}, {4, 0xF1, 0xF3, 0x80, 0xBF}, {4, 0xF4, 0xF4, 0x80, 0x8F},
	}
}

// longOf tells how long the rune is with which a text begins, or 0.
func longOf(s string) int {
	within := func(at, from, to int) bool { return from <= int(s[at]) && int(s[at]) <= to }
	for _, f := range forms() {
		if len(s) < f.long || !within(0, f.from, f.to) || f.long > 1 && !within(1, f.secondFrom, f.secondTo) {
			continue
		}
		right := true
		for at := 2; at < f.long; at++ {
			right = right && within(at, 0x80, 0xBF)
		}
		if right {
			return f.long
		}
	}
	return 0
}

// runesOf is what Runes is to answer, by another way than the program's: the bits of a rune's bytes, added up.
func runesOf(s string) []int {
	l := []int{}
	for len(s) > 0 {
		long := longOf(s)
		if long == 0 {
			l, s = append(l, -1-int(s[0])), s[1:]
			continue
		}
		n := int(s[0])
		if long > 1 {
			n %= 1 << (7 - long)
		}
		for at := 1; at < long; at++ {
			n = n*64 + int(s[at])%64
		}
		l, s = append(l, n), s[long:]
	}
	return l
}

// may tells whether a number is one that Text knows.
func may(n int) bool {
	return -256 <= n && n <= -129 || 0 <= n && n <= 0xD7FF || 0xE000 <= n && n <= 0x10FFFF
}

// textOf is what Text is to answer to numbers that it knows, by another way than the program's.
func textOf(l []int) string {
	b := strings.Builder{}
	for _, n := range l {
		switch {
		case n < 0:
			// -256 is byte 255, and each number above it is a byte less.
			b.WriteByte(byte(255 - (n + 256)))
		case n < 0x80:
			b.WriteByte(byte(n))
		case n < 0x800:
			b.Write([]byte{byte(0xC0 + n/64), byte(0x80 + n%64)})
		case n < 0x10000:
			b.Write([]byte{byte(0xE0 + n/4096), byte(0x80 + n/64%64), byte(0x80 + n%64)})
		default:
			b.Write([]byte{byte(0xF0 + n/262144), byte(0x80 + n/4096%64), byte(0x80 + n/64%64), byte(0x80 + n%64)})
		}
	}
	return b.String()
}
