package code_test

import (
	"slices"
	"strings"
	"testing"

	"rickstead/api"
	"rickstead/code"
)

// TestEncodeByHand: 10.2, worked out from the document's words.
func TestEncodeByHand(t *testing.T) {
	for name, c := range map[string]struct {
		l, symbols []int
		want       string
	}{
		"no symbols":                {[]int{1, 1}, nil, ""},
		"no symbols, no codes":      {nil, nil, ""},
		"no symbols, lengths 0":     {[]int{0, 0}, []int{}, ""},
		"one code of one bit":       {[]int{1}, []int{0}, "0"},
		"the same, three times":     {[]int{1}, []int{0, 0, 0}, "000"},
		"one code, long":            {[]int{3}, []int{0, 0}, "000000"},
		"two":                       {[]int{1, 1}, []int{0, 1, 1, 0}, "0110"},
		"three":                     {[]int{2, 2, 1}, []int{0, 1, 2}, "10110"},
		"three, another order":      {[]int{2, 2, 1}, []int{2, 1, 0, 2}, "011100"},
		"a length of 0 is left out": {[]int{0, 2, 0, 2, 1, 0}, []int{1, 3, 4}, "10110"},
		"room left":                 {[]int{5, 1, 3}, []int{0, 1, 2, 0}, "10100010010100"},
		"MaxLong bits":              {[]int{1, 20}, []int{1, 0}, "100000000000000000000"},
	} {
		got, err := code.Encode(c.l, c.symbols)
		fails(t, name, err, api.OK)
		if got != c.want {
			t.Errorf("%s: Encode(%v, %v): got %q, want %q", name, c.l, c.symbols, got, c.want)
		}
		back, err := code.Decode(c.l, c.want)
		fails(t, name, err, api.OK)
		if !slices.Equal(back, c.symbols) {
			t.Errorf("%s: Decode(%v, %q): got %v, want %v", name, c.l, c.want, back, c.symbols)
		}
	}
}

// withCodes tells the symbols that have a code.
func withCodes(l []int) []int {
	symbols := []int{}
	for symbol, n := range l {
		if n > 0 {
			symbols = append(symbols, symbol)
		}
	}
	return symbols
}

// TestEncode: 10.2: as many symbols as there may be, of all that have a code, and read back.
func TestEncode(t *testing.T) {
	for i, l := range right() {
		codes, symbols, want := codesOf(l), []int{}, ""
		may := withCodes(l)
		for _, n := range mixed(i, bitsTop, 1<<20) {
			if len(may) == 0 || len(want)+l[may[n%len(may)]] > bitsTop {
				break
			}
			symbols = append(symbols, may[n%len(may)])
			want += codes[may[n%len(may)]]
		}
		got, err := code.Encode(l, symbols)
		fails(t, "Encode", err, api.OK)
		if got != want {
			t.Errorf("Encode(%v, %v): got %q, want %q", l, symbols, got, want)
		}
		back, err := code.Decode(l, want)
		fails(t, "Decode", err, api.OK)
		if !slices.Equal(back, symbols) {
			t.Errorf("Decode(%v, %q): got %v, want %v", l, want, back, symbols)
		}
	}
}

// TestEncodeAtBounds: 10.2: just MaxBits bits are written and read, and one symbol more is refused.
func TestEncodeAtBounds(t *testing.T) {
	for _, c := range []struct {
		l, symbols []int
	}{
		{[]int{1}, same(400, 0)}, {[]int{1, 1}, same(400, 1)}, {[]int{2}, same(200, 0)}, {[]int{20}, same(20, 0)}, {[]int{1, 20}, same(20, 1)},
		{[]int{1, 2}, append(same(399-1, 0), 1)}, {[]int{1, 2}, append([]int{1}, same(398, 0)...)}, {[]int{3, 1}, append(same(133, 0), 1)},
	} {
		got, err := code.Encode(c.l, c.symbols)
		fails(t, "Encode", err, api.OK)
		if len(got) != bitsTop {
			t.Errorf("Encode(%v, %v): got %d bits", c.l, c.symbols, len(got))
		}
		back, err := code.Decode(c.l, got)
		fails(t, "Decode", err, api.OK)
		if !slices.Equal(back, c.symbols) {
			t.Errorf("Decode(%v, %q): got %v", c.l, got, back)
		}
		for _, more := range withCodes(c.l) {
			refused(t, c.l, append(slices.Clone(c.symbols), more), api.ErrFull)
		}
	}
}

// refused wants an error of Encode, and nothing beside it.
func refused(t *testing.T, l, symbols []int, want api.Errno) {
	t.Helper()
	got, err := code.Encode(l, symbols)
	fails(t, "Encode", err, want)
	if got != "" {
		t.Errorf("Encode(%v, %v): got %q beside an error", l, symbols, got)
	}
}

// TestEncodeFaulty: 10.2, P1, P3: what is wrong with symbols.
func TestEncodeFaulty(t *testing.T) {
	for _, n := range beyond(4) {
		l := []int{3, 0, 2, 2, 3}
		for _, symbols := range [][]int{{n}, {0, n}, {n, 0}, {0, 2, n, 3, 4}, {n, n}, append(same(133, 0), n)} {
			refused(t, l, symbols, api.ErrRange)
		}
		refused(t, nil, []int{n}, api.ErrRange)
	}
	for _, n := range beyond(most - 1) {
		refused(t, same(most, 0), []int{n}, api.ErrRange)
	}
	for _, l := range right() {
		for _, symbol := range []int{-1, len(l), -len(l) - 1, len(l) + 1} {
			refused(t, l, []int{symbol}, api.ErrRange)
		}
		for symbol, n := range l {
			if n == 0 {
				refused(t, l, []int{symbol}, api.ErrNone)
			}
		}
	}
	for _, many := range []int{401, 402, 500, 1 << 20} {
		refused(t, []int{1}, make([]int, many), api.ErrFull)
	}
	refused(t, []int{20}, same(21, 0), api.ErrFull)
	refused(t, []int{3}, same(134, 0), api.ErrFull)
	refused(t, []int{19}, same(22, 0), api.ErrFull)
}

// TestEncodeFirstFault: 10.2, P3: symbol by symbol, what is wrong with the first that has a fault.
func TestEncodeFirstFault(t *testing.T) {
	l := []int{1, 0, 2}
	full := same(400, 0)
	for _, c := range []struct {
		symbols []int
		want    api.Errno
	}{
		{[]int{1}, api.ErrNone}, {[]int{0, 1}, api.ErrNone}, {[]int{1, 0}, api.ErrNone}, {[]int{2, 0, 1, 2}, api.ErrNone},
		{[]int{1, 3}, api.ErrNone}, {[]int{3, 1}, api.ErrRange}, {[]int{1, -1}, api.ErrNone}, {[]int{-1, 1}, api.ErrRange}, {[]int{0, 1, 3}, api.ErrNone}, {[]int{0, 3, 1}, api.ErrRange},
		{joined(full, []int{1}), api.ErrNone}, {joined(full, []int{3}), api.ErrRange}, {joined(full, []int{0}), api.ErrFull}, {joined(full, []int{2}), api.ErrFull},
		{joined(full, []int{0, 1}), api.ErrFull}, {joined(full, []int{0, 3}), api.ErrFull}, {joined(full, []int{1, 0}), api.ErrNone}, {joined(full, []int{-1, 0}), api.ErrRange},
		{joined([]int{1}, full, full), api.ErrNone}, {joined([]int{3}, full, full), api.ErrRange}, {joined(full[:399], []int{2, 1}), api.ErrFull}, {joined(full[:399], []int{2, 3}), api.ErrFull},
		{joined(full[:399], []int{1, 2}), api.ErrNone}, {joined(full[:399], []int{-5, 2}), api.ErrRange},
	} {
		refused(t, l, c.symbols, c.want)
	}
}

// TestLengthsFirst: 10.2, P3: all that Make refuses is told ahead of what is wrong with symbols and texts, and where nothing is.
func TestLengthsFirst(t *testing.T) {
	for _, c := range faults() {
		for _, symbols := range [][]int{nil, {0}, {-1}, {len(c.l)}, {0, 1}, make([]int, 500)} {
			refused(t, c.l, symbols, c.want)
		}
		for _, text := range []string{"", "0", "1", "2", "0101", strings.Repeat("0", bitsTop), strings.Repeat("0", bitsTop+1)} {
			unread(t, c.l, text, c.want)
		}
	}
}

// unread wants an error of Decode, and nothing beside it.
func unread(t *testing.T, l []int, text string, want api.Errno) {
	t.Helper()
	got, err := code.Decode(l, text)
	fails(t, "Decode", err, want)
	if len(got) != 0 {
		t.Errorf("Decode(%v, %q): got %v beside an error", l, text, got)
	}
}

// TestDecode: 10.2: all short texts of bits, held against all that symbols can write.
func TestDecode(t *testing.T) {
	const long = 9
	tried := slices.Concat(tuples(1, 3), tuples(2, 4), tuples(3, 3), filling(), roomLeft(), codeless())
	for _, l := range tried {
		if !fits(l) {
			continue
		}
		known := written(codesOf(l), long)
		for many := range long + 1 {
			for _, text := range texts("01", many) {
				want, some := known[text]
				if !some {
					unread(t, l, text, api.ErrSyntax)
					continue
				}
				got, err := code.Decode(l, text)
				fails(t, "Decode", err, api.OK)
				if !slices.Equal(got, want) {
					t.Errorf("Decode(%v, %q): got %v, want %v", l, text, got, want)
				}
			}
		}
	}
}

// TestDecodeFaulty: 10.2, P1: texts that are no codes, one behind the other.
func TestDecodeFaulty(t *testing.T) {
	for name, c := range map[string]struct {
		l    []int
		text string
	}{
		"within a code":                  {[]int{2, 2, 1}, "1"},
		"within a second code":           {[]int{2, 2, 1}, "101"},
		"within a long code":             {[]int{1, 20}, "1000000000000000000"},
		"room left":                      {[]int{2, 2, 2}, "11"},
		"room left, behind codes":        {[]int{2, 2, 2}, "000111"},
		"room left, ahead of codes":      {[]int{2, 2, 2}, "1100"},
		"room left, one code":            {[]int{1}, "1"},
		"room left, one code ahead":      {[]int{1}, "0001"},
		"room left, one code behind":     {[]int{1}, "10"},
		"no symbol":                      {nil, "0"},
		"no symbol has a code":           {[]int{0, 0}, "0"},
		"no symbol has a code, and a 1":  {[]int{0, 0}, "1"},
		"no symbol has a code, MaxCodes": {same(most, 0), "01"},
		"no symbol has a code, no bits":  {[]int{0}, " "},
		"a 2":                            {[]int{1, 1}, "2"},
		"a 2 behind bits":                {[]int{1, 1}, "012"},
		"a 2 ahead of bits":              {[]int{1, 1}, "201"},
		"a 2 within a code":              {[]int{2, 2, 1}, "0121"},
		"a blank":                        {[]int{1, 1}, "0 1"},
		"a blank behind":                 {[]int{1, 1}, "01 "},
		"a line's end":                   {[]int{1, 1}, "01\n"},
		"byte 0":                         {[]int{1, 1}, "\x00"},
		"byte 1":                         {[]int{1, 1}, "\x01"},
		"byte 255":                       {[]int{1, 1}, "0\xff"},
		"a slash":                        {[]int{1, 1}, "0/"},
		"a sign":                         {[]int{1, 1}, "+1"},
		"a digit of another script":      {[]int{1, 1}, "\u0660"},
		"a wide digit":                   {[]int{1, 1}, "\uff10"},
	} {
		got, err := code.Decode(c.l, c.text)
		fails(t, name, err, api.ErrSyntax)
		if len(got) != 0 {
			t.Errorf("%s: got %v beside an error", name, got)
		}
	}
	for b := range 256 {
		if b != '0' && b != '1' {
			for _, text := range []string{string([]byte{byte(b)}), string([]byte{'0', byte(b)}), string([]byte{byte(b), '1'})} {
				unread(t, []int{1, 1}, text, api.ErrSyntax)
				unread(t, same(4, 2), text, api.ErrSyntax)
			}
		}
	}
}

// TestDecodeAtBounds: 10.2: just MaxBits bytes are read, one more is refused ahead of what they are.
func TestDecodeAtBounds(t *testing.T) {
	for _, c := range []struct {
		l    []int
		bits string
	}{{[]int{1}, "0"}, {[]int{1, 1}, "1"}, {[]int{1, 1}, "01"}, {same(4, 2), "0111"}, {[]int{20}, strings.Repeat("0", 20)}, {[]int{2, 2, 1}, "10110"}} {
		text := strings.Repeat(c.bits, bitsTop/len(c.bits))
		got, err := code.Decode(c.l, text)
		fails(t, "Decode", err, api.OK)
		if back, err := code.Encode(c.l, got); back != text || err != nil {
			t.Errorf("Decode(%v, %q): got %v", c.l, text, got)
		}
		unread(t, c.l, text[1:]+"2", api.ErrSyntax)
		for _, more := range []string{"0", "1", "2", "\xff", c.bits, text} {
			unread(t, c.l, text+more, api.ErrFull)
			unread(t, c.l, more+text, api.ErrFull)
		}
	}
	for _, l := range codeless() {
		unread(t, l, strings.Repeat("0", bitsTop), api.ErrSyntax)
		unread(t, l, strings.Repeat("0", bitsTop+1), api.ErrFull)
		unread(t, l, strings.Repeat("2", bitsTop+1), api.ErrFull)
		unread(t, l, strings.Repeat("0", 1<<20), api.ErrFull)
		got, err := code.Decode(l, "")
		fails(t, "Decode", err, api.OK)
		if len(got) != 0 {
			t.Errorf("Decode(%v, \"\"): got %v", l, got)
		}
	}
}
