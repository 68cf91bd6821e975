package code_test

import (
	"math"
	"slices"
	"strings"
	"testing"
	"unicode/utf8"

	"rickstead/api"
	"rickstead/code"
)

// TestRunesByHand: 10.3, worked out from the document's words.
func TestRunesByHand(t *testing.T) {
	for name, c := range map[string]struct {
		s    string
		want []int
	}{
		"empty":                       {"", nil},
		"one byte":                    {"a", []int{97}},
		"byte 0":                      {"\x00", []int{0}},
		"byte 127":                    {"\x7f", []int{127}},
		"two bytes":                   {"\xc3\xa4", []int{228}},
		"two bytes, the first":        {"\xc2\x80", []int{0x80}},
		"two bytes, the last":         {"\xdf\xbf", []int{0x7FF}},
		"three bytes":                 {"\xe2\x82\xac", []int{8364}},
		"three bytes, the first":      {"\xe0\xa0\x80", []int{0x800}},
		"three bytes, the last":       {"\xef\xbf\xbf", []int{0xFFFF}},
		"ahead of the surrogates":     {"\xed\x9f\xbf", []int{0xD7FF}},
		"behind the surrogates":       {"\xee\x80\x80", []int{0xE000}},
		"four bytes":                  {"\xf0\x9f\x90\x8e", []int{128014}},
		"four bytes, the first":       {"\xf0\x90\x80\x80", []int{0x10000}},
		"four bytes, the last":        {"\xf4\x8f\xbf\xbf", []int{0x10FFFF}},
		"one of each":                 {"a\xc3\xa4\xe2\x82\xac\xf0\x9f\x90\x8e", []int{97, 228, 8364, 128014}},
		"byte 200":                    {"\xc8", []int{-201}},
		"byte 128":                    {"\x80", []int{-129}},
		"byte 255":                    {"\xff", []int{-256}},
		"in a row":                    {"\xff\x80\xff\xbf\xc3", []int{-256, -129, -256, -192, -196}},
		"between runes":               {"a\xffb\x80\xc3\xa4\xfe\xe2\x82\xac", []int{97, -256, 98, -129, 228, -255, 8364}},
		"at the end":                  {"ab\xfd", []int{97, 98, -254}},
		"two bytes, cut short":        {"\xc3", []int{-196}},
		"two bytes, cut by a letter":  {"\xc3z", []int{-196, 122}},
		"three, cut to one":           {"\xe2", []int{-227}},
		"three, cut to two":           {"\xe2\x82", []int{-227, -131}},
		"three, cut by a letter":      {"\xe2\x82z", []int{-227, -131, 122}},
		"three, cut by a rune":        {"\xe2\x82\xe2\x82\xac", []int{-227, -131, 8364}},
		"three, cut by two":           {"\xe2\xc3\xa4", []int{-227, 228}},
		"four, cut to one":            {"\xf0", []int{-241}},
		"four, cut to two":            {"\xf0\x9f", []int{-241, -160}},
		"four, cut to three":          {"\xf0\x9f\x90", []int{-241, -160, -145}},
		"four, cut by a letter":       {"\xf0\x9f\x90z", []int{-241, -160, -145, 122}},
		"two, one too many":           {"\xc3\xa4\xa4", []int{228, -165}},
		"three, one too many":         {"\xe2\x82\xac\x82", []int{8364, -131}},
		"four, one too many":          {"\xf0\x9f\x90\x8e\x8e", []int{128014, -143}},
		"0 in two bytes":              {"\xc0\x80", []int{-193, -129}},
		"a slash in two bytes":        {"\xc0\xaf", []int{-193, -176}},
		"127 in two bytes":            {"\xc1\xbf", []int{-194, -192}},
		"0 in three bytes":            {"\xe0\x80\x80", []int{-225, -129, -129}},
		"0x7FF in three bytes":        {"\xe0\x9f\xbf", []int{-225, -160, -192}},
		"0 in four bytes":             {"\xf0\x80\x80\x80", []int{-241, -129, -129, -129}},
		"0xFFFF in four bytes":        {"\xf0\x8f\xbf\xbf", []int{-241, -144, -192, -192}},
		"0xD800":                      {"\xed\xa0\x80", []int{-238, -161, -129}},
		"0xDFFF":                      {"\xed\xbf\xbf", []int{-238, -192, -192}},
		"a pair of surrogates":        {"\xed\xa0\xbd\xed\xb0\x8e", []int{-238, -161, -190, -238, -177, -143}},
		"0x110000":                    {"\xf4\x90\x80\x80", []int{-245, -145, -129, -129}},
		"0x140000":                    {"\xf5\x80\x80\x80", []int{-246, -129, -129, -129}},
		"five bytes":                  {"\xf8\x88\x80\x80\x80", []int{-249, -137, -129, -129, -129}},
		"replacement character":       {"\xef\xbf\xbd", []int{65533}},
		"replacement, and a byte":     {"\xef\xbf\xbd\xff\xef\xbf\xbd", []int{65533, -256, 65533}},
		"replacement, cut short":      {"\xef\xbf", []int{-240, -192}},
		"replacement, cut, and whole": {"\xef\xbf\xef\xbf\xbd", []int{-240, -192, 65533}},
		"a mark ahead of texts":       {"\xef\xbb\xbfa", []int{0xFEFF, 97}},
		"no runes are put together":   {"e\xcc\x81", []int{101, 0x301}},
	} {
		got, err := code.Runes(c.s)
		fails(t, name, err, api.OK)
		if !slices.Equal(got, c.want) {
			t.Errorf("%s: Runes(%q): got %v, want %v", name, c.s, got, c.want)
		}
		back, err := code.Text(c.want)
		fails(t, name, err, api.OK)
		if back != c.s {
			t.Errorf("%s: Text(%v): got %q, want %q", name, c.want, back, c.s)
		}
	}
}

// read holds what Runes answers against the other way, and writes it again.
func read(t *testing.T, s string) {
	t.Helper()
	got, err := code.Runes(s)
	fails(t, "Runes", err, api.OK)
	if want := runesOf(s); !slices.Equal(got, want) {
		t.Errorf("Runes(%q): got %v, want %v", s, got, want)
	}
	if back, err := code.Text(got); back != s || err != nil {
		t.Errorf("Text(%v): got %q, %v, want %q", got, back, err, s)
	}
}

// TestRunes: 10.3: all texts of two bytes, and all short ones of bytes at which something changes.
func TestRunes(t *testing.T) {
	for a := range 256 {
		read(t, string([]byte{byte(a)}))
		for b := range 256 {
			read(t, string([]byte{byte(a), byte(b)}))
		}
	}
	for _, text := range texts("\x00\x7f\x80\x8f\x90\x9f\xa0\xbf\xc0\xc1\xc2\xdf\xe0\xe1\xec\xed\xee\xef\xf0\xf1\xf3\xf4\xf5\xff", 3) {
		read(t, text)
	}
	for _, text := range texts("a\x80\x8f\x90\xbf\xc2\xe0\xed\xf0\xf4\xff", 4) {
		read(t, text)
		read(t, text+"\xbf")
	}
	for i := range 2000 {
		b := []byte{}
		for _, n := range mixed(i, i%(bytesTop+1), 255) {
			// Few small bytes, so that there are runes that are cut short.
			if i%2 == 0 {
				n |= 0x80
			}
			b = append(b, byte(n))
		}
		read(t, string(b))
	}
}

// TestRunesAtBounds: 10.3: just MaxText bytes are read, one more is refused, whatever they are.
func TestRunesAtBounds(t *testing.T) {
	for _, part := range []string{"a", "\x00", "\xff", "\x80", "\xc3\xa4", "\xe2\x82\xac", "\xf0\x9f\x90\x8e", "\xed\xa0\x80", "\xef\xbf\xbd", "\xf4\x90\x80\x80"} {
		text := strings.Repeat(part, bytesTop/len(part))
		read(t, text)
		read(t, text[1:])
		for _, more := range []string{"a", "\x00", "\xff", "\xbf", part, text, strings.Repeat(part, 1<<16)} {
			for _, long := range []string{text + more, more + text} {
				got, err := code.Runes(long)
				fails(t, "Runes", err, api.ErrFull)
				if len(got) != 0 {
					t.Errorf("Runes of %d bytes: got %v beside an error", len(long), got)
				}
			}
		}
	}
}

// TestTextByHand: 10.3: what Runes never answers, but Text takes.
func TestTextByHand(t *testing.T) {
	for name, c := range map[string]struct {
		l    []int
		want string
	}{
		"no number":                {nil, ""},
		"empty":                    {[]int{}, ""},
		"bytes that make a rune":   {[]int{-196, -165}, "\xc3\xa4"},
		"bytes that make a great":  {[]int{-241, -160, -145, -143}, "\xf0\x9f\x90\x8e"},
		"a byte 200":               {[]int{-201}, "\xc8"},
		"ranges' ends":             {[]int{-256, -129, 0, 0xD7FF, 0xE000, 0x10FFFF}, "\xff\x80\x00\xed\x9f\xbf\xee\x80\x80\xf4\x8f\xbf\xbf"},
		"runes beside bytes":       {[]int{-256, 255, -129, 128}, "\xff\xc3\xbf\x80\xc2\x80"},
		"replacement character":    {[]int{65533}, "\xef\xbf\xbd"},
		"runes that are no signs":  {[]int{0xFFFE, 0xFFFF, 0x1FFFF}, "\xef\xbf\xbe\xef\xbf\xbf\xf0\x9f\xbf\xbf"},
		"as many bytes as runes":   {[]int{0x7F, 0x80, 0x7FF, 0x800, 0xFFFF, 0x10000}, "\x7f\xc2\x80\xdf\xbf\xe0\xa0\x80\xef\xbf\xbf\xf0\x90\x80\x80"},
		"a byte that belongs to a": {[]int{97, -227, -131, 97}, "a\xe2\x82a"},
	} {
		got, err := code.Text(c.l)
		fails(t, name, err, api.OK)
		if got != c.want {
			t.Errorf("%s: Text(%v): got %q, want %q", name, c.l, got, c.want)
		}
	}
}

// TestText: 10.3: each number from far below the ranges to far above them, alone.
func TestText(t *testing.T) {
	for n := -2000; n <= 0x120000; n++ {
		got, err := code.Text([]int{n})
		if !may(n) {
			untold(t, []int{n}, api.ErrRange)
			continue
		}
		if want := textOf([]int{n}); got != want || err != nil {
			t.Errorf("Text of %d: got %q, %v, want %q", n, got, err, want)
		}
		if n < 0 || utf8.ValidString(got) {
			continue
		}
		t.Errorf("Text of %d: got %q, which is no UTF-8", n, got)
	}
}

// untold wants an error of Text, and nothing beside it.
func untold(t *testing.T, l []int, want api.Errno) {
	t.Helper()
	got, err := code.Text(l)
	fails(t, "Text", err, want)
	if got != "" {
		t.Errorf("Text(%v): got %q beside an error", l, got)
	}
}

// unknown: numbers in none of the ranges.
func unknown() []int {
	return []int{
		-257, -258, -128, -127, -2, -1, 0xD800, 0xD801, 0xDABC, 0xDFFE, 0xDFFF, 0x110000, 0x110001, 0x1FFFFF, 0x7FFFFFFF, 0x80000000,
		1 << 32, 1<<32 + 97, 1<<32 - 200, -1 << 32, 97 - 1<<32, -200 - 1<<32, 1 << 62, math.MaxInt, math.MaxInt - 200, math.MinInt, math.MinInt + 97,
	}
}

// TestTextFaulty: 10.3, P1: numbers in none of the ranges, alone and among others.
func TestTextFaulty(t *testing.T) {
	for _, n := range unknown() {
		for _, l := range [][]int{{n}, {97, n}, {n, 97}, {-129, n, 8364}, {n, n}, append(same(bytesTop, 97), n), append(same(15, 0x10000), n), append(same(59, 97), n)} {
			untold(t, l, api.ErrRange)
		}
	}
}

// TestTextAtBounds: 10.3: just MaxText bytes are written, and a number more is refused.
func TestTextAtBounds(t *testing.T) {
	for _, n := range []int{0, 97, -129, -256, 228, 8364, 128014, 0x10FFFF} {
		long := len(textOf([]int{n}))
		l := same(bytesTop/long, n)
		if got, err := code.Text(l); got != textOf(l) || len(got) != bytesTop || err != nil {
			t.Errorf("Text(%v): got %q, %v", l, got, err)
		}
		for _, more := range []int{0, 97, -129, -256, 228, 8364, 128014} {
			untold(t, append(slices.Clone(l), more), api.ErrFull)
			untold(t, append([]int{more}, l...), api.ErrFull)
		}
		untold(t, slices.Repeat(l, 1<<12), api.ErrFull)
	}
	for left := range 4 {
		for _, n := range []int{97, 228, 8364, 128014} {
			l := append(same(bytesTop-left, 97), n)
			if len(textOf(l)) > bytesTop {
				untold(t, l, api.ErrFull)
			} else if got, err := code.Text(l); got != textOf(l) || err != nil {
				t.Errorf("Text(%v): got %q, %v", l, got, err)
			}
		}
	}
}

// TestTextFirstFault: 10.3, P3: number by number, what is wrong with the first that has a fault.
func TestTextFirstFault(t *testing.T) {
	full := same(bytesTop, 97)
	for _, n := range unknown() {
		for _, l := range [][]int{append([]int{n}, full...), joined([]int{n}, full, full), joined(full, []int{n}), joined(full, []int{n, 97}), joined(full[1:], []int{n, 8364}), joined(full[1:], []int{n, n, n})} {
			untold(t, l, api.ErrRange)
		}
		for _, l := range [][]int{joined(full, []int{97, n}), joined(full, full, []int{n}), joined(full[1:], []int{8364, n}), joined(full[2:], []int{128014, n, 97}), joined(same(15, 0x10000), []int{-256, n})} {
			untold(t, l, api.ErrFull)
		}
	}
}

// TestTextMixed: 10.3: numbers of all kinds, one behind the other.
func TestTextMixed(t *testing.T) {
	for i := range 3000 {
		l, long := []int{}, 0
		for _, n := range mixed(i, i%70, 0x110100) {
			n = []int{n, n%128 - 256, n % 128, n % 0x800, n%0x400 - 300}[n%5]
			l = append(l, n)
		}
		want := api.OK
		for place, n := range l {
			if !may(n) {
				want = api.ErrRange
			} else if long += len(textOf(l[place : place+1])); long > bytesTop {
				want = api.ErrFull
			}
			if want != api.OK {
				break
			}
		}
		if want != api.OK {
			untold(t, l, want)
		} else if got, err := code.Text(l); got != textOf(l) || err != nil {
			t.Errorf("Text(%v): got %q, %v", l, got, err)
		}
	}
}
