package tests

import (
	"cmp"
	"math"
	"slices"
	"strings"
	"testing"
	"unicode/utf16"

	"loop.example/g00532/impl"
)

const codedLimit = 4 * impl.MaxRunes

// borderRunes are the runes at the limits of one, two, three and four bytes,
// around the surrogates, of one and two units, and the one that decoders use
// as a mark of a fault.
func borderRunes() []int {
	return []int{0, 97, 127, 128, 233, 2047, 2048, 8364, 55295, 57344, 65533, 65535, 65536, 128512, sameUpper, sameUpper + 1, impl.LastRune}
}

// sameUpper is the last rune whose upper unit is that of rune 65536.
const sameUpper = 65536 + 1023

// notRunes have, among them, numbers whose lower 16, 21 or 32 bits are runes.
func notRunes() []int {
	return []int{
		-1, 55296, 56319, 56320, 57343, impl.LastRune + 1, 1<<21 + 97, math.MaxInt32, 1<<31 + 97, 1<<32 + 97, 1<<32 + 65533,
		-1 << 32, 97 - 1<<32, math.MaxUint32, math.MaxInt, math.MinInt, math.MinInt + 97, math.MinInt32,
	}
}

func plainGood(n int) bool {
	return 0 <= n && n <= 1114111 && !(55296 <= n && n <= 57343)
}

// plainBytes follows the definition of the encoding by divisions.
func plainBytes(n int) string {
	low := func(k int) byte { return byte(128 + n/k%64) }
	switch {
	case n < 128:
		return string([]byte{byte(n)})
	case n < 2048:
		return string([]byte{byte(192 + n/64), low(1)})
	case n < 65536:
		return string([]byte{byte(224 + n/4096), low(64), low(1)})
	}
	return string([]byte{byte(240 + n/262144), low(4096), low(64), low(1)})
}

// plainRune returns the rune whose encoding stands at the front of s, and the
// encoding's length, 0 if there is none.
func plainRune(s string) (int, int) {
	for size := 1; size <= min(4, len(s)); size++ {
		n := int(s[0]) - []int{0, 192, 224, 240}[size-1]
		for i := 1; i < size; i++ {
			n = n*64 + int(s[i]) - 128
		}
		if plainGood(n) && plainBytes(n) == s[:size] {
			return n, size
		}
	}
	return 0, 0
}

func plainText(l []int) string {
	var b strings.Builder
	for _, n := range l {
		b.WriteString(plainBytes(n))
	}
	return b.String()
}

func plainUnits(l []int) []int {
	var units []int
	for _, n := range l {
		for _, u := range utf16.Encode([]rune{rune(n)}) {
			units = append(units, int(u))
		}
	}
	return units
}

// borderLists are the lists of at most three border runes.
func borderLists() [][]int {
	out := [][]int{{}}
	for from := 0; len(out[from]) < 3; from++ {
		for _, n := range borderRunes() {
			out = append(out, append(slices.Clone(out[from]), n))
		}
	}
	return out
}

// faultyTexts are strings that are no sequence of encodings.
func faultyTexts() map[string]string {
	return map[string]string{
		"overlong 0 in two bytes":         "\xc0\x80",
		"overlong 127 in two bytes":       "\xc1\xbf",
		"overlong 0 in three bytes":       "\xe0\x80\x80",
		"overlong 2047 in three bytes":    "\xe0\x9f\xbf",
		"overlong 0 in four bytes":        "\xf0\x80\x80\x80",
		"overlong 8364 in four bytes":     "\xf0\x82\x82\xac",
		"overlong 65535 in four bytes":    "\xf0\x8f\xbf\xbf",
		"first surrogate":                 "\xed\xa0\x80",
		"last upper surrogate":            "\xed\xaf\xbf",
		"first lower surrogate":           "\xed\xb0\x80",
		"last surrogate":                  "\xed\xbf\xbf",
		"pair of surrogates":              "\xed\xa0\xbd\xed\xb8\x80",
		"LastRune + 1":                    "\xf4\x90\x80\x80",
		"greatest of four bytes":          "\xf7\xbf\xbf\xbf",
		"lead byte 245":                   "\xf5\x80\x80\x80",
		"five bytes":                      "\xf8\x88\x80\x80\x80",
		"six bytes":                       "\xfc\x84\x80\x80\x80\x80",
		"byte 254":                        "\xfe",
		"byte 255":                        "\xff",
		"continuation byte":               "\x80",
		"last continuation byte":          "\xbf",
		"one of two bytes":                "\xc3",
		"one of three bytes":              "\xe2",
		"two of three bytes":              "\xe2\x82",
		"three of four bytes":             "\xf0\x9f\x98",
		"lead byte and letter":            "\xc3a",
		"two of three bytes and letter":   "\xe2\x82a",
		"three of four bytes and letter":  "\xf0\x9f\x98a",
		"lead byte twice":                 "\xc3\xc3",
		"lead byte and byte above 191":    "\xc3\xc0",
		"three bytes, the last above 191": "\xe2\x82\xc0",
	}
}

func TestGoodRune(t *testing.T) {
	for n := -70000; n <= impl.LastRune+70000; n++ {
		if impl.GoodRune(n) != plainGood(n) {
			t.Fatalf("GoodRune(%d) = %v", n, !plainGood(n))
		}
	}
	for _, n := range notRunes() {
		if impl.GoodRune(n) {
			t.Errorf("GoodRune(%d) = true", n)
		}
	}
}

// TestEveryRune checks for all runes that decoding returns the encoded rune and
// that the order of the encodings is the order of the runes.
func TestEveryRune(t *testing.T) {
	before := ""
	for n := 0; n <= impl.LastRune; n++ {
		s, ok := impl.RuneBytes(n)
		if !plainGood(n) {
			if s != "" || ok {
				t.Fatalf("RuneBytes(%d) = %x, %v", n, s, ok)
			}
			continue
		}
		if s != plainBytes(n) || !ok {
			t.Fatalf("RuneBytes(%d) = %x, %v; want %x", n, s, ok, plainBytes(n))
		}
		if got, end, ok := impl.RuneAt(s, 0); got != n || end != len(s) || !ok {
			t.Fatalf("RuneAt(%x, 0) = %d, %d, %v; want %d, %d", s, got, end, ok, n, len(s))
		}
		if n > 0 && before >= s {
			t.Fatalf("the encoding %x of %d is not above %x", s, n, before)
		}
		before = s
	}
}

func TestRuneBytesLengths(t *testing.T) {
	for n, want := range map[int]int{0: 1, 127: 1, 128: 2, 2047: 2, 2048: 3, 65535: 3, 65536: 4, impl.LastRune: 4} {
		if s, ok := impl.RuneBytes(n); len(s) != want || !ok {
			t.Errorf("RuneBytes(%d) has %d bytes, %v; want %d", n, len(s), ok, want)
		}
	}
}

func TestRuneBytesInvalid(t *testing.T) {
	for _, n := range notRunes() {
		if s, ok := impl.RuneBytes(n); s != "" || ok {
			t.Errorf("RuneBytes(%d) = %x, %v", n, s, ok)
		}
	}
}

func checkRuneAt(t *testing.T, s string, at int) {
	t.Helper()
	want, size := plainRune(s[at:])
	end := 0
	if size > 0 {
		end = at + size
	}
	if got, behind, ok := impl.RuneAt(s, at); got != want || behind != end || ok != (size > 0) {
		t.Fatalf("RuneAt(%x, %d) = %d, %d, %v; want %d, %d, %v", s, at, got, behind, ok, want, end, size > 0)
	}
}

// TestRuneAtAllShort decodes all strings of one and two bytes and those of
// three and four bytes around the limits of lead and continuation bytes.
func TestRuneAtAllShort(t *testing.T) {
	for x := range 65536 {
		checkRuneAt(t, string([]byte{byte(x)}), 0)
		checkRuneAt(t, string([]byte{byte(x >> 8), byte(x)}), 0)
		checkRuneAt(t, string([]byte{byte(x >> 8), byte(x)}), 1)
	}
	border := []byte("\x00\x7f\x80\x81\x8f\x90\x9f\xa0\xaf\xb0\xbf\xc0\xc1\xc2\xdf\xe0\xe1\xec\xed\xee\xef\xf0\xf1\xf3\xf4\xf5\xf7\xf8\xff")
	for _, a := range border {
		for _, b := range border {
			for _, c := range border {
				checkRuneAt(t, string([]byte{a, b, c}), 0)
				for _, d := range border {
					checkRuneAt(t, string([]byte{a, b, c, d}), 0)
				}
			}
		}
	}
}

func TestRuneAtEveryIndex(t *testing.T) {
	s := "x" + plainText(borderRunes()) + "\xed\xa0\x80\xc0\x80y\xf0\x9f\x98"
	for at := range len(s) {
		checkRuneAt(t, s, at)
	}
}

func TestRuneAtFaults(t *testing.T) {
	for name, s := range faultyTexts() {
		if n, end, ok := impl.RuneAt("a"+s+"b", 1); n != 0 || end != 0 || ok {
			t.Errorf("%s: RuneAt(%x, 1) = %d, %d, %v", name, "a"+s+"b", n, end, ok)
		}
	}
}

func TestRuneAtOutside(t *testing.T) {
	full := strings.Repeat("\xf0\x9f\x98\x80", impl.MaxRunes)
	for _, s := range []string{"", "a", "\xe2\x82\xac", full} {
		for _, at := range []int{-1, len(s), len(s) + 1, math.MinInt, math.MaxInt, -1 << 32, 1 << 32} {
			if n, end, ok := impl.RuneAt(s, at); n != 0 || end != 0 || ok {
				t.Errorf("RuneAt of %d bytes at %d = %d, %d, %v", len(s), at, n, end, ok)
			}
		}
	}
}

func TestRuneAtLimit(t *testing.T) {
	full := strings.Repeat("a", codedLimit-2) + "\xc3\xa9"
	if n, end, ok := impl.RuneAt(full, codedLimit-2); n != 233 || end != codedLimit || !ok {
		t.Errorf("RuneAt at the end of %d bytes = %d, %d, %v", len(full), n, end, ok)
	}
	for _, s := range []string{full + "a", strings.Repeat("a", 5000)} {
		for _, at := range []int{0, codedLimit - 2, len(s) - 1} {
			if n, end, ok := impl.RuneAt(s, at); n != 0 || end != 0 || ok {
				t.Errorf("RuneAt of %d bytes at %d = %d, %d, %v", len(s), at, n, end, ok)
			}
		}
	}
}

func TestRunesOfAndTextOf(t *testing.T) {
	for _, l := range borderLists() {
		s, ok := impl.TextOf(l)
		if s != plainText(l) || !ok {
			t.Fatalf("TextOf(%v) = %x, %v; want %x", l, s, ok, plainText(l))
		}
		if back, ok := impl.RunesOf(s); !slices.Equal(back, l) || !ok {
			t.Fatalf("RunesOf(%x) = %v, %v; want %v", s, back, ok, l)
		}
	}
}

// TestRuneOrder compares the bytewise order of texts with the order of their
// lists of runes, a proper prefix being less.
func TestRuneOrder(t *testing.T) {
	lists := slices.DeleteFunc(borderLists(), func(l []int) bool { return len(l) > 2 })
	for _, a := range lists {
		for _, b := range lists {
			s, ok := impl.TextOf(a)
			r, is := impl.TextOf(b)
			if got, want := cmp.Compare(s, r), slices.Compare(a, b); got != want || !ok || !is {
				t.Fatalf("the texts of %v and %v compare as %d; want %d", a, b, got, want)
			}
			x, ok := impl.RunesOf(plainText(a))
			y, is := impl.RunesOf(plainText(b))
			if got, want := slices.Compare(x, y), cmp.Compare(plainText(a), plainText(b)); got != want || !ok || !is {
				t.Fatalf("the runes %v and %v compare as %d; want %d", x, y, got, want)
			}
		}
	}
}

func TestRunesOfFaults(t *testing.T) {
	for name, s := range faultyTexts() {
		for _, text := range []string{s, "a" + s, s + "a", "\xe2\x82\xac" + s + "\xc3\xa9", "\xef\xbf\xbd" + s} {
			if l, ok := impl.RunesOf(text); len(l) != 0 || ok {
				t.Errorf("%s: RunesOf(%x) = %v, %v", name, text, l, ok)
			}
		}
	}
}

// TestRunesOfCut cuts a text at every index; only the cuts between two runes
// leave a text.
func TestRunesOfCut(t *testing.T) {
	l := borderRunes()
	s := plainText(l)
	between := map[int]int{}
	for i := range l {
		between[len(plainText(l[:i]))] = i
	}
	for at := range len(s) {
		head, headOK := impl.RunesOf(s[:at])
		tail, tailOK := impl.RunesOf(s[at:])
		i, whole := between[at]
		if headOK != whole || tailOK != whole {
			t.Fatalf("cut at %d: %v, %v; want %v", at, headOK, tailOK, whole)
		}
		if whole && (!slices.Equal(head, l[:i]) || !slices.Equal(tail, l[i:])) {
			t.Errorf("cut at %d: %v and %v", at, head, tail)
		}
		if !whole && len(head)+len(tail) != 0 {
			t.Errorf("cut at %d: runes without true", at)
		}
	}
}

func TestRuneLimits(t *testing.T) {
	for _, n := range borderRunes() {
		l := slices.Repeat([]int{n}, impl.MaxRunes)
		s, ok := impl.TextOf(l)
		if s != plainText(l) || !ok {
			t.Errorf("TextOf of MaxRunes times %d: %d bytes, %v", n, len(s), ok)
		}
		if back, ok := impl.RunesOf(plainText(l)); !slices.Equal(back, l) || !ok {
			t.Errorf("RunesOf of MaxRunes times %d: %d runes, %v", n, len(back), ok)
		}
		for _, many := range []int{impl.MaxRunes + 1, 2 * impl.MaxRunes, codedLimit, 1000} {
			more := slices.Repeat([]int{n}, many)
			if s, ok := impl.TextOf(more); s != "" || ok {
				t.Errorf("TextOf of %d runes: %d bytes, %v", many, len(s), ok)
			}
			if l, ok := impl.RunesOf(plainText(more)); len(l) != 0 || ok {
				t.Errorf("RunesOf of %d times %d: %d runes, %v", many, n, len(l), ok)
			}
		}
	}
	full := strings.Repeat("\xf4\x8f\xbf\xbf", impl.MaxRunes)
	if l, ok := impl.RunesOf(full); len(full) != codedLimit || len(l) != impl.MaxRunes || !ok {
		t.Errorf("RunesOf of %d bytes: %d runes, %v", len(full), len(l), ok)
	}
	if l, ok := impl.RunesOf(full + "a"); len(l) != 0 || ok {
		t.Errorf("RunesOf of one byte more: %d runes, %v", len(l), ok)
	}
	if l, ok := impl.RunesOf(full[:codedLimit-1] + "\x7f"); len(l) != 0 || ok {
		t.Errorf("RunesOf of a broken last rune: %d runes, %v", len(l), ok)
	}
}

func TestRunesOfEmpty(t *testing.T) {
	if l, ok := impl.RunesOf(""); len(l) != 0 || !ok {
		t.Errorf("RunesOf of the empty string = %v, %v", l, ok)
	}
	for _, l := range [][]int{nil, {}} {
		if s, ok := impl.TextOf(l); s != "" || !ok {
			t.Errorf("TextOf of no runes = %x, %v", s, ok)
		}
	}
}

func TestListsWithNotRunes(t *testing.T) {
	for _, n := range notRunes() {
		full := slices.Repeat([]int{97}, impl.MaxRunes)
		full[impl.MaxRunes-1] = n
		for _, l := range [][]int{{n}, {n, 97}, {97, n}, {128512, n, 233}, full} {
			if s, ok := impl.TextOf(l); s != "" || ok {
				t.Errorf("TextOf(%v) = %x, %v", l, s, ok)
			}
			if u, ok := impl.PairsOf(l); len(u) != 0 || ok {
				t.Errorf("PairsOf(%v) = %v, %v", l, u, ok)
			}
		}
	}
	// A pair of surrogates is two units, but no list of runes.
	if s, ok := impl.TextOf([]int{55357, 56832}); s != "" || ok {
		t.Errorf("TextOf of a surrogate pair = %x, %v", s, ok)
	}
	if u, ok := impl.PairsOf([]int{55357, 56832}); len(u) != 0 || ok {
		t.Errorf("PairsOf of a surrogate pair = %v, %v", u, ok)
	}
}

func TestIsStart(t *testing.T) {
	for b := range 256 {
		if want := b < 128 || b >= 192; impl.IsStart(byte(b)) != want {
			t.Errorf("IsStart(%d) = %v", b, !want)
		}
	}
}

func TestNextStart(t *testing.T) {
	full := strings.Repeat("\xf0\x9f\x98\x80", impl.MaxRunes)
	for _, s := range []string{"", "a", "\x80", "\xbf\xbf", "\xe2\x82\xaca", "a\xe2\x82\xac", "\x80\x80a\x80\xc0\xff\x80", full, strings.Repeat("\x80", codedLimit)} {
		for at := 0; at <= len(s); at++ {
			want := at
			for want < len(s) && s[want]/64 == 2 {
				want++
			}
			if got, ok := impl.NextStart(s, at); got != want || !ok {
				t.Errorf("NextStart(%x, %d) = %d, %v; want %d", s, at, got, ok, want)
			}
		}
		for _, at := range []int{-1, len(s) + 1, math.MinInt, math.MaxInt, -1 << 32, 1 << 32} {
			if got, ok := impl.NextStart(s, at); got != 0 || ok {
				t.Errorf("NextStart of %d bytes at %d = %d, %v", len(s), at, got, ok)
			}
		}
	}
}

func TestNextStartTooLong(t *testing.T) {
	for _, long := range []int{codedLimit + 1, 5000} {
		for _, at := range []int{0, 1, long - 1, long} {
			if got, ok := impl.NextStart(strings.Repeat("a", long), at); got != 0 || ok {
				t.Errorf("NextStart of %d bytes at %d = %d, %v", long, at, got, ok)
			}
		}
	}
}

// TestNextStartFindsRunes steps through a text from any index by NextStart and
// RuneAt.
func TestNextStartFindsRunes(t *testing.T) {
	l := borderRunes()
	s := plainText(l)
	for from := range len(s) {
		var got []int
		at, ok := impl.NextStart(s, from)
		for ok && at < len(s) {
			var n int
			n, at, ok = impl.RuneAt(s, at)
			got = append(got, n)
		}
		if !ok || !slices.Equal(got, l[len(l)-len(got):]) {
			t.Errorf("from %d: %v, %v", from, got, ok)
		}
	}
}

func TestEveryRunePairs(t *testing.T) {
	for n := 0; n <= impl.LastRune; n++ {
		if !plainGood(n) {
			continue
		}
		want := []int{n}
		if n >= 65536 {
			want = []int{55296 + (n-65536)/1024, 56320 + (n-65536)%1024}
		}
		u, ok := impl.PairsOf([]int{n})
		if !slices.Equal(u, want) || !ok {
			t.Fatalf("PairsOf(%d) = %v, %v; want %v", n, u, ok, want)
		}
		if back, ok := impl.OfPairs(want); !slices.Equal(back, []int{n}) || !ok {
			t.Fatalf("OfPairs(%v) = %v, %v; want %d", want, back, ok, n)
		}
	}
}

func TestPairsOfLists(t *testing.T) {
	for _, l := range borderLists() {
		u, ok := impl.PairsOf(l)
		if !slices.Equal(u, plainUnits(l)) || !ok {
			t.Fatalf("PairsOf(%v) = %v, %v; want %v", l, u, ok, plainUnits(l))
		}
		if back, ok := impl.OfPairs(u); !slices.Equal(back, l) || !ok {
			t.Fatalf("OfPairs(%v) = %v, %v; want %v", u, back, ok, l)
		}
	}
	for _, l := range [][]int{nil, {}} {
		if u, ok := impl.PairsOf(l); len(u) != 0 || !ok {
			t.Errorf("PairsOf of no runes = %v, %v", u, ok)
		}
		if r, ok := impl.OfPairs(l); len(r) != 0 || !ok {
			t.Errorf("OfPairs of no units = %v, %v", r, ok)
		}
	}
}

// TestOfPairsAllShort checks all lists of at most three border units: those
// that are accepted are PairsOf the result, the others are PairsOf no list.
func TestOfPairsAllShort(t *testing.T) {
	border := []int{math.MinInt, -1, 0, 97, 55295, 55296, 55357, 56319, 56320, 56832, 57343, 57344, 65533, 65535, 65536, 128512, impl.LastRune, 1<<32 + 97, math.MaxInt}
	lists := [][]int{{}}
	for from := 0; len(lists[from]) < 3; from++ {
		for _, u := range border {
			lists = append(lists, append(slices.Clone(lists[from]), u))
		}
	}
	for _, l := range lists {
		want, good := plainOfUnits(l)
		if got, ok := impl.OfPairs(l); !slices.Equal(got, want) || ok != good {
			t.Fatalf("OfPairs(%v) = %v, %v; want %v, %v", l, got, ok, want, good)
		}
	}
}

// plainOfUnits decodes units by the standard library, which puts 65533 in place
// of a fault, and tells faults by encoding the result.
func plainOfUnits(l []int) ([]int, bool) {
	units := make([]uint16, len(l))
	for i, u := range l {
		if u < 0 || u > 65535 {
			return nil, false
		}
		units[i] = uint16(u)
	}
	var runes []int
	for _, r := range utf16.Decode(units) {
		runes = append(runes, int(r))
	}
	if !slices.Equal(plainUnits(runes), l) {
		return nil, false
	}
	return runes, true
}

func TestOfPairsUnpaired(t *testing.T) {
	for _, l := range [][]int{
		{55357}, {56832}, {56832, 55357}, {55357, 55357}, {56832, 56832}, {55357, 97}, {97, 55357}, {56832, 97}, {97, 56832},
		{55357, 55357, 56832}, {55357, 56832, 56832}, {55357, 56832, 55357}, {55357, 65536, 56832}, {55357, 57344}, {55295, 56832},
		{128512}, {65536}, {-1}, {55357, -1}, {55357, 56832 + 1<<32}, {55357 + 1<<32, 56832},
		slices.Repeat([]int{55357}, 2*impl.MaxRunes),
		append(slices.Repeat([]int{55357, 56832}, impl.MaxRunes-1), 97, 55357),
	} {
		if r, ok := impl.OfPairs(l); len(r) != 0 || ok {
			t.Errorf("OfPairs(%v) = %v, %v", l, r, ok)
		}
	}
}

func TestPairsLimits(t *testing.T) {
	for _, n := range borderRunes() {
		l := slices.Repeat([]int{n}, impl.MaxRunes)
		u, ok := impl.PairsOf(l)
		if !slices.Equal(u, plainUnits(l)) || !ok {
			t.Errorf("PairsOf of MaxRunes times %d: %d units, %v", n, len(u), ok)
		}
		if back, ok := impl.OfPairs(plainUnits(l)); !slices.Equal(back, l) || !ok {
			t.Errorf("OfPairs of the units of MaxRunes times %d: %d runes, %v", n, len(back), ok)
		}
		for _, many := range []int{impl.MaxRunes + 1, 2 * impl.MaxRunes, 2*impl.MaxRunes + 1, 1000} {
			more := slices.Repeat([]int{n}, many)
			if u, ok := impl.PairsOf(more); len(u) != 0 || ok {
				t.Errorf("PairsOf of %d runes: %d units, %v", many, len(u), ok)
			}
			if r, ok := impl.OfPairs(plainUnits(more)); len(r) != 0 || ok {
				t.Errorf("OfPairs of the units of %d times %d: %d runes, %v", many, n, len(r), ok)
			}
		}
	}
	// MaxRunes - 1 pairs and two single units: 2 * MaxRunes units, a rune too many.
	mixed := append(slices.Repeat([]int{55357, 56832}, impl.MaxRunes-1), 97, 97)
	if r, ok := impl.OfPairs(mixed); len(r) != 0 || ok {
		t.Errorf("OfPairs of %d units of MaxRunes + 1 runes: %d runes, %v", len(mixed), len(r), ok)
	}
	if r, ok := impl.OfPairs(mixed[:2*impl.MaxRunes-1]); len(r) != impl.MaxRunes || !ok {
		t.Errorf("OfPairs of %d units of MaxRunes runes: %d runes, %v", 2*impl.MaxRunes-1, len(r), ok)
	}
}

func TestLessPairs(t *testing.T) {
	lists := slices.DeleteFunc(borderLists(), func(l []int) bool { return len(l) > 2 })
	for _, a := range lists {
		for _, b := range lists {
			want := slices.Compare(plainUnits(a), plainUnits(b)) < 0
			if less, ok := impl.LessPairs(plainText(a), plainText(b)); less != want || !ok {
				t.Fatalf("LessPairs of the texts of %v and %v = %v, %v; want %v", a, b, less, ok, want)
			}
		}
	}
}

func TestLessPairsNotBytewise(t *testing.T) {
	pair, single := "\xf0\x90\x80\x80", "\xee\x80\x80"
	if less, ok := impl.LessPairs(pair, single); !less || !ok {
		t.Errorf("rune 65536 before rune 57344: %v, %v", less, ok)
	}
	if less, ok := impl.LessPairs(single, pair); less || !ok {
		t.Errorf("rune 57344 before rune 65536: %v, %v", less, ok)
	}
	if less, ok := impl.LessPairs("\xed\x9f\xbf", pair); !less || !ok {
		t.Errorf("rune 55295 before rune 65536: %v, %v", less, ok)
	}
}

func TestLessPairsLimit(t *testing.T) {
	full := strings.Repeat("\xf4\x8f\xbf\xbf", impl.MaxRunes)
	last := full[:codedLimit-4] + "\xf4\x8f\xbf\xbe"
	for _, c := range []struct {
		a, b string
		less bool
	}{
		{"", "", false}, {"", "\x00", true}, {"\x00", "", false}, {full, full, false}, {last, full, true}, {full, last, false},
		{full[:codedLimit-4], full, true}, {full, full[:codedLimit-4], false}, {"", full, true},
	} {
		if less, ok := impl.LessPairs(c.a, c.b); less != c.less || !ok {
			t.Errorf("LessPairs of %d and %d bytes = %v, %v; want %v", len(c.a), len(c.b), less, ok, c.less)
		}
	}
}

func TestLessPairsInvalid(t *testing.T) {
	bad := faultyTexts()
	bad["a byte too many"] = strings.Repeat("\xf4\x8f\xbf\xbf", impl.MaxRunes) + "a"
	bad["a rune too many"] = strings.Repeat("a", impl.MaxRunes+1)
	for name, s := range bad {
		for _, c := range [][2]string{{"", s}, {s, ""}, {"b", "a" + s}, {"a" + s, "b"}, {s, "\xf4\x8f\xbf\xbf"}, {s, s}} {
			if less, ok := impl.LessPairs(c[0], c[1]); less || ok {
				t.Errorf("%s: LessPairs(%x, %x) = %v, %v", name, c[0], c[1], less, ok)
			}
		}
	}
}

// TestRuneListsUnchanged calls the functions that take a list with lists that
// have room behind their end, changes the results, and looks at the lists.
func TestRuneListsUnchanged(t *testing.T) {
	calls := map[string]func([]int) []int{
		"TextOf": func(l []int) []int {
			s, _ := impl.TextOf(l)
			runes, _ := impl.RunesOf(s)
			return runes
		},
		"PairsOf": func(l []int) []int { u, _ := impl.PairsOf(l); return u },
		"OfPairs": func(l []int) []int { r, _ := impl.OfPairs(l); return r },
	}
	lists := [][]int{nil, {97}, {97, 8364}, {128512, 97}, {55357, 56832}, {55357}, {-1}, {97, -1}, slices.Repeat([]int{97}, 200)}
	for name, call := range calls {
		for _, l := range lists {
			// What stands behind the end would complete or break the list.
			for _, behind := range []int{-7, 97, 56832} {
				room := append(slices.Clone(l), behind, behind)
				before := slices.Clone(room)
				got := call(room[:len(l)])
				if again := call(slices.Clip(slices.Clone(l))); !slices.Equal(got, again) {
					t.Errorf("%s(%v) with %d behind it = %v; without %v", name, l, behind, got, again)
				}
				for i := range got[:cap(got)] {
					got[:cap(got)][i] = -9
				}
				if !slices.Equal(room, before) {
					t.Errorf("%s(%v) changes its argument or shares its memory", name, l)
				}
			}
		}
	}
}

func TestRunesOfIsNewMemory(t *testing.T) {
	first, _ := impl.RunesOf("a\xc3\xa9")
	clear(first)
	if second, ok := impl.RunesOf("a\xc3\xa9"); !slices.Equal(second, []int{97, 233}) || !ok {
		t.Errorf("a change to a returned list changes a later one: %v", second)
	}
}

// TestRuneFunctionsReturn gives arbitrary bytes and numbers to every function
// that takes them; none may panic.
func TestRuneFunctionsReturn(t *testing.T) {
	for long := range 300 {
		s := sampleText(long)
		l := make([]int, long)
		for i := range l {
			l[i] = int(s[i]) * []int{1, 257, 65537, -1, math.MaxInt / 255}[i%5]
		}
		for at := -2; at <= long+2; at++ {
			impl.RuneAt(s, at)
			impl.NextStart(s, at)
		}
		impl.RunesOf(s)
		impl.LessPairs(s, s)
		impl.TextOf(l)
		impl.PairsOf(l)
		impl.OfPairs(l)
	}
}

// TestAcceptedTexts checks that a text that RunesOf accepts is TextOf its
// runes, so that every list of runes has one accepted text.
func TestAcceptedTexts(t *testing.T) {
	pieces := []string{"a", "\x7f", "\xc3\xa9", "\xe2\x82\xac", "\xf0\x9f\x98\x80", "\xef\xbf\xbd", "\x80", "\xc3", "\xe2\x82", "\xf0\x9f", "\xc0\x80", "\xed\xa0\x80"}
	accepted := 0
	for _, a := range pieces {
		for _, b := range pieces {
			for _, c := range pieces {
				s := a + b + c
				l, ok := impl.RunesOf(s)
				if !ok {
					continue
				}
				accepted++
				if back, is := impl.TextOf(l); back != s || !is {
					t.Errorf("RunesOf(%x) = %v, but TextOf of it is %x", s, l, back)
				}
			}
		}
	}
	if accepted < 216 {
		t.Errorf("only %d texts are accepted", accepted)
	}
}
