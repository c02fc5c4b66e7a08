package tests

import (
	"encoding/base64"
	"encoding/hex"
	"math"
	"regexp"
	"slices"
	"strings"
	"testing"

	"loop.example/g00532/impl"
)

const (
	signsLimit = 800
	hexLimit   = 2 * impl.MaxText
	armorLimit = 1000
)

// allSigns is the alphabet, spelled out as the document names it.
func allSigns() string {
	var b strings.Builder
	for _, span := range []string{"AZ", "az", "09", "++", "//"} {
		for c := int(span[0]); c <= int(span[1]); c++ {
			b.WriteByte(byte(c))
		}
	}
	return b.String()
}

func plainSigns(s string) string {
	return base64.StdEncoding.EncodeToString([]byte(s))
}

// plainOfSigns decodes by the standard library, which passes over line ends.
func plainOfSigns(t string) (string, bool) {
	s, err := base64.StdEncoding.Strict().DecodeString(t)
	if err != nil || strings.ContainsAny(t, "\r\n") || len(t) > signsLimit {
		return "", false
	}
	return string(s), true
}

// plainOfHex decodes by the standard library, which takes capital letters too.
func plainOfHex(t string) (string, bool) {
	s, err := hex.DecodeString(t)
	if err != nil || t != strings.ToLower(t) || len(t) > hexLimit {
		return "", false
	}
	return string(s), true
}

func plainArmor(name string, s string) string {
	b := "-----BEGIN " + name + "-----\n"
	for i, c := range plainSigns(s) {
		if i > 0 && i%64 == 0 {
			b += "\n"
		}
		b += string(c)
	}
	if s != "" {
		b += "\n"
	}
	return b + "-----END " + name + "-----\n"
}

var armorForm = regexp.MustCompile(`\A-----BEGIN ([A-Z]{1,16})-----\n((?:[^\n]{64}\n)*(?:[^\n]{1,63}\n)?)-----END ([A-Z]{1,16})-----\n\z`)

func plainOfArmor(t string) (string, string, bool) {
	m := armorForm.FindStringSubmatch(t)
	if m == nil || m[1] != m[3] || len(t) > armorLimit {
		return "", "", false
	}
	s, ok := plainOfSigns(strings.ReplaceAll(m[2], "\n", ""))
	if !ok {
		return "", "", false
	}
	return m[1], s, true
}

func checkOfSigns(t *testing.T, text string) {
	t.Helper()
	want, good := plainOfSigns(text)
	if got, ok := impl.OfSigns(text); got != want || ok != good {
		t.Fatalf("OfSigns(%q) = %q, %v; want %q, %v", text, got, ok, want, good)
	}
}

func checkOfHex(t *testing.T, text string) {
	t.Helper()
	want, good := plainOfHex(text)
	if got, ok := impl.OfHex(text); got != want || ok != good {
		t.Fatalf("OfHex(%q) = %q, %v; want %q, %v", text, got, ok, want, good)
	}
}

func checkOfArmor(t *testing.T, text string) {
	t.Helper()
	name, want, good := plainOfArmor(text)
	if n, s, ok := impl.OfArmor(text); n != name || s != want || ok != good {
		t.Fatalf("OfArmor(%q) = %q, %q, %v; want %q, %q, %v", text, n, s, ok, name, want, good)
	}
}

func refuseSigns(t *testing.T, text string) {
	t.Helper()
	if s, ok := impl.OfSigns(text); s != "" || ok {
		t.Errorf("OfSigns(%q) = %q, %v", text, s, ok)
	}
}

func refuseHex(t *testing.T, text string) {
	t.Helper()
	if s, ok := impl.OfHex(text); s != "" || ok {
		t.Errorf("OfHex(%q) = %q, %v", text, s, ok)
	}
}

func refuseArmor(t *testing.T, text string) {
	t.Helper()
	if n, s, ok := impl.OfArmor(text); n != "" || s != "" || ok {
		t.Errorf("OfArmor(%q) = %q, %q, %v", text, n, s, ok)
	}
}

// checkSigns checks the encoding of s and the way back.
func checkSigns(t *testing.T, s string) {
	t.Helper()
	signs, ok := impl.SignsOf(s)
	if signs != plainSigns(s) || !ok {
		t.Fatalf("SignsOf(%q) = %q, %v; want %q", s, signs, ok, plainSigns(s))
	}
	if back, ok := impl.OfSigns(signs); back != s || !ok {
		t.Fatalf("OfSigns(%q) = %q, %v; want %q", signs, back, ok, s)
	}
}

func TestSignAt(t *testing.T) {
	alphabet := allSigns()
	if len(alphabet) != 64 {
		t.Fatalf("the alphabet has %d characters", len(alphabet))
	}
	for n := range 64 {
		if s, ok := impl.SignAt(n); s != alphabet[n:n+1] || !ok {
			t.Errorf("SignAt(%d) = %q, %v; want %q", n, s, ok, alphabet[n:n+1])
		}
	}
	for _, n := range []int{-1, 64, 65, -64, 128, 256, 1 << 32, -1 << 32, math.MinInt, math.MaxInt} {
		if s, ok := impl.SignAt(n); s != "" || ok {
			t.Errorf("SignAt(%d) = %q, %v", n, s, ok)
		}
	}
}

func TestLengthAs(t *testing.T) {
	for long := 0; long <= impl.MaxText; long++ {
		want := len(plainSigns(sampleText(long)))
		if n, ok := impl.LengthAs(long); n != want || !ok {
			t.Errorf("LengthAs(%d) = %d, %v; want %d", long, n, ok, want)
		}
	}
	if n, ok := impl.LengthAs(impl.MaxText); n != signsLimit || !ok {
		t.Errorf("LengthAs(MaxText) = %d, %v", n, ok)
	}
	for _, long := range []int{-1, -2, -3, impl.MaxText + 1, signsLimit, 1 << 32, -1 << 32, math.MinInt, math.MaxInt} {
		if n, ok := impl.LengthAs(long); n != 0 || ok {
			t.Errorf("LengthAs(%d) = %d, %v", long, n, ok)
		}
	}
}

func TestSignsOfKnown(t *testing.T) {
	for s, want := range map[string]string{
		"": "", "f": "Zg==", "fo": "Zm8=", "foo": "Zm9v", "foob": "Zm9vYg==", "fooba": "Zm9vYmE=", "foobar": "Zm9vYmFy",
		"\x00": "AA==", "\x00\x00": "AAA=", "\x00\x00\x00": "AAAA", "\xff": "/w==", "\xff\xff": "//8=", "\xff\xff\xff": "////",
		"\xfb\xef\xbe": "++++", "\x00\x10\x83": "ABCD", "=": "PQ==", "\n": "Cg==",
	} {
		if got, ok := impl.SignsOf(s); got != want || !ok {
			t.Errorf("SignsOf(%q) = %q, %v; want %q", s, got, ok, want)
		}
		if got, ok := impl.OfSigns(want); got != s || !ok {
			t.Errorf("OfSigns(%q) = %q, %v; want %q", want, got, ok, s)
		}
	}
}

// TestSignsOfAllShort encodes all last groups of one and of two bytes, alone
// and behind a whole group, and whole groups with every byte at every place.
func TestSignsOfAllShort(t *testing.T) {
	for x := range 65536 {
		a, b := byte(x>>8), byte(x)
		checkSigns(t, string([]byte{a, b}))
		checkSigns(t, string([]byte{'a', 'b', 'c', a, b}))
		checkSigns(t, string([]byte{a, b, a ^ b}))
	}
	for x := range 256 {
		checkSigns(t, string([]byte{byte(x)}))
		checkSigns(t, string([]byte{'a', 'b', 'c', byte(x)}))
	}
}

func TestSignsOfEveryLength(t *testing.T) {
	for long := 0; long <= impl.MaxText; long++ {
		checkSigns(t, sampleText(long))
		checkSigns(t, strings.Repeat("\x00", long))
		checkSigns(t, strings.Repeat("\xff", long))
	}
}

func TestSignsOfTooLong(t *testing.T) {
	for _, long := range []int{impl.MaxText + 1, impl.MaxText + 2, impl.MaxText + 3, signsLimit, 5000} {
		if s, ok := impl.SignsOf(sampleText(long)); s != "" || ok {
			t.Errorf("SignsOf of %d bytes = %q, %v", long, s, ok)
		}
	}
}

// TestUnusedBits tries every character ahead of the padding: of the encodings
// that differ in unused bits alone, only the one with zeros is accepted.
func TestUnusedBits(t *testing.T) {
	alphabet := allSigns()
	for _, ahead := range []string{"", "TWFu"} {
		one, two := map[string]bool{}, map[string]bool{}
		for i := range 4096 {
			text := ahead + alphabet[i/64:i/64+1] + alphabet[i%64:i%64+1]
			if s, ok := impl.OfSigns(text + "=="); ok != (i%16 == 0) || !ok && s != "" {
				t.Fatalf("OfSigns(%q) = %q, %v", text+"==", s, ok)
			} else if ok {
				one[s] = true
			}
			for k := range 64 {
				text := text + alphabet[k:k+1] + "="
				if s, ok := impl.OfSigns(text); ok != (k%4 == 0) || !ok && s != "" {
					t.Fatalf("OfSigns(%q) = %q, %v", text, s, ok)
				} else if ok {
					two[s] = true
				}
			}
		}
		if len(one) != 256 || len(two) != 65536 {
			t.Errorf("behind %q: %d strings of one byte, %d of two", ahead, len(one), len(two))
		}
	}
}

// TestOfSignsAllBytes puts every byte at every place of encodings with and
// without padding.
func TestOfSignsAllBytes(t *testing.T) {
	for _, text := range []string{"TWFuTWFu", "TWFuTWE=", "TWFuTQ==", "TWFu", "TWE=", "TQ=="} {
		for at := range len(text) {
			for c := range 256 {
				checkOfSigns(t, text[:at]+string([]byte{byte(c)})+text[at+1:])
			}
		}
	}
}

// TestOfSignsAllGroups tries every group of characters that are in the
// alphabet, beside those that are, or pad, alone and among other groups.
func TestOfSignsAllGroups(t *testing.T) {
	border := "AQZaz09+/=@[`{-_,.: \n\r\x00\x7f\x80\xff"
	group := make([]byte, 4)
	for i := range len(border) * len(border) * len(border) * len(border) {
		for k, rest := 0, i; k < 4; k, rest = k+1, rest/len(border) {
			group[k] = border[rest%len(border)]
		}
		checkOfSigns(t, string(group))
		if i%7 == 0 {
			checkOfSigns(t, "TWFu"+string(group))
			checkOfSigns(t, string(group)+"TWFu")
		}
	}
}

func TestOfSignsPadding(t *testing.T) {
	for _, text := range []string{
		"=", "==", "===", "====", "=====", "========", "T===", "TQ=", "TQ", "TQ===", "TQ====", "TQ======", "TWE", "TWE==", "TWE===", "TWE=====",
		"TWFu=", "TWFu==", "TWFu===", "TWFu====", "=TWE", "T=WE", "TW=E", "=TQ=", "T=Q=", "T==Q", "==TQ", "=T=Q", "TQ=Q", "TWE=TWFu", "TQ==TWFu",
		"TQ==TQ==", "TWE=TWE=", "TQ==TQ=", "TQ==TQ", "=TWFuTWE", "TWFu=TWE", "TWFuTWFu====", "AA==AAAA", "AAA=AAAA", "A===", "AA=A", "A=AA", "A==A",
	} {
		refuseSigns(t, text)
	}
}

func TestOfSignsForeignCharacters(t *testing.T) {
	for _, text := range []string{
		"TWF-", "TWF_", "-_-_", "TWF ", " TWFu", "TWFu ", "TW Fu", "TWFu\n", "\nTWFu", "TW\nFu", "TWFu\r\n", "TW\r\n", "TWF\n", "TWF\x00", "TWF\xff", "TW\xc3\xa9",
		"TWFuTWF\n", "TWE=\n", "TQ==\n", "TQ=\n", "TQ\n=", "TQ==\n\n\n\n", "....", "\x00\x00\x00\x00", "AAA\x00", "AAA?", "?AAA", "AA?A", "A?AA", "\x80AAA",
	} {
		refuseSigns(t, text)
	}
}

func TestOfSignsPartOfGroup(t *testing.T) {
	full := plainSigns(sampleText(impl.MaxText))
	for long := range signsLimit {
		if long%4 != 0 {
			refuseSigns(t, full[:long])
			refuseSigns(t, strings.Repeat("A", long))
		} else {
			checkOfSigns(t, full[:long])
		}
	}
}

func TestOfSignsLimit(t *testing.T) {
	for long := impl.MaxText - 2; long <= impl.MaxText; long++ {
		s := sampleText(long)
		if got, ok := impl.OfSigns(plainSigns(s)); len(plainSigns(s)) != signsLimit || got != s || !ok {
			t.Errorf("OfSigns of the %d characters of %d bytes: %d bytes, %v", len(plainSigns(s)), long, len(got), ok)
		}
	}
	for _, long := range []int{impl.MaxText + 1, impl.MaxText + 2, impl.MaxText + 3, 5000} {
		refuseSigns(t, plainSigns(sampleText(long)))
	}
	for _, long := range []int{signsLimit + 1, signsLimit + 2, signsLimit + 3, signsLimit + 4, 5000} {
		refuseSigns(t, strings.Repeat("A", long))
		refuseSigns(t, strings.Repeat("A", signsLimit)+strings.Repeat("=", long-signsLimit))
	}
}

// TestOneEncoding changes, removes and inserts single characters of encodings:
// no other text is accepted for the same string.
func TestOneEncoding(t *testing.T) {
	others := allSigns() + "=-_ \n\r\x00\xff"
	for _, s := range []string{"", "M", "Ma", "Man", "Many", "\x00", "\x00\x00", "\x00\x00\x00", "\xff\xff\xff\xff", sampleText(20), sampleText(21), sampleText(22)} {
		signs := plainSigns(s)
		var changed []string
		for at := 0; at <= len(signs); at++ {
			for i := range len(others) {
				changed = append(changed, signs[:at]+others[i:i+1]+signs[at:])
				if at < len(signs) {
					changed = append(changed, signs[:at]+others[i:i+1]+signs[at+1:])
				}
			}
			if at < len(signs) {
				changed = append(changed, signs[:at]+signs[at+1:])
			}
		}
		for _, text := range append(changed, signs+"=", signs+"==", signs+"===", signs+"====", strings.TrimRight(signs, "=")) {
			got, ok := impl.OfSigns(text)
			if ok && got == s && text != signs {
				t.Fatalf("OfSigns takes %q and %q for the encoding of %q", text, signs, s)
			}
			if back, is := impl.SignsOf(got); ok && (back != text || !is) {
				t.Fatalf("OfSigns(%q) = %q, whose encoding is %q", text, got, back)
			}
			checkOfSigns(t, text)
		}
	}
}

// TestOfHexAllPairs decodes every pair of bytes, alone and behind another pair.
func TestOfHexAllPairs(t *testing.T) {
	for x := range 65536 {
		pair := string([]byte{byte(x >> 8), byte(x)})
		checkOfHex(t, pair)
		checkOfHex(t, "0f"+pair)
	}
}

func TestOfHexEveryLength(t *testing.T) {
	for long := 0; long <= impl.MaxText; long++ {
		s := sampleText(long)
		text, ok := impl.HexOf(s)
		if !ok {
			t.Fatalf("HexOf refuses %d bytes", long)
		}
		if got, ok := impl.OfHex(text); got != s || !ok {
			t.Errorf("OfHex of the text of %d bytes = %q, %v", long, got, ok)
		}
		refuseHex(t, text+"0")
		if long > 0 {
			refuseHex(t, text[1:])
			refuseHex(t, text[:len(text)-1])
			refuseHex(t, text[:len(text)-1]+"A")
		}
	}
}

func TestOfHexInvalid(t *testing.T) {
	for _, text := range []string{
		"0", "f", "000", "0fa", "0fa00", "0F", "F0", "FF", "0fA0", "0FA0", "aB", "0g", "g0", "0x", "0x0f", " 0f", "0f ", "0 f0", "0f\n", "0f\n\n", "\n\n", "0:", "0/", "0@",
		"0`", "00\x00\x00", "\x000", "0\xff", "\xc3\xa9", "-1", "+1", "==",
	} {
		refuseHex(t, text)
	}
}

func TestOfHexLimit(t *testing.T) {
	full := strings.Repeat("a0", impl.MaxText)
	if s, ok := impl.OfHex(full); s != strings.Repeat("\xa0", impl.MaxText) || !ok {
		t.Errorf("OfHex of %d characters: %d bytes, %v", len(full), len(s), ok)
	}
	for _, more := range []string{"a", "a0", "a0a", strings.Repeat("a0", impl.MaxText)} {
		refuseHex(t, full+more)
	}
}

func TestLinesOf(t *testing.T) {
	for _, long := range []int{0, 1, 2, 3, 63, 64, 65, 99, 100, 101, 127, 128, 129, 200, 700, 799, signsLimit} {
		text := sampleText(long)
		for wide := 1; wide <= 100; wide++ {
			var want []string
			for part := range slices.Chunk([]byte(text), wide) {
				want = append(want, string(part))
			}
			if l, ok := impl.LinesOf(text, wide); !slices.Equal(l, want) || !ok {
				t.Errorf("LinesOf of %d bytes in %d = %q, %v", long, wide, l, ok)
			}
		}
	}
}

func TestLinesOfLastLine(t *testing.T) {
	for _, c := range []struct {
		text string
		wide int
		want []string
	}{
		{"", 1, nil}, {"", 100, nil}, {"a", 1, []string{"a"}}, {"a", 100, []string{"a"}}, {"abcd", 2, []string{"ab", "cd"}}, {"abcde", 2, []string{"ab", "cd", "e"}},
		{"abcde", 5, []string{"abcde"}}, {"abcde", 4, []string{"abcd", "e"}}, {"abcde", 6, []string{"abcde"}}, {"a\nb\n", 1, []string{"a", "\n", "b", "\n"}},
		{"\n\n\n", 2, []string{"\n\n", "\n"}}, {"\xc3\xa9", 1, []string{"\xc3", "\xa9"}}, {"a\x00 ", 2, []string{"a\x00", " "}},
	} {
		if l, ok := impl.LinesOf(c.text, c.wide); !slices.Equal(l, c.want) || !ok {
			t.Errorf("LinesOf(%q, %d) = %q, %v; want %q", c.text, c.wide, l, ok, c.want)
		}
	}
}

func TestLinesOfInvalid(t *testing.T) {
	refuse := func(text string, wide int) {
		if l, ok := impl.LinesOf(text, wide); len(l) != 0 || ok {
			t.Errorf("LinesOf of %d bytes in %d: %d lines, %v", len(text), wide, len(l), ok)
		}
	}
	for _, text := range []string{"", "a", "abcde", sampleText(signsLimit)} {
		for _, wide := range []int{0, -1, 101, 1000, 1 << 32, 1<<32 + 2, -1 << 32, math.MinInt, math.MaxInt} {
			refuse(text, wide)
		}
	}
	for _, long := range []int{signsLimit + 1, armorLimit, 5000} {
		for _, wide := range []int{0, 1, 64, 100, 101} {
			refuse(sampleText(long), wide)
		}
	}
}

func TestLinesOfIsNewMemory(t *testing.T) {
	first, _ := impl.LinesOf("abcde", 2)
	for i := range first[:cap(first)] {
		first[:cap(first)][i] = "x"
	}
	if second, ok := impl.LinesOf("abcde", 2); !slices.Equal(second, []string{"ab", "cd", "e"}) || !ok {
		t.Errorf("a change to a returned list changes a later one: %q", second)
	}
}

// armorNames are names of 1 to 16 letters.
func armorNames() []string {
	return []string{"A", "Z", "KEY", "BEGIN", "END", "AZ", "HEADOFTHELOG", "ABCDEFGHIJKLMNOP", "ZYXWVUTSRQPONMLK"}
}

// notNames are names of a wrong length or with other bytes than A-Z.
func notNames() []string {
	names := []string{"", "ABCDEFGHIJKLMNOPQ", strings.Repeat("A", 100), "MY KEY", "KEY-----\nTQ==", "A\xc3\x89"}
	for c := range 256 {
		if c < 'A' || c > 'Z' {
			other := string([]byte{byte(c)})
			names = append(names, other, other+"KEY", "K"+other+"Y", "KEY"+other, "ABCDEFGHIJKLMNO"+other)
		}
	}
	return names
}

func TestArmorOf(t *testing.T) {
	for _, name := range armorNames() {
		for long := 0; long <= impl.MaxText; long++ {
			s := sampleText(long)
			text, ok := impl.ArmorOf(name, s)
			if text != plainArmor(name, s) || !ok {
				t.Fatalf("ArmorOf(%q) of %d bytes = %q, %v", name, long, text, ok)
			}
			if n, back, ok := impl.OfArmor(text); n != name || back != s || !ok {
				t.Fatalf("OfArmor(%q) = %q, %q, %v", text, n, back, ok)
			}
		}
	}
}

func TestArmorOfLines(t *testing.T) {
	full := strings.Repeat("A", 64) + "\n"
	for long, body := range map[int]string{0: "", 1: "AA==\n", 2: "AAA=\n", 3: "AAAA\n", 46: full[:62] + "==\n", 48: full, 49: full + "AA==\n", 96: full + full, 99: full + full + "AAAA\n"} {
		want := "-----BEGIN X-----\n" + body + "-----END X-----\n"
		if text, ok := impl.ArmorOf("X", strings.Repeat("\x00", long)); text != want || !ok {
			t.Errorf("ArmorOf of %d bytes = %q, %v; want %q", long, text, ok, want)
		}
	}
}

func TestArmorNamesInvalid(t *testing.T) {
	for _, name := range notNames() {
		for _, s := range []string{"", "M", sampleText(100)} {
			if text, ok := impl.ArmorOf(name, s); text != "" || ok {
				t.Errorf("ArmorOf(%q, %q) = %q, %v", name, s, text, ok)
			}
			refuseArmor(t, plainArmor(name, s))
		}
	}
}

func TestArmorOfTooLong(t *testing.T) {
	for _, long := range []int{impl.MaxText + 1, impl.MaxText + 3, signsLimit, 5000} {
		if text, ok := impl.ArmorOf("KEY", sampleText(long)); text != "" || ok {
			t.Errorf("ArmorOf of %d bytes = %q, %v", long, text, ok)
		}
		refuseArmor(t, plainArmor("KEY", sampleText(long)))
	}
}

// TestOfArmorLimit pads armored forms to the limit and beyond: none of that
// length is the form of a string.
func TestOfArmorLimit(t *testing.T) {
	longest := plainArmor("ABCDEFGHIJKLMNOP", sampleText(impl.MaxText))
	if n, s, ok := impl.OfArmor(longest); n != "ABCDEFGHIJKLMNOP" || s != sampleText(impl.MaxText) || !ok {
		t.Errorf("OfArmor of the longest form, %d bytes: %q, %d bytes, %v", len(longest), n, len(s), ok)
	}
	for _, long := range []int{armorLimit - 1, armorLimit, armorLimit + 1, 5000} {
		for _, fill := range []string{"\n", "A", " ", "\x00"} {
			more := strings.Repeat(fill, long-len(longest))
			refuseArmor(t, longest+more)
			refuseArmor(t, more+longest)
			refuseArmor(t, strings.Replace(longest, "-----\n", "-----\n"+more, 1))
			refuseArmor(t, strings.Repeat(fill, long))
		}
	}
	// Forms of strings that are too long, at the limit of the length of the form.
	for long := impl.MaxText + 1; long <= impl.MaxText+150; long++ {
		refuseArmor(t, plainArmor("ABCDEFGHIJKLMNOP", sampleText(long)))
		refuseArmor(t, plainArmor("A", sampleText(long)))
	}
}

func TestOfArmorOtherWidths(t *testing.T) {
	for _, long := range []int{1, 3, 47, 48, 49, 96, 97, 100, impl.MaxText} {
		s := sampleText(long)
		for wide := 1; wide <= 100; wide++ {
			text := "-----BEGIN KEY-----\n"
			for line := range slices.Chunk([]byte(plainSigns(s)), wide) {
				text += string(line) + "\n"
			}
			checkOfArmor(t, text+"-----END KEY-----\n")
		}
	}
	signs := plainSigns(sampleText(100))
	for _, body := range []string{
		signs[:63] + "\n" + signs[63:127] + "\n" + signs[127:] + "\n", signs[:65] + "\n" + signs[65:] + "\n", signs[:64] + signs[64:] + "\n", signs[:64] + "\n\n" + signs[64:128] + "\n" + signs[128:] + "\n",
		signs[:64] + "\r\n" + signs[64:128] + "\r\n" + signs[128:] + "\r\n", signs[:64] + "\n" + signs[64:128] + "\n" + signs[128:132] + "\n" + signs[132:] + "\n",
		signs[:64] + "\n" + signs[64:128] + "\n" + signs[128:], "\n" + signs[:64] + "\n" + signs[64:128] + "\n" + signs[128:] + "\n", signs[:64] + "\n" + signs[64:128] + "\n" + signs[128:] + "\n\n",
	} {
		refuseArmor(t, "-----BEGIN KEY-----\n"+body+"-----END KEY-----\n")
	}
}

func TestOfArmorInvalid(t *testing.T) {
	good := "-----BEGIN KEY-----\nTQ==\n-----END KEY-----\n"
	if n, s, ok := impl.OfArmor(good); n != "KEY" || s != "M" || !ok {
		t.Fatalf("OfArmor(%q) = %q, %q, %v", good, n, s, ok)
	}
	for _, text := range []string{
		"", "\n", "TQ==", "TQ==\n", "-----BEGIN KEY-----\n", "-----END KEY-----\n", "-----BEGIN KEY-----", "-----BEGIN ", "-----", "-----BEGIN -----\n-----END -----\n",
		"-----BEGIN KEY-----\nTQ==\n-----END KEZ-----\n", "-----BEGIN KEY-----\nTQ==\n-----END KE-----\n", "-----BEGIN KE-----\nTQ==\n-----END KEY-----\n", "-----BEGIN KEY-----\nTQ==\n-----END -----\n",
		"-----BEGIN -----\nTQ==\n-----END KEY-----\n", "-----BEGIN KEY-----\nTQ==\n-----END key-----\n", "-----BEGIN key-----\nTQ==\n-----END key-----\n", "-----begin KEY-----\nTQ==\n-----end KEY-----\n",
		"-----END KEY-----\nTQ==\n-----BEGIN KEY-----\n", "-----BEGIN KEY-----\nTQ==\n-----BEGIN KEY-----\n", "-----END KEY-----\nTQ==\n-----END KEY-----\n", "KEY\nTQ==\n-----END KEY-----\n",
		"-----BEGIN KEY\nTQ==\n-----END KEY-----\n", "KEY-----\nTQ==\n-----END KEY-----\n", "-----BEGIN KEY-----\nTQ==\nKEY\n", "-----BEGIN KEY-----\nTQ==\n", "TQ==\n-----END KEY-----\n",
		"----BEGIN KEY-----\nTQ==\n-----END KEY-----\n", "-----BEGIN KEY----\nTQ==\n-----END KEY-----\n", "-----BEGIN KEY------\nTQ==\n-----END KEY-----\n", "------BEGIN KEY-----\nTQ==\n-----END KEY-----\n",
		"-----BEGIN  KEY-----\nTQ==\n-----END KEY-----\n", "-----BEGIN KEY -----\nTQ==\n-----END KEY -----\n", "-----BEGINKEY-----\nTQ==\n-----ENDKEY-----\n", "-----BEGIN KEY-----TQ==\n-----END KEY-----\n",
		"-----BEGIN KEY-----\nTQ==-----END KEY-----\n", "-----BEGIN KEY-----\nTQ==\n-----END KEY-----", "-----BEGIN KEY-----\n\n-----END KEY-----\n", "-----BEGIN KEY-----\r\nTQ==\r\n-----END KEY-----\r\n",
		"-----BEGIN KEY-----\nTR==\n-----END KEY-----\n", "-----BEGIN KEY-----\nTQ=\n-----END KEY-----\n", "-----BEGIN KEY-----\nTQ\n-----END KEY-----\n", "-----BEGIN KEY-----\nT-==\n-----END KEY-----\n",
		"-----BEGIN KEY-----\nTQ==\n-----END KEY-----\n\n", "\n-----BEGIN KEY-----\nTQ==\n-----END KEY-----\n", " " + good, good + " ", "a" + good, good + "a", "a\n" + good, good + "a\n", good + good, good + "\x00", "\xef\xbb\xbf" + good,
		"-----BEGIN KEY-----\nA: b\n\nTQ==\n-----END KEY-----\n", "-----BEGIN KEY-----\nTQ==\n-----END KEY-----\n-----END KEY-----\n", "-----BEGIN KEY-----\n-----BEGIN KEY-----\nTQ==\n-----END KEY-----\n",
	} {
		refuseArmor(t, text)
	}
}

// TestOfArmorChanged changes, removes and inserts single bytes of armored
// forms; the few that are accepted are forms of another name or string.
func TestOfArmorChanged(t *testing.T) {
	for _, s := range []string{"", "M", "Ma", "Man", sampleText(48), sampleText(49)} {
		for _, name := range []string{"A", "KEY", "ABCDEFGHIJKLMNOP"} {
			text := plainArmor(name, s)
			for at := 0; at <= len(text); at++ {
				for _, c := range []string{"A", "Q", "a", "0", "+", "=", "-", " ", "\n", "\r", "\x00", "\xff"} {
					checkOfArmor(t, text[:at]+c+text[at:])
					if at < len(text) {
						checkOfArmor(t, text[:at]+c+text[at+1:])
					}
				}
				checkOfArmor(t, text[:at])
				checkOfArmor(t, text[at:])
				if at < len(text) {
					checkOfArmor(t, text[:at]+text[at+1:])
				}
			}
		}
	}
}

// TestSignFunctionsReturn gives arbitrary bytes and numbers to every function
// of the chapter; none may panic.
func TestSignFunctionsReturn(t *testing.T) {
	for long := range 1300 {
		s := sampleText(long)
		impl.SignsOf(s)
		impl.OfSigns(s)
		impl.OfHex(s)
		impl.ArmorOf(s, s)
		impl.ArmorOf("KEY", s)
		impl.OfArmor(s)
		impl.OfArmor("-----BEGIN KEY-----\n" + s)
		impl.OfArmor("-----BEGIN " + s + "-----END KEY-----\n")
		for _, wide := range []int{math.MinInt, -long, long - 650, long, math.MaxInt} {
			impl.LinesOf(s, wide)
			impl.SignAt(wide)
			impl.LengthAs(wide)
		}
	}
}
