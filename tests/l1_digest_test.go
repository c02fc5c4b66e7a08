package tests

import (
	"crypto/sha256"
	"encoding/binary"
	"encoding/hex"
	"math"
	"math/big"
	"reflect"
	"slices"
	"strings"
	"testing"

	"loop.example/g00532/impl"
)

const longLimit = 1000000

// sampleText has no short period, so a block that is skipped, repeated or
// moved changes the digest.
func sampleText(long int) string {
	b := make([]byte, long)
	x := uint32(long) + 1
	for i := range b {
		x = x*1664525 + 1013904223
		b[i] = byte(x >> 24)
	}
	return string(b)
}

func sumOf(s string) string {
	d := sha256.Sum256([]byte(s))
	return string(d[:])
}

func mustFeed(t *testing.T, h impl.State, s string) impl.State {
	t.Helper()
	g, ok := impl.FeedState(h, s)
	if !ok {
		t.Fatalf("FeedState at Long %d refuses %d bytes", h.Long, len(s))
	}
	if !impl.GoodState(g) {
		t.Fatalf("FeedState returns an invalid state: %v", g)
	}
	return g
}

func mustEnd(t *testing.T, h impl.State) string {
	t.Helper()
	d, ok := impl.EndState(h)
	if !ok {
		t.Fatalf("EndState refuses a state with Long %d", h.Long)
	}
	return d
}

// fedTo feeds s in pieces of the given size.
func fedTo(t *testing.T, s string, size int) impl.State {
	t.Helper()
	h := impl.NewState()
	for len(s) > 0 {
		n := min(size, len(s))
		h = mustFeed(t, h, s[:n])
		s = s[n:]
	}
	return h
}

// plainPad follows the definition of the padding byte by byte.
func plainPad(s string) string {
	p := s + "\x80"
	for len(p)%64 != 56 {
		p += "\x00"
	}
	return string(binary.BigEndian.AppendUint64([]byte(p), uint64(len(s))*8))
}

func isZeroState(h impl.State) bool {
	return len(h.Words) == 0 && h.Rest == "" && h.Long == 0
}

// brokenStates are states of which each breaks one rule of validity.
func brokenStates() map[string]impl.State {
	with := func(change func(*impl.State)) impl.State {
		h := impl.NewState()
		change(&h)
		return h
	}
	out := map[string]impl.State{
		"zero":         {},
		"nil words":    with(func(h *impl.State) { h.Words = nil }),
		"7 words":      with(func(h *impl.State) { h.Words = h.Words[:7] }),
		"9 words":      with(func(h *impl.State) { h.Words = append(h.Words, 0) }),
		"rest no long": with(func(h *impl.State) { h.Rest = "a" }),
		"long no rest": with(func(h *impl.State) { h.Long = 1 }),
		"short rest":   with(func(h *impl.State) { h.Long, h.Rest = 66, "a" }),
		"rest of long": with(func(h *impl.State) { h.Long, h.Rest = 66, sampleText(66) }),
		"full rest":    with(func(h *impl.State) { h.Long, h.Rest = 64, sampleText(64) }),
		"full rest 0":  with(func(h *impl.State) { h.Rest = sampleText(64) }),
		"long -1":      with(func(h *impl.State) { h.Long = -1 }),
		"long -64":     with(func(h *impl.State) { h.Long = -64 }),
		"long least":   with(func(h *impl.State) { h.Long = math.MinInt }),
		"long greatest": with(func(h *impl.State) {
			h.Long, h.Rest = math.MaxInt, sampleText(math.MaxInt%64)
		}),
		"long over limit": with(func(h *impl.State) {
			h.Long, h.Rest = longLimit+1, sampleText((longLimit+1)%64)
		}),
		"long over limit, no rest": with(func(h *impl.State) { h.Long = longLimit + 64 }),
	}
	for _, at := range []int{0, 3, 7} {
		place := string(rune('0' + at))
		for name, w := range map[string]int{"negative": -1, "large": 1 << 32, "least": math.MinInt, "greatest": math.MaxInt} {
			out[name+" word "+place] = with(func(h *impl.State) { h.Words[at] = w })
		}
	}
	return out
}

func TestTurnWord(t *testing.T) {
	for _, w := range []int{0, 1, 2, 0x80000000, 0xdeadbeef, 0x12345678, 4294967295} {
		for by := range 32 {
			want := (w>>by | w<<(32-by)) & 0xffffffff
			if got, ok := impl.TurnWord(w, by); got != want || !ok {
				t.Errorf("TurnWord(%d, %d) = %d, %v; want %d", w, by, got, ok, want)
			}
		}
	}
}

func TestTurnWordInvalid(t *testing.T) {
	for _, c := range [][2]int{
		{-1, 1}, {4294967296, 1}, {math.MinInt, 1}, {math.MaxInt, 1}, {4294967297, 0},
		{1, -1}, {1, 32}, {1, 33}, {1, math.MinInt}, {1, math.MaxInt}, {-1, -1},
	} {
		if got, ok := impl.TurnWord(c[0], c[1]); got != 0 || ok {
			t.Errorf("TurnWord(%d, %d) = %d, %v; want 0, false", c[0], c[1], got, ok)
		}
	}
}

func TestPadTextAndBack(t *testing.T) {
	for long := 0; long <= impl.MaxText; long++ {
		for _, s := range []string{sampleText(long), strings.Repeat("\x80", long), strings.Repeat("\x00", long)} {
			p, ok := impl.PadText(s)
			if p != plainPad(s) || !ok {
				t.Fatalf("PadText of %d bytes: %x, %v", long, p, ok)
			}
			if back, ok := impl.UnpadText(p); back != s || !ok {
				t.Fatalf("UnpadText of the padding of %d bytes: %x, %v", long, back, ok)
			}
		}
	}
}

func TestPadTextBlockBorders(t *testing.T) {
	for long, want := range map[int]int{0: 64, 55: 64, 56: 128, 63: 128, 64: 128, 119: 128, 120: 192, 599: 640, 600: 640} {
		if p, ok := impl.PadText(sampleText(long)); len(p) != want || !ok {
			t.Errorf("PadText of %d bytes has %d bytes, %v; want %d", long, len(p), ok, want)
		}
	}
}

func TestPadTextTooLong(t *testing.T) {
	for _, long := range []int{601, 631, 5000} {
		if p, ok := impl.PadText(sampleText(long)); p != "" || ok {
			t.Errorf("PadText of %d bytes: %d bytes, %v", long, len(p), ok)
		}
	}
}

func TestUnpadTextInvalid(t *testing.T) {
	abc := plainPad("abc")
	withTail := func(n uint64) string {
		return string(binary.BigEndian.AppendUint64([]byte(abc[:56]), n))
	}
	for name, s := range map[string]string{
		"empty":             "",
		"7 bytes":           abc[57:],
		"only the length 0": "\x00\x00\x00\x00\x00\x00\x00\x00",
		"length behind end": "\x00\x00\x00\x00\x00\x00\x00\x48",
		"no padding":        sampleText(64),
		"zeros":             strings.Repeat("\x00", 64),
		"cut":               abc[:63],
		"cut in front":      abc[1:],
		"one byte more":     abc + "\x00",
		"byte in front":     "a" + abc,
		"one block more":    abc[:56] + strings.Repeat("\x00", 64) + abc[56:],
		"twice":             abc + abc,
		"not whole bytes":   withTail(25),
		"one byte less":     withTail(16),
		"length one more":   withTail(32),
		"length 0":          withTail(0),
		"length 64 bytes":   withTail(512),
		"length 600 bytes":  withTail(4800),
		"length of 2^61":    withTail(1<<63 | 24),
		"length of 2^32":    withTail(1<<32 | 24),
		"greatest length":   withTail(math.MaxUint64),
		"length as -8":      withTail(math.MaxUint64 - 7),
		"little-endian":     string(binary.LittleEndian.AppendUint64([]byte(abc[:56]), 24)),
		"672 bytes":         plainPad(sampleText(600)) + strings.Repeat("\x00", 32),
		"673 bytes":         plainPad(sampleText(600)) + strings.Repeat("\x00", 33),
		"704 bytes":         plainPad(sampleText(640)),
	} {
		if got, ok := impl.UnpadText(s); got != "" || ok {
			t.Errorf("%s: UnpadText = %x, %v; want no string", name, got, ok)
		}
	}
}

func TestUnpadTextOfTooLongText(t *testing.T) {
	for long := impl.MaxText + 1; long < 632; long++ {
		if got, ok := impl.UnpadText(plainPad(sampleText(long))); got != "" || ok {
			t.Errorf("UnpadText of the padding of %d bytes: %d bytes, %v", long, len(got), ok)
		}
	}
}

func TestUnpadTextChangedPadding(t *testing.T) {
	for _, long := range []int{0, 1, 55, 56, 63, 64, 119, 120, 600} {
		s := sampleText(long)
		p := plainPad(s)
		for at := range len(p) {
			for bit := range 8 {
				b := []byte(p)
				b[at] ^= 1 << bit
				got, ok := impl.UnpadText(string(b))
				if at < long && (got != string(b[:long]) || !ok) {
					t.Errorf("%d bytes, text bit %d of byte %d: %v", long, bit, at, ok)
				}
				if at >= long && (got != "" || ok) {
					t.Errorf("%d bytes, padding bit %d of byte %d is accepted", long, bit, at)
				}
			}
		}
	}
}

// fractionWord returns the first 32 bits of the fractional part of the root of
// n with the given degree.
func fractionWord(n, degree int64) int {
	shifted := new(big.Int).Lsh(big.NewInt(n), uint(32*degree))
	low, high := big.NewInt(0), new(big.Int).Lsh(big.NewInt(n), 32)
	for low.Cmp(high) < 0 {
		mid := new(big.Int).Add(low, high)
		mid.Add(mid, big.NewInt(1)).Rsh(mid, 1)
		if new(big.Int).Exp(mid, big.NewInt(degree), nil).Cmp(shifted) <= 0 {
			low = mid
		} else {
			high = mid.Sub(mid, big.NewInt(1))
		}
	}
	return int(low.Int64() & 0xffffffff)
}

func TestNewState(t *testing.T) {
	var want []int
	for _, p := range []int64{2, 3, 5, 7, 11, 13, 17, 19} {
		want = append(want, fractionWord(p, 2))
	}
	h := impl.NewState()
	if !slices.Equal(h.Words, want) || h.Rest != "" || h.Long != 0 || !impl.GoodState(h) {
		t.Errorf("NewState() = %v; want words %v", h, want)
	}
}

func TestNewStateIsNewMemory(t *testing.T) {
	h := impl.NewState()
	for i := range h.Words {
		h.Words[i] = 0
	}
	if d, ok := impl.DigestOf("abc"); d != sumOf("abc") || !ok {
		t.Error("a change to a returned state changes later digests")
	}
	if impl.NewState().Words[0] == 0 {
		t.Error("two initial states share memory")
	}
}

func TestGoodState(t *testing.T) {
	for name, h := range brokenStates() {
		if impl.GoodState(h) {
			t.Errorf("%s: GoodState accepts %v", name, h)
		}
	}
	for _, long := range []int{0, 1, 63, 64, 65, 600, longLimit - 1, longLimit} {
		for _, w := range []int{0, 4294967295} {
			h := impl.State{Words: slices.Repeat([]int{w}, 8), Rest: sampleText(long % 64), Long: long}
			if !impl.GoodState(h) {
				t.Errorf("GoodState refuses words %d and Long %d", w, long)
			}
		}
	}
}

func TestInvalidStates(t *testing.T) {
	for name, h := range brokenStates() {
		for _, s := range []string{"", "abc", sampleText(600)} {
			if g, ok := impl.FeedState(h, s); ok || !isZeroState(g) {
				t.Errorf("%s: FeedState = %v, %v", name, g, ok)
			}
		}
		if d, ok := impl.EndState(h); d != "" || ok {
			t.Errorf("%s: EndState = %x, %v", name, d, ok)
		}
	}
}

func TestDigestOfKnown(t *testing.T) {
	for s, want := range map[string]string{
		"":    "e3b0c44298fc1c149afbf4c8996fb92427ae41e4649b934ca495991b7852b855",
		"abc": "ba7816bf8f01cfea414140de5dae2223b00361a396177a9cb410ff61f20015ad",
		"abcdbcdecdefdefgefghfghighijhijkijkljklmklmnlmnomnopnopq": "248d6a61d20638b8e5c026930c3e6039a33ce45964ff2167f6ecedd419db06c1",
	} {
		d, ok := impl.DigestOf(s)
		if h, is := impl.HexOf(d); h != want || !ok || !is {
			t.Errorf("DigestOf(%q) = %s, %v; want %s", s, h, ok, want)
		}
	}
}

func TestDigestOfEveryLength(t *testing.T) {
	for long := 0; long <= impl.MaxText; long++ {
		s := sampleText(long)
		if d, ok := impl.DigestOf(s); d != sumOf(s) || !ok {
			t.Fatalf("DigestOf of %d bytes: %x, %v", long, d, ok)
		}
	}
}

func TestDigestOfTooLong(t *testing.T) {
	for _, long := range []int{601, 640, 5000} {
		if d, ok := impl.DigestOf(sampleText(long)); d != "" || ok {
			t.Errorf("DigestOf of %d bytes: %x, %v", long, d, ok)
		}
	}
}

func TestDigestInTwoParts(t *testing.T) {
	for _, long := range []int{0, 1, 55, 56, 63, 64, 65, 119, 120, 128, 200, 600} {
		s := sampleText(long)
		whole := mustFeed(t, impl.NewState(), s)
		for at := 0; at <= long; at++ {
			h := mustFeed(t, mustFeed(t, impl.NewState(), s[:at]), s[at:])
			if !reflect.DeepEqual(h, whole) {
				t.Fatalf("%d bytes divided at %d: state %v; want %v", long, at, h, whole)
			}
			if mustEnd(t, h) != sumOf(s) {
				t.Fatalf("%d bytes divided at %d: wrong digest", long, at)
			}
		}
	}
}

func TestDigestInPieces(t *testing.T) {
	s := sampleText(2000)
	want := sumOf(s)
	for _, size := range []int{1, 2, 3, 7, 31, 32, 33, 55, 56, 63, 64, 65, 127, 128, 129, 599, 600} {
		h := fedTo(t, s, size)
		if h.Long != 2000 || h.Rest != s[2000-2000%64:] {
			t.Errorf("pieces of %d bytes: Long %d, Rest of %d bytes", size, h.Long, len(h.Rest))
		}
		if mustEnd(t, h) != want {
			t.Errorf("pieces of %d bytes: wrong digest", size)
		}
	}
}

func TestEmptyPieces(t *testing.T) {
	h := fedTo(t, sampleText(100), 30)
	g := mustFeed(t, mustFeed(t, h, ""), "")
	if !reflect.DeepEqual(g, h) {
		t.Errorf("feeding nothing changes %v to %v", h, g)
	}
}

func TestEveryDivision(t *testing.T) {
	s := sampleText(130)
	want := sumOf(s)
	// Cuts around the borders of the blocks and of the padding.
	cuts := []int{1, 55, 56, 63, 64, 65, 119, 120, 127, 128, 129}
	for set := range 1 << len(cuts) {
		h, from := impl.NewState(), 0
		for i, c := range cuts {
			if set>>i&1 == 1 {
				h, from = mustFeed(t, h, s[from:c]), c
			}
		}
		if mustEnd(t, mustFeed(t, h, s[from:])) != want {
			t.Fatalf("cuts %b: wrong digest", set)
		}
	}
}

func TestFeedStateTooLong(t *testing.T) {
	for _, long := range []int{601, 640, 5000} {
		if g, ok := impl.FeedState(impl.NewState(), sampleText(long)); ok || !isZeroState(g) {
			t.Errorf("FeedState of %d bytes: %v, %v", long, g, ok)
		}
	}
}

func TestLongLimit(t *testing.T) {
	all := strings.Repeat("a", longLimit)
	h := fedTo(t, all[:longLimit-10], 600)
	if g, ok := impl.FeedState(h, "aaaaaaaaaaa"); ok || !isZeroState(g) {
		t.Errorf("FeedState beyond the limit: %v, %v", g, ok)
	}
	h = mustFeed(t, h, "aaaaaaaaaa")
	if h.Long != longLimit {
		t.Fatalf("Long is %d", h.Long)
	}
	if got := hex.EncodeToString([]byte(mustEnd(t, h))); got != "cdc76e5c9914fb9281a1c7e284d73e67f1809a48a497200e046d39ccc7112cd0" {
		t.Errorf("digest of a million letters: %s", got)
	}
	if g := mustFeed(t, h, ""); !reflect.DeepEqual(g, h) {
		t.Errorf("feeding nothing at the limit: %v", g)
	}
	for _, s := range []string{"a", all[:600]} {
		if g, ok := impl.FeedState(h, s); ok || !isZeroState(g) {
			t.Errorf("FeedState of %d bytes at the limit: %v, %v", len(s), g, ok)
		}
	}
}

// TestStateBeforeLimit needs a second padding block behind a Rest of 56 bytes
// or more, with Long so near the limit that the padding exceeds it.
func TestStateBeforeLimit(t *testing.T) {
	s := sampleText(longLimit)
	for _, long := range []int{longLimit - 1, longLimit - 2, 999999/64*64 - 1, 999999/64*64 - 8, 999999/64*64 - 9} {
		if mustEnd(t, fedTo(t, s[:long], 600)) != sumOf(s[:long]) {
			t.Errorf("Long %d: wrong digest", long)
		}
	}
}

func TestStateArgumentsUnchanged(t *testing.T) {
	room := append(make([]int, 0, 12), fedTo(t, sampleText(100), 600).Words...)
	for i := len(room); i < cap(room); i++ {
		room[:cap(room)][i] = -7
	}
	before := slices.Clone(room[:cap(room)])
	h := impl.State{Words: room, Rest: sampleText(36), Long: 100}
	for _, s := range []string{"", "a", sampleText(28), sampleText(600)} {
		g := mustFeed(t, h, s)
		mustEnd(t, h)
		impl.GoodState(h)
		for i := range g.Words {
			g.Words[i] = -1
		}
		if !slices.Equal(room[:cap(room)], before) || h.Rest != sampleText(36) || h.Long != 100 {
			t.Fatalf("feeding %d bytes changes the argument", len(s))
		}
	}
}

// TestOddWords feeds states whose words no string leads to.
func TestOddWords(t *testing.T) {
	for _, w := range []int{0, 4294967295} {
		h := impl.State{Words: slices.Repeat([]int{w}, 8), Rest: sampleText(63), Long: 63}
		one := mustFeed(t, h, sampleText(600))
		two := mustFeed(t, mustFeed(t, h, sampleText(600)[:1]), sampleText(600)[1:])
		if mustEnd(t, one) != mustEnd(t, two) || len(mustEnd(t, one)) != 32 {
			t.Errorf("words %d: the digest depends on the division", w)
		}
	}
}

func TestHexOf(t *testing.T) {
	all := make([]byte, 256)
	for i := range all {
		all[i] = byte(i)
	}
	for _, s := range []string{"", "a", "\x00", "\xff\x0f\xf0", string(all), sampleText(600)} {
		if h, ok := impl.HexOf(s); h != hex.EncodeToString([]byte(s)) || !ok {
			t.Errorf("HexOf(%q) = %s, %v", s, h, ok)
		}
	}
	for _, long := range []int{601, 5000} {
		if h, ok := impl.HexOf(sampleText(long)); h != "" || ok {
			t.Errorf("HexOf of %d bytes: %d bytes, %v", long, len(h), ok)
		}
	}
}
