package impl

import (
	"math/bits"
	"strings"
)

const MaxText = 600

const (
	lastWord  = 4294967295
	lastLong  = 1000000
	blockSize = 64
	// tailSize is the size of the message length at the end of the padding.
	tailSize = 8
	padStart = 128
	hexSigns = "0123456789abcdef"
)

// The places of the working variables a..h among the 8 words of a state.
const (
	atA = iota
	atB
	atC
	atD
	atE
	atF
	atG
	atH
	wordCount
)

type State struct {
	Words []int
	Rest  string
	Long  int
}

// Arrays are copied when they are passed, so a compression cannot change a
// state that the caller still holds.
type (
	chain [wordCount]uint32
	block [blockSize]byte
)

// firstWords are the first 32 bits of the fractional parts of the square roots
// of the first 8 primes.
var firstWords = [wordCount]uint32{
	0x6a09e667, 0xbb67ae85, 0x3c6ef372, 0xa54ff53a,
	0x510e527f, 0x9b05688c, 0x1f83d9ab, 0x5be0cd19,
}

// roundWords are the first 32 bits of the fractional parts of the cube roots of
// the first 64 primes.
var roundWords = [blockSize]uint32{
	0x428a2f98, 0x71374491, 0xb5c0fbcf, 0xe9b5dba5, 0x3956c25b, 0x59f111f1, 0x923f82a4, 0xab1c5ed5,
	0xd807aa98, 0x12835b01, 0x243185be, 0x550c7dc3, 0x72be5d74, 0x80deb1fe, 0x9bdc06a7, 0xc19bf174,
	0xe49b69c1, 0xefbe4786, 0x0fc19dc6, 0x240ca1cc, 0x2de92c6f, 0x4a7484aa, 0x5cb0a9dc, 0x76f988da,
	0x983e5152, 0xa831c66d, 0xb00327c8, 0xbf597fc7, 0xc6e00bf3, 0xd5a79147, 0x06ca6351, 0x14292967,
	0x27b70a85, 0x2e1b2138, 0x4d2c6dfc, 0x53380d13, 0x650a7354, 0x766a0abb, 0x81c2c92e, 0x92722c85,
	0xa2bfe8a1, 0xa81a664b, 0xc24b8b70, 0xc76c51a3, 0xd192e819, 0xd6990624, 0xf40e3585, 0x106aa070,
	0x19a4c116, 0x1e376c08, 0x2748774c, 0x34b0bcb5, 0x391c0cb3, 0x4ed8aa4a, 0x5b9cca4f, 0x682e6ff3,
	0x748f82ee, 0x78a5636f, 0x84c87814, 0x8cc70208, 0x90befffa, 0xa4506ceb, 0xbef9a3f7, 0xc67178f2,
}

func TurnWord(w int, by int) (int, bool) {
	if w < 0 || w > lastWord || by < 0 || by > 31 {
		return 0, false
	}
	return int(turned(uint32(w), by)), true
}

func turned(x uint32, by int) uint32 {
	return bits.RotateLeft32(x, -by)
}

func PadText(s string) (string, bool) {
	if len(s) > MaxText {
		return "", false
	}
	return s + paddingOf(len(s)), true
}

// paddingOf is apart from PadText because a state's length may exceed MaxText.
func paddingOf(long int) string {
	// Two blocks, because the remainder of a negative number is negative.
	zeros := (2*blockSize - tailSize - 1 - long%blockSize) % blockSize
	pad := make([]byte, 1+zeros+tailSize)
	pad[0] = padStart
	count := uint64(long) * 8
	for i := range tailSize {
		pad[len(pad)-1-i] = byte(count)
		count >>= 8
	}
	return string(pad)
}

func UnpadText(s string) (string, bool) {
	if len(s) > MaxText+72 || len(s) < tailSize {
		return "", false
	}
	count := uint64(0)
	for i := len(s) - tailSize; i < len(s); i++ {
		count = count<<8 | uint64(s[i])
	}
	// The count stays unsigned: as an int, a forged one could be negative.
	if count/8 > uint64(len(s)) {
		return "", false
	}
	text := s[:count/8]
	if padded, ok := PadText(text); !ok || padded != s {
		return "", false
	}
	return strings.Clone(text), true
}

func NewState() State {
	words := make([]int, 0, wordCount)
	for _, w := range firstWords {
		words = append(words, int(w))
	}
	return State{Words: words}
}

func GoodState(h State) bool {
	if len(h.Words) != wordCount {
		return false
	}
	for _, w := range h.Words {
		if w < 0 || w > lastWord {
			return false
		}
	}
	return h.Long >= 0 && h.Long <= lastLong && len(h.Rest) == h.Long%blockSize
}

func FeedState(h State, s string) (State, bool) {
	if !GoodState(h) || len(s) > MaxText || h.Long+len(s) > lastLong {
		return State{}, false
	}
	c, rest := absorbed(chainOf(h), h.Rest+s)
	words := make([]int, 0, wordCount)
	for _, w := range c {
		words = append(words, int(w))
	}
	return State{Words: words, Rest: strings.Clone(rest), Long: h.Long + len(s)}, true
}

func EndState(h State) (string, bool) {
	if !GoodState(h) {
		return "", false
	}
	// Not by FeedState: the padding may lead beyond the limit of Long.
	c, _ := absorbed(chainOf(h), h.Rest+paddingOf(h.Long))
	out := make([]byte, 0, wordCount*4)
	for _, w := range c {
		out = append(out, byte(w>>24), byte(w>>16), byte(w>>8), byte(w))
	}
	return string(out), true
}

func DigestOf(s string) (string, bool) {
	h, ok := FeedState(NewState(), s)
	if !ok {
		return "", false
	}
	return EndState(h)
}

func HexOf(s string) (string, bool) {
	if len(s) > MaxText {
		return "", false
	}
	out := make([]byte, 0, 2*len(s))
	for i := range len(s) {
		out = append(out, hexSigns[s[i]>>4], hexSigns[s[i]&15])
	}
	return string(out), true
}

// chainOf requires a valid state.
func chainOf(h State) chain {
	var c chain
	for i, w := range h.Words {
		c[i] = uint32(w)
	}
	return c
}

// absorbed compresses the complete blocks of text and returns what is left.
func absorbed(c chain, text string) (chain, string) {
	for len(text) >= blockSize {
		var b block
		copy(b[:], text)
		c = compressed(c, b)
		text = text[blockSize:]
	}
	return c, text
}

func compressed(c chain, b block) chain {
	schedule := scheduleOf(b)
	v := c
	for t, k := range roundWords {
		v = nextRound(v, k+schedule[t])
	}
	for i, w := range v {
		c[i] += w
	}
	return c
}

func scheduleOf(b block) [blockSize]uint32 {
	var w [blockSize]uint32
	for t := range 16 {
		w[t] = uint32(b[4*t])<<24 | uint32(b[4*t+1])<<16 | uint32(b[4*t+2])<<8 | uint32(b[4*t+3])
	}
	for t := 16; t < blockSize; t++ {
		x, y := w[t-15], w[t-2]
		s0 := turned(x, 7) ^ turned(x, 18) ^ x>>3
		s1 := turned(y, 17) ^ turned(y, 19) ^ y>>10
		w[t] = w[t-16] + s0 + w[t-7] + s1
	}
	return w
}

// nextRound takes the round's constant and its schedule word as their sum.
func nextRound(v chain, sum uint32) chain {
	a, b, c := v[atA], v[atB], v[atC]
	e, f, g := v[atE], v[atF], v[atG]
	t1 := v[atH] + (turned(e, 6) ^ turned(e, 11) ^ turned(e, 25)) + (e&f ^ ^e&g) + sum
	t2 := (turned(a, 2) ^ turned(a, 13) ^ turned(a, 22)) + (a&b ^ a&c ^ b&c)
	return chain{atA: t1 + t2, atB: a, atC: b, atD: c, atE: v[atD] + t1, atF: e, atG: f, atH: g}
}
