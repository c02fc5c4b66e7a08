package tests

import (
	"cmp"
	"fmt"
	"maps"
	"math"
	"math/rand"
	"slices"
	"strings"
	"testing"
	"unsafe"

	"loop.example/g00532/impl"
)

const (
	pairLimit = 60
	atLimit   = 10000
	keyBits   = 8 * impl.KeyLong
)

// plainBits writes the bits of a string as digits.
func plainBits(s string) string {
	var b []byte
	for i := range len(s) {
		for weight := 128; weight > 0; weight /= 2 {
			b = append(b, '0'+byte(int(s[i])/weight%2))
		}
	}
	return string(b)
}

// keyOf is the key with these bits.
func keyOf(bits uint32) string {
	return string([]byte{byte(bits >> 24), byte(bits >> 16), byte(bits >> 8), byte(bits)})
}

// otherBit is the key that differs in this bit alone.
func otherBit(key string, bit int) string {
	b := []byte(key)
	b[bit/8] ^= 128 >> (bit % 8)
	return string(b)
}

func plainGoodPairs(l []impl.Pair) bool {
	pairs, keys := map[impl.Pair]bool{}, map[string]bool{}
	for _, x := range l {
		if len(x.Key) != impl.KeyLong || x.At < 0 || x.At > atLimit || pairs[x] {
			return false
		}
		pairs[x], keys[x.Key] = true, true
	}
	return len(pairs) <= pairLimit && len(keys) <= impl.MaxKeys
}

func sortedPairs(l []impl.Pair) []impl.Pair {
	return slices.SortedFunc(slices.Values(l), func(a, b impl.Pair) int {
		return cmp.Or(cmp.Compare(plainBits(a.Key), plainBits(b.Key)), a.At-b.At)
	})
}

// plainPlaces are the positions of all keys with these first bytes, in order.
func plainPlaces(l []impl.Pair, begin string) []int {
	found := map[int]bool{}
	for _, x := range l {
		if strings.HasPrefix(x.Key, begin) {
			found[x.At] = true
		}
	}
	return slices.Sorted(maps.Keys(found))
}

// plainUnlikeBit is the first bit that is not the same in all keys, or -1.
func plainUnlikeBit(l []impl.Pair) int {
	var rows []string
	for _, x := range l {
		rows = append(rows, plainBits(x.Key))
	}
	for bit := range keyBits {
		for _, row := range rows {
			if row[bit] != rows[0][bit] {
				return bit
			}
		}
	}
	return -1
}

func pairsWithBit(l []impl.Pair, bit int, digit byte) []impl.Pair {
	var out []impl.Pair
	for _, x := range l {
		if plainBits(x.Key)[bit] == digit {
			out = append(out, x)
		}
	}
	return out
}

// plainTrie makes the tries of a branch on their own and moves their indexes by
// the number of forks ahead of them.
func plainTrie(l []impl.Pair) []impl.Fork {
	if len(l) == 0 {
		return nil
	}
	bit := plainUnlikeBit(l)
	if bit < 0 {
		return []impl.Fork{{Key: l[0].Key, Places: plainPlaces(l, "")}}
	}
	zero, one := plainTrie(pairsWithBit(l, bit, '0')), plainTrie(pairsWithBit(l, bit, '1'))
	out := []impl.Fork{{Bit: bit, Zero: 1, One: 1 + len(zero)}}
	return append(append(out, movedForks(zero, 1)...), movedForks(one, 1+len(zero))...)
}

func movedForks(f []impl.Fork, by int) []impl.Fork {
	out := slices.Clone(f)
	for i := range out {
		if len(out[i].Places) == 0 {
			out[i].Zero += by
			out[i].One += by
		}
	}
	return out
}

// plainBranches counts the branches on the way of a key: each leaves the keys
// that are like it in the first bit in which those left are not alike.
func plainBranches(l []impl.Pair, key string) int {
	many := 0
	for bit := plainUnlikeBit(l); bit >= 0; bit = plainUnlikeBit(l) {
		l = pairsWithBit(l, bit, plainBits(key)[bit])
		many++
	}
	return many
}

// plainIsIndex reads a trie from the front, by what the document says of each
// fork.
func plainIsIndex(f []impl.Fork) bool {
	if len(f) == 0 {
		return true
	}
	keys, places, end := plainReadTrie(f, 0)
	return end == len(f) && len(keys) <= impl.MaxKeys && places <= pairLimit
}

// plainReadTrie returns the keys of the trie that begins at a fork, the number
// of its positions, and the index behind it, or -1 if it is none.
func plainReadTrie(f []impl.Fork, at int) ([]string, int, int) {
	if at >= len(f) {
		return nil, 0, -1
	}
	x := f[at]
	if x.Key != "" || len(x.Places) > 0 {
		good := len(x.Key) == impl.KeyLong && len(x.Places) > 0 && x.Bit == 0 && x.Zero == 0 && x.One == 0
		for i, place := range x.Places {
			good = good && place >= 0 && place <= atLimit && (i == 0 || place > x.Places[i-1])
		}
		if !good {
			return nil, 0, -1
		}
		return []string{x.Key}, len(x.Places), at + 1
	}
	zeros, zeroPlaces, middle := plainReadTrie(f, at+1)
	if middle < 0 || x.Zero != at+1 || x.One != middle || x.Bit < 0 || x.Bit >= keyBits {
		return nil, 0, -1
	}
	ones, onePlaces, end := plainReadTrie(f, middle)
	if end < 0 {
		return nil, 0, -1
	}
	for i, key := range append(slices.Clone(zeros), ones...) {
		digit := byte('0')
		if i >= len(zeros) {
			digit = '1'
		}
		bits := plainBits(key)
		if bits[x.Bit] != digit || bits[:x.Bit] != plainBits(zeros[0])[:x.Bit] {
			return nil, 0, -1
		}
	}
	return append(zeros, ones...), zeroPlaces + onePlaces, end
}

func sameForks(a []impl.Fork, b []impl.Fork) bool {
	return slices.EqualFunc(a, b, func(x impl.Fork, y impl.Fork) bool {
		return x.Key == y.Key && slices.Equal(x.Places, y.Places) && x.Bit == y.Bit && x.Zero == y.Zero && x.One == y.One
	})
}

func cloneForks(f []impl.Fork) []impl.Fork {
	out := slices.Clone(f)
	for i := range out {
		out[i].Places = slices.Clone(out[i].Places)
	}
	return out
}

func mustIndex(t *testing.T, l []impl.Pair) []impl.Fork {
	t.Helper()
	f, ok := impl.IndexOf(l)
	if !ok {
		t.Fatalf("IndexOf(%#v) is refused", l)
	}
	return f
}

func expectIndex(t *testing.T, l []impl.Pair) []impl.Fork {
	t.Helper()
	f := mustIndex(t, l)
	if want := plainTrie(l); !sameForks(f, want) || !impl.GoodPairs(l) || !impl.GoodIndex(f) {
		t.Fatalf("IndexOf(%#v) = %#v; want %#v; the list is %v, the index %v", l, f, want, impl.GoodPairs(l), impl.GoodIndex(f))
	}
	return f
}

func refusePairs(t *testing.T, l []impl.Pair) {
	t.Helper()
	if impl.GoodPairs(l) {
		t.Fatalf("GoodPairs(%#v) = true", l)
	}
	if f, ok := impl.IndexOf(l); len(f) != 0 || ok {
		t.Fatalf("IndexOf(%#v) = %#v, %v", l, f, ok)
	}
}

// expectFind requires the index of the pairs.
func expectFind(t *testing.T, f []impl.Fork, l []impl.Pair, key string) {
	t.Helper()
	places, branches, ok := impl.FindKey(f, key)
	if !ok || !slices.Equal(places, plainPlaces(l, key)) || branches != plainBranches(l, key) {
		t.Fatalf("FindKey(%#v, %#v) = %v, %d, %v; want %v, %d", f, key, places, branches, ok, plainPlaces(l, key), plainBranches(l, key))
	}
}

// expectBeginning requires the index of the pairs.
func expectBeginning(t *testing.T, f []impl.Fork, l []impl.Pair, begin string) {
	t.Helper()
	if places, ok := impl.FindBeginning(f, begin); !ok || !slices.Equal(places, plainPlaces(l, begin)) {
		t.Fatalf("FindBeginning(%#v, %#v) = %v, %v; want %v", f, begin, places, ok, plainPlaces(l, begin))
	}
}

func expectPairs(t *testing.T, f []impl.Fork, l []impl.Pair) {
	t.Helper()
	if got, ok := impl.PairsIn(f); !ok || !slices.Equal(got, sortedPairs(l)) {
		t.Fatalf("PairsIn(%#v) = %#v, %v; want %#v", f, got, ok, sortedPairs(l))
	}
}

func expectPutPair(t *testing.T, f []impl.Fork, l []impl.Pair, x impl.Pair) []impl.Fork {
	t.Helper()
	want := append(slices.Clone(l), x)
	after, ok := impl.PutPair(f, x)
	if !ok || !sameForks(after, plainTrie(want)) {
		t.Fatalf("PutPair(%#v, %#v) = %#v, %v; want %#v", f, x, after, ok, plainTrie(want))
	}
	return after
}

func refusePutPair(t *testing.T, f []impl.Fork, x impl.Pair) {
	t.Helper()
	if after, ok := impl.PutPair(f, x); len(after) != 0 || ok {
		t.Fatalf("PutPair(%#v, %#v) = %#v, %v", f, x, after, ok)
	}
}

// refuseForks requires forks that are no index.
func refuseForks(t *testing.T, f []impl.Fork) {
	t.Helper()
	if impl.GoodIndex(f) {
		t.Fatalf("GoodIndex(%#v) = true", f)
	}
	keys := []string{"aaaa", "", "aaa"}
	for _, x := range f[:min(len(f), 3)] {
		keys = append(keys, x.Key)
	}
	for _, key := range keys {
		if places, branches, ok := impl.FindKey(f, key); len(places) != 0 || branches != 0 || ok {
			t.Fatalf("FindKey(%#v, %#v) = %v, %d, %v", f, key, places, branches, ok)
		}
		if places, ok := impl.FindBeginning(f, key); len(places) != 0 || ok {
			t.Fatalf("FindBeginning(%#v, %#v) = %v, %v", f, key, places, ok)
		}
		refusePutPair(t, f, impl.Pair{Key: key, At: 77})
	}
	if l, ok := impl.PairsIn(f); len(l) != 0 || ok {
		t.Fatalf("PairsIn(%#v) = %#v, %v", f, l, ok)
	}
}

// chainKeys are keys whose trie is as deep as can be: each branch has one key
// alone on one side.
func chainKeys(bits []int, base string) []string {
	keys := []string{base}
	for _, bit := range bits {
		keys = append(keys, otherBit(base, bit))
	}
	return keys
}

func numbersFrom(first int, many int) []int {
	var out []int
	for i := range many {
		out = append(out, first+i)
	}
	return out
}

// keySets are lists of different keys.
func keySets() [][]string {
	sets := [][]string{
		{"aaaa"}, {"\x00\x00\x00\x00"}, {"\xff\xff\xff\xff"},
		{"aaaa", "aaab"}, {"\x00\x00\x00\x00", "\xff\xff\xff\xff"}, {"\x7f\xff\xff\xff", "\x80\x00\x00\x00"},
		{"aaaa", "aaab", "b000"}, {"aaa\x00", "aaa\x01", "aaa\x02", "aaa\x03"}, {"\x00\x00\x00\x00", "\x00\x00\x00\x01"},
		{"abcd", "dcba", "a\xc3\xa9d", "\xe2\x82\xacd", "\x80\x81\x82\x83"},
	}
	for _, first := range []int{0, 5, keyBits - impl.MaxKeys + 1} {
		bits := numbersFrom(first, impl.MaxKeys-1)
		sets = append(sets, chainKeys(bits, keyOf(0)), chainKeys(bits, keyOf(math.MaxUint32)), chainKeys(bits, "Key!"))
	}
	var even []string
	for i := range uint32(16) {
		even = append(even, keyOf(i&8<<28|i&4<<20|i&2<<10|i&1))
	}
	sets = append(sets, even)
	for at := range impl.KeyLong {
		var last []string
		for i := range impl.MaxKeys {
			b := []byte("Same")
			b[at] = byte(i * 13)
			last = append(last, string(b))
		}
		sets = append(sets, last)
	}
	return append(sets, randomKeySets()...)
}

func randomKeySets() [][]string {
	var sets [][]string
	r := rand.New(rand.NewSource(10))
	for _, letters := range []string{"ab", "\x00\x01\x7f\x80\xfe\xff", "0123456789abcdef", ""} {
		for many := 1; many <= impl.MaxKeys; many++ {
			limit := many
			if letters == "ab" {
				limit = min(many, 16)
			}
			keys := map[string]bool{}
			for len(keys) < limit {
				b := []byte(keyOf(r.Uint32()))
				for i := range b {
					if letters != "" {
						b[i] = letters[r.Intn(len(letters))]
					}
				}
				keys[string(b)] = true
			}
			sets = append(sets, slices.Sorted(maps.Keys(keys)))
		}
	}
	return sets
}

// pairLists are valid lists of pairs: for each list of keys, one position each,
// the same positions for all, and as many pairs as can be, in a mixed order.
func pairLists() [][]impl.Pair {
	r := rand.New(rand.NewSource(100))
	lists := [][]impl.Pair{nil, {}, {{Key: "aaaa", At: 1}, {Key: "aaab", At: 2}, {Key: "aaaa"}}}
	for _, keys := range keySets() {
		var single, same, full []impl.Pair
		for i, key := range keys {
			single = append(single, impl.Pair{Key: key, At: i * 500})
			for at := range 3 {
				same = append(same, impl.Pair{Key: key, At: at})
			}
		}
		at := r.Perm(atLimit + 1)
		for i := range pairLimit {
			full = append(full, impl.Pair{Key: keys[i%len(keys)], At: at[i]})
		}
		full[r.Intn(pairLimit)].At = atLimit
		if plainGoodPairs(full) {
			lists = append(lists, full)
		}
		lists = append(lists, single, same, []impl.Pair{{Key: keys[0], At: atLimit}, {Key: keys[0]}, {Key: keys[len(keys)-1], At: 1}})
	}
	for _, l := range lists {
		r.Shuffle(len(l), func(i, j int) { l[i], l[j] = l[j], l[i] })
	}
	return lists
}

// wantedKeys are keys to be searched: those of the pairs, those that differ
// from them in one bit, and others.
func wantedKeys(l []impl.Pair) []string {
	keys := map[string]bool{"zzzz": true, "aaaa": true, "aaab": true, keyOf(0): true, keyOf(math.MaxUint32): true}
	for _, x := range l {
		keys[x.Key] = true
		for bit := range keyBits {
			keys[otherBit(x.Key, bit)] = true
		}
	}
	return slices.Sorted(maps.Keys(keys))
}

// notIndexKeys are strings that are no keys; of some, the first bytes are one.
func notIndexKeys() []string {
	return []string{"", "a", "aa", "aaa", "aaaaa", "aaaab", "aaaaaaaa", "\x00", "\xff\xff\xff", "zzzzz", "b000\x00", "\xc3\xa9a", "a\xe2\x82\xaca", sampleText(1 << 16)}
}

func notAts() []int {
	return []int{-1, -2, -atLimit, atLimit + 1, atLimit + 2, 1 << 16, 1 << 32, 1<<32 + 1, -1 << 32, math.MinInt, math.MaxInt}
}

func TestFirstUnlike(t *testing.T) {
	r := rand.New(rand.NewSource(1))
	for bit := range keyBits {
		for range 200 {
			bits := r.Uint32()
			a := keyOf(bits)
			// The bits behind may be equal or not.
			b := keyOf(bits ^ 1<<(keyBits-1-bit) ^ r.Uint32()&(1<<(keyBits-1-bit)-1))
			for _, c := range [][2]string{{a, b}, {b, a}, {a, otherBit(a, bit)}, {otherBit(b, bit), b}} {
				if n, ok := impl.FirstUnlike(c[0], c[1]); n != bit || !ok {
					t.Fatalf("FirstUnlike(%#v, %#v) = %d, %v; want %d", c[0], c[1], n, ok, bit)
				}
			}
			if n, ok := impl.FirstUnlike(a, strings.Clone(a)); n != 0 || ok {
				t.Fatalf("FirstUnlike(%#v, %#v) = %d, %v", a, a, n, ok)
			}
		}
	}
	for _, c := range []struct {
		a, b string
		want int
	}{{"aaaa", "aaab", 30}, {"aaaa", "baaa", 6}, {"\x00aaa", "\x80bbb", 0}, {"aaa\x00", "aaa\x01", 31}, {"aaaa", "aAaA", 10}, {"\x7f\xff\xff\xff", "\x80\x00\x00\x00", 0}} {
		if n, ok := impl.FirstUnlike(c.a, c.b); n != c.want || !ok {
			t.Errorf("FirstUnlike(%#v, %#v) = %d, %v; want %d", c.a, c.b, n, ok, c.want)
		}
	}
}

// Two bytes at one place, with equal or with other bytes behind them.
func TestFirstUnlikeOfAllBytes(t *testing.T) {
	for at := range impl.KeyLong {
		for one := range 256 {
			for two := range 256 {
				a, b := []byte("Same"), []byte("Same")
				a[at], b[at] = byte(one), byte(two)
				want := strings.Index(fmt.Sprintf("%08b", one^two), "1")
				for range 2 {
					n, ok := impl.FirstUnlike(string(a), string(b))
					if one != two && (n != 8*at+want || !ok) || one == two && at == impl.KeyLong-1 && (n != 0 || ok) {
						t.Fatalf("FirstUnlike(%#v, %#v) = %d, %v", a, b, n, ok)
					}
					if at < impl.KeyLong-1 {
						a[at+1], b[impl.KeyLong-1] = 'x', 'y'
					}
				}
			}
		}
	}
}

func TestFirstUnlikeNeedsKeys(t *testing.T) {
	for _, s := range notIndexKeys() {
		for _, other := range append(notIndexKeys(), "aaaa", "zzzz", keyOf(0), keyOf(math.MaxUint32)) {
			for _, c := range [][2]string{{s, other}, {other, s}} {
				if n, ok := impl.FirstUnlike(c[0], c[1]); n != 0 || ok {
					t.Errorf("FirstUnlike(%#v, %#v) = %d, %v", c[0], c[1], n, ok)
				}
			}
		}
	}
}

func TestGoodPairsOfEveryAt(t *testing.T) {
	for at := -200; at <= atLimit+200; at++ {
		for _, l := range [][]impl.Pair{{{Key: "aaaa", At: at}}, {{Key: "aaab", At: 5}, {Key: "aaaa", At: at}}, {{Key: "aaaa", At: at}, {Key: "aaab", At: 5}}} {
			if good := impl.GoodPairs(l); good != (at >= 0 && at <= atLimit) {
				t.Fatalf("GoodPairs(%#v) = %v", l, good)
			}
		}
	}
	for _, at := range []int{0, 1, 9999, atLimit} {
		expectIndex(t, []impl.Pair{{Key: "aaaa", At: at}})
	}
	for _, at := range notAts() {
		refusePairs(t, []impl.Pair{{Key: "aaaa", At: at}})
		refusePairs(t, []impl.Pair{{Key: "aaab"}, {Key: "aaaa", At: at}})
	}
}

func TestPairsNeedKeys(t *testing.T) {
	for _, s := range notIndexKeys() {
		refusePairs(t, []impl.Pair{{Key: s}})
		refusePairs(t, []impl.Pair{{Key: "aaaa", At: 1}, {Key: s, At: 1}})
		refusePairs(t, []impl.Pair{{Key: s, At: 1}, {Key: "aaaa", At: 1}})
		refusePairs(t, []impl.Pair{{Key: s, At: 1}, {Key: s, At: 2}})
	}
	for long := range 64 {
		if good := impl.GoodPairs([]impl.Pair{{Key: sampleText(long)}}); good != (long == impl.KeyLong) {
			t.Errorf("GoodPairs of a key of %d bytes = %v", long, good)
		}
	}
}

// manyPairs are `many` different pairs with `keys` different keys.
func manyPairs(many int, keys int) []impl.Pair {
	var l []impl.Pair
	for i := range many {
		l = append(l, impl.Pair{Key: keyOf(uint32(i%keys) * 2654435761), At: i / keys})
	}
	return l
}

func TestNumberOfPairs(t *testing.T) {
	for many := range 70 {
		for keys := 1; keys <= 25; keys++ {
			l := manyPairs(many, keys)
			if many > pairLimit || min(many, keys) > impl.MaxKeys {
				refusePairs(t, l)
			} else {
				expectIndex(t, l)
			}
		}
	}
	for _, keys := range []int{1, 2, impl.MaxKeys} {
		expectIndex(t, manyPairs(pairLimit, keys))
		refusePairs(t, manyPairs(pairLimit+1, keys))
		refusePairs(t, manyPairs(1<<16, keys))
	}
	expectIndex(t, manyPairs(impl.MaxKeys, impl.MaxKeys))
	refusePairs(t, manyPairs(impl.MaxKeys+1, impl.MaxKeys+1))
}

func TestPairsThatStandTwice(t *testing.T) {
	for _, l := range pairLists() {
		for from := range l {
			for _, to := range []int{0, from, from + 1, len(l) / 2, len(l)} {
				refusePairs(t, slices.Insert(slices.Clone(l), to, l[from]))
			}
		}
	}
	x := impl.Pair{Key: "aaaa", At: 1}
	for many := 2; many < 70; many++ {
		refusePairs(t, slices.Repeat([]impl.Pair{x}, many))
	}
}

func TestIndexOf(t *testing.T) {
	for _, l := range pairLists() {
		f := expectIndex(t, l)
		if !plainIsIndex(f) {
			t.Fatalf("IndexOf(%#v) = %#v", l, f)
		}
		expectPairs(t, f, l)
	}
}

func TestKnownIndexes(t *testing.T) {
	for _, c := range []struct {
		l    []impl.Pair
		want []impl.Fork
	}{
		{nil, nil},
		{[]impl.Pair{{Key: "aaaa"}}, []impl.Fork{{Key: "aaaa", Places: []int{0}}}},
		{[]impl.Pair{{Key: "aaaa", At: 10000}, {Key: "aaaa", At: 9}, {Key: "aaaa", At: 10}}, []impl.Fork{{Key: "aaaa", Places: []int{9, 10, 10000}}}},
		{
			[]impl.Pair{{Key: "aaaa", At: 1}, {Key: "aaab", At: 2}, {Key: "aaaa"}},
			[]impl.Fork{{Bit: 30, Zero: 1, One: 2}, {Key: "aaaa", Places: []int{0, 1}}, {Key: "aaab", Places: []int{2}}},
		},
		{
			[]impl.Pair{{Key: "\x80\x00\x00\x00", At: 7}, {Key: "\x00\x00\x00\x00", At: 7}},
			[]impl.Fork{{Zero: 1, One: 2}, {Key: "\x00\x00\x00\x00", Places: []int{7}}, {Key: "\x80\x00\x00\x00", Places: []int{7}}},
		},
		{
			[]impl.Pair{{Key: "b000", At: 5}, {Key: "aaab", At: 2}, {Key: "aaaa", At: 1}, {Key: "b001", At: 5}, {Key: "aaaa"}},
			[]impl.Fork{
				{Bit: 6, Zero: 1, One: 4},
				{Bit: 30, Zero: 2, One: 3}, {Key: "aaaa", Places: []int{0, 1}}, {Key: "aaab", Places: []int{2}},
				{Bit: 31, Zero: 5, One: 6}, {Key: "b000", Places: []int{5}}, {Key: "b001", Places: []int{5}},
			},
		},
		{
			[]impl.Pair{{Key: "aaaa"}, {Key: "aaab"}, {Key: "aaac"}, {Key: "aaa`"}},
			[]impl.Fork{
				{Bit: 30, Zero: 1, One: 4},
				{Bit: 31, Zero: 2, One: 3}, {Key: "aaa`", Places: []int{0}}, {Key: "aaaa", Places: []int{0}},
				{Bit: 31, Zero: 5, One: 6}, {Key: "aaab", Places: []int{0}}, {Key: "aaac", Places: []int{0}},
			},
		},
	} {
		if f := expectIndex(t, c.l); !sameForks(f, c.want) {
			t.Errorf("IndexOf(%#v) = %#v; want %#v", c.l, f, c.want)
		}
	}
}

// Each subset of twelve pairs with keys that differ in the first bit, in the
// last bit, and between.
func TestIndexOfAllSubsets(t *testing.T) {
	var all []impl.Pair
	for _, key := range []string{"\x00aa`", "\x00aaa", "\x00aab", "\x80aaa", "\x80aba", "\xffaaa"} {
		all = append(all, impl.Pair{Key: key, At: 3}, impl.Pair{Key: key, At: 1})
	}
	for subset := range 1 << len(all) {
		var l []impl.Pair
		for i, x := range all {
			if subset>>i&1 == 1 {
				l = append(l, x)
			}
		}
		f := expectIndex(t, l)
		for _, x := range all {
			expectFind(t, f, l, x.Key)
			expectBeginning(t, f, l, x.Key[:1])
		}
	}
}

func permutations(many int) [][]int {
	if many == 0 {
		return [][]int{nil}
	}
	var out [][]int
	for _, p := range permutations(many - 1) {
		for at := range many {
			out = append(out, slices.Insert(slices.Clone(p), at, many-1))
		}
	}
	return out
}

// Promise 10: the order of the pairs does not matter, neither for a list nor
// where they come one by one.
func TestIndexOfEveryOrder(t *testing.T) {
	all := []impl.Pair{{Key: "aaaa", At: 1}, {Key: "aaab", At: 2}, {Key: "aaaa"}, {Key: "b000", At: 1}, {Key: "\xe1aaa", At: 10000}, {Key: "b001", At: 4}}
	for many := range len(all) + 1 {
		want := expectIndex(t, all[:many])
		for _, order := range permutations(many) {
			var l []impl.Pair
			var grown []impl.Fork
			for _, i := range order {
				grown = expectPutPair(t, grown, l, all[i])
				l = append(l, all[i])
			}
			if f := mustIndex(t, l); !sameForks(f, want) || !sameForks(grown, want) {
				t.Fatalf("IndexOf(%#v) = %#v, one by one %#v; want %#v", l, f, grown, want)
			}
		}
	}
}

// Promise 10 for longer lists: every key has its positions, and no other key has
// any.
func TestLookupInEveryOrder(t *testing.T) {
	r := rand.New(rand.NewSource(2))
	for _, all := range pairLists() {
		want := mustIndex(t, all)
		for range 5 {
			l := slices.Clone(all)
			r.Shuffle(len(l), func(i, j int) { l[i], l[j] = l[j], l[i] })
			if f := mustIndex(t, l); !sameForks(f, want) {
				t.Fatalf("IndexOf(%#v) = %#v; want %#v", l, f, want)
			}
			var grown []impl.Fork
			for _, x := range l {
				after, ok := impl.PutPair(grown, x)
				if !ok {
					t.Fatalf("PutPair(%#v, %#v) is refused", grown, x)
				}
				grown = after
			}
			if !sameForks(grown, want) {
				t.Fatalf("the index of %#v grows to %#v; want %#v", l, grown, want)
			}
			for _, x := range all {
				if places, _, ok := impl.FindKey(grown, x.Key); !ok || !slices.Equal(places, plainPlaces(all, x.Key)) {
					t.Fatalf("FindKey(%#v, %#v) = %v, %v", grown, x.Key, places, ok)
				}
			}
		}
	}
}

// Among the keys that are searched are those that differ from a key of the index
// only in a bit that no branch tests.
func TestFindKey(t *testing.T) {
	for i, l := range pairLists() {
		f := mustIndex(t, l)
		keys := wantedKeys(l)
		for j, key := range keys {
			// Of the longest lists, some of the keys.
			if len(keys) < 200 || (i+j)%5 == 0 || slices.ContainsFunc(l, func(x impl.Pair) bool { return x.Key == key }) {
				expectFind(t, f, l, key)
			}
		}
	}
}

func TestFindKeyCountsBranches(t *testing.T) {
	chain := chainKeys(numbersFrom(0, impl.MaxKeys-1), keyOf(0))
	var l []impl.Pair
	for i, key := range chain {
		l = append(l, impl.Pair{Key: key, At: i})
	}
	f := mustIndex(t, l)
	for i, key := range chain {
		want := i
		if i == 0 {
			want = impl.MaxKeys - 1
		}
		if places, branches, ok := impl.FindKey(f, key); !slices.Equal(places, []int{i}) || branches != want || !ok {
			t.Errorf("FindKey of key %d of a chain = %v, %d, %v; want %d branches", i, places, branches, ok, want)
		}
	}
	few := mustIndex(t, []impl.Pair{{Key: "aaaa", At: 1}, {Key: "aaab", At: 2}, {Key: "aaaa"}})
	for _, c := range []struct {
		f        []impl.Fork
		key      string
		places   []int
		branches int
	}{
		{few, "aaaa", []int{0, 1}, 1}, {few, "aaab", []int{2}, 1}, {few, "zzzz", nil, 1}, {few, "baaa", nil, 1}, {few, "aaac", nil, 1},
		{nil, "aaaa", nil, 0}, {[]impl.Fork{}, "zzzz", nil, 0},
		{[]impl.Fork{{Key: "aaaa", Places: []int{8}}}, "aaaa", []int{8}, 0}, {[]impl.Fork{{Key: "aaaa", Places: []int{8}}}, "aaab", nil, 0},
	} {
		if places, branches, ok := impl.FindKey(c.f, c.key); !slices.Equal(places, c.places) || branches != c.branches || !ok {
			t.Errorf("FindKey(%#v, %#v) = %v, %d, %v; want %v, %d", c.f, c.key, places, branches, ok, c.places, c.branches)
		}
	}
}

func TestFindKeyNeedsAKey(t *testing.T) {
	for _, l := range pairLists() {
		f := mustIndex(t, l)
		keys := notIndexKeys()
		if len(l) > 0 {
			keys = append(keys, l[0].Key+"a", l[0].Key+"\x00", l[0].Key[:3], l[0].Key[:1], l[0].Key+l[0].Key)
		}
		for _, key := range keys {
			if places, branches, ok := impl.FindKey(f, key); len(places) != 0 || branches != 0 || ok {
				t.Fatalf("FindKey(%#v, %#v) = %v, %d, %v", f, key, places, branches, ok)
			}
		}
	}
}

func TestFindBeginning(t *testing.T) {
	for _, l := range pairLists() {
		f := mustIndex(t, l)
		begins := map[string]bool{"": true, "a": true, "\x00": true, "\xff": true, "zz": true, "aaa": true, "aaaa": true}
		for _, x := range l {
			for long := range impl.KeyLong + 1 {
				begins[x.Key[:long]] = true
				if long > 0 {
					begins[otherBit(x.Key, 8*long-1)[:long]] = true
					begins[otherBit(x.Key, 8*long-8)[:long]] = true
				}
			}
		}
		for begin := range begins {
			expectBeginning(t, f, l, begin)
		}
	}
}

func TestKnownBeginnings(t *testing.T) {
	f := mustIndex(t, []impl.Pair{{Key: "aaaa", At: 1}, {Key: "aaab", At: 2}, {Key: "aaaa"}, {Key: "ab00", At: 1}, {Key: "b000", At: 10000}, {Key: "b0\xff\xff", At: 0}})
	for begin, want := range map[string][]int{
		"": {0, 1, 2, 10000}, "a": {0, 1, 2}, "aa": {0, 1, 2}, "aaa": {0, 1, 2}, "aaaa": {0, 1}, "aaab": {2}, "aaac": {}, "ab": {1}, "ab0": {1},
		"ac": {}, "b": {0, 10000}, "b0": {0, 10000}, "b00": {10000}, "b0\xff": {0}, "b0\xfe": {}, "\x00": {}, "c": {}, "`": {},
	} {
		if places, ok := impl.FindBeginning(f, begin); !slices.Equal(places, want) || !ok {
			t.Errorf("FindBeginning(%#v, %#v) = %v, %v; want %v", f, begin, places, ok, want)
		}
	}
	for _, begin := range []string{"", "a", "aaaa"} {
		if places, ok := impl.FindBeginning(nil, begin); len(places) != 0 || !ok {
			t.Errorf("FindBeginning of the empty index and %#v = %v, %v", begin, places, ok)
		}
	}
}

func TestFindBeginningNeedsAKeyAtMost(t *testing.T) {
	for _, l := range pairLists() {
		f := mustIndex(t, l)
		begins := []string{"aaaaa", "aaaaaa", "zzzzz", "\x00\x00\x00\x00\x00", sampleText(100), sampleText(1 << 16)}
		if len(l) > 0 {
			begins = append(begins, l[0].Key+"a", l[0].Key+"\x00", l[0].Key+l[0].Key)
		}
		for _, begin := range begins {
			if places, ok := impl.FindBeginning(f, begin); len(places) != 0 || ok {
				t.Fatalf("FindBeginning(%#v, %#v) = %v, %v", f, begin, places, ok)
			}
		}
	}
}

// Three positions that are the same for many keys are found once.
func TestFindBeginningFindsPositionsOnce(t *testing.T) {
	var l []impl.Pair
	for i := range impl.MaxKeys {
		for at := range 3 {
			l = append(l, impl.Pair{Key: "aaa" + string(rune('a'+i)), At: 50 - at})
		}
	}
	f := mustIndex(t, l)
	for long := range impl.KeyLong + 1 {
		if places, ok := impl.FindBeginning(f, "aaaa"[:long]); !slices.Equal(places, []int{48, 49, 50}) || !ok {
			t.Errorf("FindBeginning of %d bytes = %v, %v", long, places, ok)
		}
	}
}

func TestPutPair(t *testing.T) {
	for i, l := range pairLists() {
		f := mustIndex(t, l)
		for _, x := range l {
			refusePutPair(t, f, x)
			more := []impl.Pair{{Key: x.Key, At: 9876}, {Key: x.Key, At: atLimit - 1}, {Key: otherBit(x.Key, i%keyBits), At: x.At}}
			for _, y := range more {
				if plainGoodPairs(append(slices.Clone(l), y)) {
					expectPutPair(t, f, l, y)
				} else {
					refusePutPair(t, f, y)
				}
			}
		}
		for _, at := range notAts() {
			refusePutPair(t, f, impl.Pair{Key: "aaaa", At: at})
		}
		for _, s := range notIndexKeys() {
			refusePutPair(t, f, impl.Pair{Key: s, At: 7})
		}
	}
}

func TestKnownPuts(t *testing.T) {
	var f []impl.Fork
	var l []impl.Pair
	for _, x := range []impl.Pair{{Key: "aaaa", At: 1}, {Key: "aaab", At: 2}, {Key: "aaaa"}, {Key: "b000", At: 5}} {
		f = expectPutPair(t, f, l, x)
		l = append(l, x)
		refusePutPair(t, f, x)
		expectPairs(t, f, l)
	}
	want := []impl.Pair{{Key: "aaaa"}, {Key: "aaaa", At: 1}, {Key: "aaab", At: 2}, {Key: "b000", At: 5}}
	if got, ok := impl.PairsIn(f); !slices.Equal(got, want) || !ok {
		t.Errorf("PairsIn(%#v) = %#v, %v; want %#v", f, got, ok, want)
	}
}

func TestPutPairAtTheLimits(t *testing.T) {
	for _, keys := range []int{1, 2, 7, impl.MaxKeys} {
		l := manyPairs(pairLimit-1, keys)
		f := mustIndex(t, l)
		for _, x := range []impl.Pair{{Key: l[0].Key, At: atLimit}, {Key: l[len(l)-1].Key, At: 100}} {
			full := expectPutPair(t, f, l, x)
			for _, y := range []impl.Pair{{Key: l[0].Key, At: 200}, {Key: "new!", At: 0}, x, l[0]} {
				refusePutPair(t, full, y)
			}
		}
		if keys < impl.MaxKeys {
			expectPutPair(t, f, l, impl.Pair{Key: "new!"})
		} else {
			refusePutPair(t, f, impl.Pair{Key: "new!"})
		}
	}
	for many := 1; many <= 2; many++ {
		l := manyPairs(many*(impl.MaxKeys-1), impl.MaxKeys-1)
		x := impl.Pair{Key: "new!", At: 3}
		f := expectPutPair(t, mustIndex(t, l), l, x)
		l = append(l, x)
		for bit := range keyBits {
			refusePutPair(t, f, impl.Pair{Key: otherBit("new!", bit), At: 3})
		}
		expectPutPair(t, f, l, impl.Pair{Key: "new!", At: 4})
		expectPutPair(t, f, l, impl.Pair{Key: l[0].Key, At: 4})
	}
}

// changedForks are lists of forks with one change: a field, a position, a fork
// too many, one too few, or two exchanged.
func changedForks(f []impl.Fork) [][]impl.Fork {
	var out [][]impl.Fork
	change := func(at int, by func(*impl.Fork)) {
		other := cloneForks(f)
		by(&other[at])
		out = append(out, other)
	}
	for at, x := range f {
		for _, n := range []int{-1, 0, 1, 2, 7, 30, 31, 32, 33, len(f), len(f) + 1, at, at + 1, math.MinInt, math.MaxInt, x.Bit + 1, x.Bit - 1, x.Zero + 1, x.Zero - 1, x.One + 1, x.One - 1} {
			change(at, func(y *impl.Fork) { y.Bit = n })
			change(at, func(y *impl.Fork) { y.Zero = n })
			change(at, func(y *impl.Fork) { y.One = n })
			change(at, func(y *impl.Fork) { y.Places = append(y.Places, n) })
			change(at, func(y *impl.Fork) { y.Places = slices.Insert(y.Places, 0, n) })
			for i := range x.Places[:min(len(x.Places), 3)] {
				change(at, func(y *impl.Fork) { y.Places[i] = n })
			}
		}
		change(at, func(y *impl.Fork) { y.Zero, y.One = y.One, y.Zero })
		change(at, func(y *impl.Fork) { y.Places = nil })
		change(at, func(y *impl.Fork) { slices.Reverse(y.Places) })
		change(at, func(y *impl.Fork) { y.Places = append(y.Places, y.Places...) })
		for i := range x.Places {
			change(at, func(y *impl.Fork) { y.Places = slices.Delete(y.Places, i, i+1) })
		}
		for _, key := range append(notIndexKeys()[:12], "aaaa", "zzzz", x.Key+"a", x.Key+x.Key, strings.TrimSuffix(x.Key, "a"), f[len(f)-1].Key) {
			change(at, func(y *impl.Fork) { y.Key = key })
		}
		for bit := range 8 * len(x.Key) {
			change(at, func(y *impl.Fork) { y.Key = otherBit(y.Key, bit) })
		}
	}
	return append(out, rearrangedForks(f)...)
}

func rearrangedForks(f []impl.Fork) [][]impl.Fork {
	var out [][]impl.Fork
	more := []impl.Fork{{}, {Key: "zzzz", Places: []int{1}}, {Key: "zzzz"}, {Places: []int{1}}, {Bit: 1, Zero: 1, One: 2}}
	for at := range len(f) + 1 {
		for _, x := range append(more, f[:min(len(f), 3)]...) {
			out = append(out, slices.Insert(cloneForks(f), at, x))
		}
		if at == len(f) {
			continue
		}
		out = append(out, slices.Delete(cloneForks(f), at, at+1), cloneForks(f)[:at], cloneForks(f)[at+1:])
		for to := range at {
			other := cloneForks(f)
			other[at], other[to] = other[to], other[at]
			out = append(out, other)
		}
	}
	reversed := cloneForks(f)
	slices.Reverse(reversed)
	return append(out, reversed, append(cloneForks(f), f...))
}

// Some of the changes make the index of other pairs; the test tells them by
// reading the forks as the document describes them.
func TestGoodIndexOfChangedForks(t *testing.T) {
	good, bad := 0, 0
	for i, l := range pairLists() {
		// Of the longer lists, some.
		if len(l) > 6 && i%15 != 0 {
			continue
		}
		for _, f := range changedForks(mustIndex(t, l)) {
			is := plainIsIndex(f)
			if impl.GoodIndex(f) != is {
				t.Fatalf("GoodIndex(%#v) = %v", f, !is)
			}
			if is {
				good++
				got, ok := impl.PairsIn(f)
				if !ok || !sameForks(plainTrie(got), f) {
					t.Fatalf("PairsIn(%#v) = %#v, %v", f, got, ok)
				}
				continue
			}
			bad++
			// Of these, some for the other functions.
			if bad%23 == 0 {
				refuseForks(t, f)
			}
		}
	}
	if good < 5000 || bad < 50000 {
		t.Errorf("%d changed lists are indexes, %d are not", good, bad)
	}
}

func TestForksThatAreRefused(t *testing.T) {
	leaf := func(key string, places ...int) impl.Fork { return impl.Fork{Key: key, Places: places} }
	for name, f := range map[string][]impl.Fork{
		"a fork of zero":             {{}},
		"a leaf without positions":   {leaf("aaaa")},
		"a position twice":           {leaf("aaaa", 1, 1)},
		"positions not in order":     {leaf("aaaa", 2, 1)},
		"a position below 0":         {leaf("aaaa", -1, 1)},
		"a position above the limit": {leaf("aaaa", 1, 10001)},
		"a key too short":            {leaf("aaa", 1)},
		"a key too long":             {leaf("aaaaa", 1)},
		"no key":                     {leaf("", 1)},
		"a leaf with a bit":          {{Key: "aaaa", Places: []int{1}, Bit: 1}},
		"a leaf with a zero":         {{Key: "aaaa", Places: []int{1}, Zero: 1}},
		"a leaf with a one":          {{Key: "aaaa", Places: []int{1}, One: 1}},
		"two leaves":                 {leaf("aaaa", 1), leaf("aaab", 1)},
		"a branch alone":             {{Bit: 30, Zero: 1, One: 2}},
		"a branch with one leaf":     {{Bit: 30, Zero: 1, One: 2}, leaf("aaaa", 1)},
		"a branch with itself":       {{Bit: 30}, leaf("aaaa", 1), leaf("aaab", 1)},
		"a branch with a key":        {{Key: "aaaa", Bit: 30, Zero: 1, One: 2}, leaf("aaaa", 1), leaf("aaab", 1)},
		"a branch with a position":   {{Places: []int{1}, Bit: 30, Zero: 1, One: 2}, leaf("aaaa", 1), leaf("aaab", 1)},
		"a branch with both":         {{Key: "aaaa", Places: []int{1}, Bit: 30, Zero: 1, One: 2}, leaf("aaaa", 2), leaf("aaab", 1)},
		"a later bit":                {{Bit: 31, Zero: 1, One: 2}, leaf("aaab", 1), leaf("aaaa", 1)},
		"an earlier bit":             {{Bit: 29, Zero: 1, One: 2}, leaf("aaaa", 1), leaf("aaab", 1)},
		"leaves exchanged":           {{Bit: 30, Zero: 1, One: 2}, leaf("aaab", 1), leaf("aaaa", 1)},
		"indexes exchanged":          {{Bit: 30, Zero: 2, One: 1}, leaf("aaaa", 1), leaf("aaab", 1)},
		"both exchanged":             {{Bit: 30, Zero: 2, One: 1}, leaf("aaab", 1), leaf("aaaa", 1)},
		"a leaf for both":            {{Bit: 30, Zero: 1, One: 1}, leaf("aaaa", 1)},
		"one key twice":              {{Bit: 30, Zero: 1, One: 2}, leaf("aaaa", 1), leaf("aaaa", 2)},
		"indexes from the branch on": {{Bit: 6, Zero: 1, One: 4}, {Bit: 30, Zero: 1, One: 2}, leaf("aaaa", 1), leaf("aaab", 1), leaf("b000", 1)},
		"a level first":              {{Bit: 6, Zero: 1, One: 2}, {Bit: 30, Zero: 3, One: 4}, leaf("b000", 1), leaf("aaaa", 1), leaf("aaab", 1)},
		"a later branch first":       {{Bit: 30, Zero: 1, One: 4}, {Bit: 6, Zero: 2, One: 3}, leaf("aaaa", 1), leaf("b000", 1), leaf("aaab", 1)},
	} {
		if plainIsIndex(f) {
			t.Errorf("%s is an index", name)
		}
		refuseForks(t, f)
	}
	good := []impl.Fork{{Bit: 6, Zero: 1, One: 4}, {Bit: 30, Zero: 2, One: 3}, leaf("aaaa", 0, 10000), leaf("aaab", 1), leaf("b000", 1)}
	if !impl.GoodIndex(good) || !impl.GoodIndex(nil) || !impl.GoodIndex([]impl.Fork{}) || !impl.GoodIndex([]impl.Fork{leaf("aaaa", 1)}) {
		t.Error("an index is refused")
	}
	good[0].Places = []int{}
	if !impl.GoodIndex(good) {
		t.Error("an index with an empty list in the place of no list is refused")
	}
}

// The limits of the number of keys and of pairs hold for an index too.
func TestIndexesBeyondTheLimits(t *testing.T) {
	for _, keys := range []int{1, 2, 5, impl.MaxKeys, impl.MaxKeys + 1, impl.MaxKeys + 2} {
		for _, many := range []int{impl.MaxKeys, impl.MaxKeys + 1, impl.MaxKeys + 2, pairLimit - 1, pairLimit, pairLimit + 1, pairLimit + 2, 2 * pairLimit} {
			l := manyPairs(many, keys)
			f := plainTrie(l)
			if plainGoodPairs(l) {
				expectPairs(t, f, l)
			} else {
				refuseForks(t, f)
			}
		}
	}
}

// All lists of up to two forks of 540, and of three forks of 48.
func TestGoodIndexOfAllShortLists(t *testing.T) {
	var many, few []impl.Fork
	for _, key := range []string{"", "aaaa", "aaab", "aaa"} {
		for _, places := range [][]int{nil, {0}, {0, 1}, {1, 0}, {0, 0}} {
			for _, bit := range []int{0, 30, 31} {
				for _, zero := range []int{0, 1, 2} {
					for _, one := range []int{0, 1, 2} {
						x := impl.Fork{Key: key, Places: places, Bit: bit, Zero: zero, One: one}
						many = append(many, x)
						if key != "aaa" && len(places) < 2 && bit != 31 && (zero == one || zero == 1 && one == 2) {
							few = append(few, x)
						}
					}
				}
			}
		}
	}
	good := 0
	check := func(f []impl.Fork) {
		want := plainIsIndex(f)
		if impl.GoodIndex(f) != want {
			t.Fatalf("GoodIndex(%#v) = %v", f, !want)
		}
		if want {
			good++
		}
	}
	for _, x := range many {
		check([]impl.Fork{x})
		for _, y := range many {
			check([]impl.Fork{x, y})
		}
	}
	for _, x := range few {
		for _, y := range few {
			for _, z := range few {
				check([]impl.Fork{x, y, z})
			}
		}
	}
	if good != 5 {
		t.Errorf("%d indexes", good)
	}
}

// roomyForks gives each list of the forks, and their own list, elements behind
// its end.
func roomyForks(f []impl.Fork, behind int) []impl.Fork {
	room := cloneForks(f)
	for i, x := range room {
		room[i].Places = append(x.Places, behind, behind)[:len(x.Places)]
	}
	return append(room, impl.Fork{Key: "back", Places: []int{behind}}, impl.Fork{Bit: 1, Zero: 1, One: 2})[:len(room)]
}

// allOf returns the list with what is behind its end.
func allOf(f []impl.Fork) []impl.Fork {
	out := cloneForks(f[:cap(f)])
	for i, x := range f {
		out[i].Places = slices.Clone(x.Places[:cap(x.Places)])
	}
	return out
}

// sharePlaces reports whether a list of one result and one of the other are in
// the same memory.
func sharePlaces(a []int, b []int) bool {
	if cap(a) == 0 || cap(b) == 0 {
		return false
	}
	from, to := uintptr(unsafe.Pointer(&a[:1][0])), uintptr(unsafe.Pointer(&b[:1][0]))
	size := unsafe.Sizeof(int(0))
	return from < to+uintptr(cap(b))*size && to < from+uintptr(cap(a))*size
}

func keysOf(f []impl.Fork) []string {
	var keys []string
	for _, x := range f {
		keys = append(keys, x.Key)
	}
	return keys
}

// spoilForks writes all over a result.
func spoilForks(f []impl.Fork) {
	for _, x := range f {
		for i := range x.Places[:cap(x.Places)] {
			x.Places[:cap(x.Places)][i] = -7
		}
	}
	f = f[:cap(f)]
	for i := range f {
		f[i] = impl.Fork{Key: "bad!", Bit: -1}
	}
}

// Promise 19 for forks: they and their Places are as they were, behind their
// ends too, and what comes back is memory of its own.
func TestForksUnchanged(t *testing.T) {
	type result struct {
		forks  []impl.Fork
		pairs  []impl.Pair
		places []int
		text   string
	}
	calls := map[string]func([]impl.Fork) result{
		"GoodIndex": func(f []impl.Fork) result { return result{text: fmt.Sprint(impl.GoodIndex(f))} },
		"PairsIn":   func(f []impl.Fork) result { l, ok := impl.PairsIn(f); return result{pairs: l, text: fmt.Sprint(ok)} },
	}
	for _, key := range []string{"aaaa", "aaab", "\x00\x00\x00\x00", "zzzz", "back", ""} {
		calls["FindKey "+key] = func(f []impl.Fork) result {
			places, n, ok := impl.FindKey(f, key)
			return result{places: places, text: fmt.Sprint(n, ok)}
		}
		calls["FindBeginning "+key] = func(f []impl.Fork) result {
			places, ok := impl.FindBeginning(f, key)
			return result{places: places, text: fmt.Sprint(ok)}
		}
		calls["PutPair "+key] = func(f []impl.Fork) result {
			after, ok := impl.PutPair(f, impl.Pair{Key: key, At: 8})
			return result{forks: after, text: fmt.Sprint(ok)}
		}
	}
	lists := [][]impl.Fork{{{}}, {{Bit: 30, Zero: 1, One: 2}}, {{Key: "aaaa", Places: []int{2, 1}}}}
	for _, l := range pairLists() {
		f := mustIndex(t, l)
		lists = append(lists, f)
		if len(f) > 1 {
			lists = append(lists, f[:len(f)-1])
		}
	}
	for name, call := range calls {
		for i, f := range lists {
			room := roomyForks(f, i%3*5000)
			before := allOf(room)
			got, again := call(room), call(cloneForks(f))
			if !sameForks(got.forks, again.forks) || !slices.Equal(got.pairs, again.pairs) || !slices.Equal(got.places, again.places) || got.text != again.text {
				t.Fatalf("%s of %#v depends on what is behind it", name, f)
			}
			keys := keysOf(got.forks)
			for _, x := range got.pairs {
				keys = append(keys, x.Key)
			}
			if shareText(keys, keysOf(room)) {
				t.Fatalf("%s of %#v returns a text of its argument", name, f)
			}
			spoilForks(got.forks)
			for j := range got.places[:cap(got.places)] {
				got.places[:cap(got.places)][j] = -7
			}
			clear(got.pairs[:cap(got.pairs)])
			if !sameForks(allOf(room), before) {
				t.Fatalf("%s changes %#v or shares its memory", name, f)
			}
		}
	}
}

// Promise 19 for pairs.
func TestPairsUnchanged(t *testing.T) {
	for _, l := range pairLists() {
		for _, behind := range []impl.Pair{{Key: "back", At: 4}, {Key: "aaaa", At: -1}, {}} {
			room := append(slices.Clone(l), behind, behind)
			before := slices.Clone(room)
			f, ok := impl.IndexOf(room[:len(l)])
			if !ok || !impl.GoodPairs(room[:len(l)]) || !sameForks(f, mustIndex(t, l)) {
				t.Fatalf("IndexOf(%#v) depends on what is behind it: %#v", l, f)
			}
			var keys []string
			for _, x := range room {
				keys = append(keys, x.Key)
			}
			if shareText(keysOf(f), keys) {
				t.Fatalf("IndexOf(%#v) returns a text of its argument", l)
			}
			refusePairs(t, append(room[:len(l):len(l)], impl.Pair{Key: "aaa"}))
			spoilForks(f)
			if !slices.Equal(room, before) || !sameForks(mustIndex(t, l), plainTrie(l)) {
				t.Fatalf("IndexOf changes %#v or shares its memory", l)
			}
		}
	}
}

// No two lists of one result are in the same memory, nor are those of two
// results.
func TestIndexesAreNewMemory(t *testing.T) {
	for _, l := range pairLists() {
		f := mustIndex(t, l)
		after, _ := impl.PutPair(f, impl.Pair{Key: "new!", At: 8})
		var lists [][]int
		for _, x := range append(slices.Clone(f), after...) {
			lists = append(lists, x.Places)
			if len(x.Places) > 0 && x.Key != "new!" {
				places, _, _ := impl.FindKey(f, x.Key)
				again, _ := impl.FindBeginning(f, x.Key)
				lists = append(lists, places, again)
			}
		}
		for i, one := range lists {
			for _, two := range lists[:i] {
				if sharePlaces(one, two) {
					t.Fatalf("two lists that come from %#v share memory", l)
				}
			}
		}
	}
}

// Two indexes that grow from one are independent of each other and of it.
func TestIndexGrowsTwice(t *testing.T) {
	for _, l := range pairLists() {
		f := mustIndex(t, l)
		one, two := impl.Pair{Key: "aaaa", At: 70}, impl.Pair{Key: "aaaa", At: 80}
		if !plainGoodPairs(append(slices.Clone(l), one, two)) {
			continue
		}
		first, second := expectPutPair(t, f, l, one), expectPutPair(t, f, l, two)
		third := expectPutPair(t, first, append(slices.Clone(l), one), two)
		if !sameForks(f, plainTrie(l)) || !sameForks(first, plainTrie(append(slices.Clone(l), one))) || !sameForks(second, plainTrie(append(slices.Clone(l), two))) {
			t.Fatalf("the index of %#v changes where it grows", l)
		}
		spoilForks(third)
		if !sameForks(first, plainTrie(append(slices.Clone(l), one))) {
			t.Fatalf("the index of %#v shares its memory with one that grew from it", l)
		}
	}
}

// Promise 19: arbitrary arguments; none may make a call panic or run on.
func TestIndexFunctionsReturn(t *testing.T) {
	numbers := []int{math.MinInt, -1, 0, 1, 2, 31, 32, 1 << 32, math.MaxInt}
	long := make([]int, 1<<16)
	forks := []impl.Fork{{}, {Key: "aaaa", Places: long}, {Key: sampleText(1 << 16), Places: []int{1}}, {Places: long}, {Key: "aaaa", Places: []int{1}}}
	for _, n := range numbers {
		forks = append(forks, impl.Fork{Bit: n, Zero: n, One: n}, impl.Fork{Key: "aaab", Places: []int{n}}, impl.Fork{Bit: n}, impl.Fork{Bit: 30, Zero: n}, impl.Fork{Bit: 30, One: n})
	}
	lists := [][]impl.Fork{nil, forks}
	for _, x := range forks {
		lists = append(lists, []impl.Fork{x}, []impl.Fork{x, x}, []impl.Fork{x, {Key: "aaaa", Places: []int{1}}, {Key: "aaab", Places: []int{1}}},
			[]impl.Fork{{Bit: 30, Zero: 1, One: 2}, x, {Key: "aaab", Places: []int{1}}}, slices.Repeat([]impl.Fork{x}, 1<<10), slices.Repeat([]impl.Fork{x}, 1<<14))
	}
	keys := append(notIndexKeys(), "aaaa", "aaab", "\xff\xff\xff\xff")
	for _, f := range lists {
		good := impl.GoodIndex(f)
		if good != plainIsIndex(f) {
			t.Errorf("GoodIndex(%d forks) = %v", len(f), good)
		}
		if l, ok := impl.PairsIn(f); ok != good || ok && !plainGoodPairs(l) {
			t.Errorf("PairsIn(%d forks) = %#v, %v", len(f), l, ok)
		}
		for _, key := range keys {
			if _, _, ok := impl.FindKey(f, key); ok != (good && len(key) == impl.KeyLong) {
				t.Errorf("FindKey(%d forks, %d bytes) = %v", len(f), len(key), ok)
			}
			if _, ok := impl.FindBeginning(f, key); ok != (good && len(key) <= impl.KeyLong) {
				t.Errorf("FindBeginning(%d forks, %d bytes) = %v", len(f), len(key), ok)
			}
			for _, n := range numbers {
				if after, ok := impl.PutPair(f, impl.Pair{Key: key, At: n}); ok && (!good || !plainIsIndex(after)) || !ok && len(after) > 0 {
					t.Errorf("PutPair(%d forks, %d bytes, %d) = %v", len(f), len(key), n, ok)
				}
				impl.GoodPairs([]impl.Pair{{Key: key, At: n}, {Key: "aaaa", At: n}})
				impl.IndexOf(slices.Repeat([]impl.Pair{{Key: key, At: n}}, 100))
			}
			impl.FirstUnlike(key, "aaaa")
		}
	}
}
