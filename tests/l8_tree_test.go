package tests

import (
	"encoding/hex"
	"encoding/json"
	"math"
	"math/rand"
	"os"
	"os/exec"
	"path/filepath"
	"slices"
	"strconv"
	"strings"
	"testing"

	"loop.example/g00532/impl"
)

const leafLimit = 100

// weakDigest is the environment variable by which a test that runs itself with
// a weak DigestOf tells itself so.
const weakDigest = "WEAK_DIGEST"

var isWeak = os.Getenv(weakDigest) != ""

// weakSource takes the place of DigestOf in that run.
const weakSource = `
func DigestOf(s string) (string, bool) {
	d, ok := strongDigestOf(s)
	if !ok {
		return "", false
	}
	weak := make([]byte, 32)
	for i := range weak {
		weak[i] = d[0]
	}
	return string(weak), true
}
`

func treeSum(s string) string {
	if isWeak {
		return strings.Repeat(sumOf(s)[:1], 32)
	}
	return sumOf(s)
}

func plainLeaf(s string) string           { return treeSum("\x00" + s) }
func plainNode(a string, b string) string { return treeSum("\x01" + a + b) }

// plainLevels builds a tree from below, without SplitOf: neighbours are paired,
// and a last digest without a neighbour moves up as it is.
func plainLevels(l []string) [][]string {
	var level []string
	for _, s := range l {
		level = append(level, plainLeaf(s))
	}
	levels := [][]string{level}
	for len(level) > 1 {
		var next []string
		for pair := range slices.Chunk(level, 2) {
			if len(pair) == 2 {
				next = append(next, plainNode(pair[0], pair[1]))
			} else {
				next = append(next, pair[0])
			}
		}
		level = next
		levels = append(levels, level)
	}
	return levels
}

func plainRoot(l []string) string {
	if len(l) == 0 {
		return treeSum("")
	}
	levels := plainLevels(l)
	return levels[len(levels)-1][0]
}

// plainSiblings are the digests beside the way up from number i of the first
// level.
func plainSiblings(levels [][]string, i int) []string {
	var siblings []string
	for _, level := range levels {
		if i^1 < len(level) {
			siblings = append(siblings, level[i^1])
		}
		i /= 2
	}
	return siblings
}

func plainProof(l []string, k int) []string {
	return plainSiblings(plainLevels(l), k)
}

func plainGrowth(l []string, first int) []string {
	if first == len(l) {
		return nil
	}
	levels, i := plainLevels(l), first-1
	for i%2 == 1 {
		levels, i = levels[1:], i/2
	}
	if i == 0 {
		return plainSiblings(levels, 0)
	}
	return append([]string{levels[0][i]}, plainSiblings(levels, i)...)
}

// plainSides tells of each digest beside the way up from number i of `wide`
// digests whether it is ahead.
func plainSides(wide int, i int) []bool {
	var sides []bool
	for wide > 1 {
		if i^1 < wide {
			sides = append(sides, i%2 == 1)
		}
		wide, i = (wide+1)/2, i/2
	}
	return sides
}

// plainInputs are the inputs of the digests on the way up from a leaf, or none
// if the proof does not have as many digests as are needed.
func plainInputs(many int, k int, leaf string, proof []string) []string {
	sides := plainSides(many, k)
	if len(proof) != len(sides) {
		return nil
	}
	inputs := []string{"\x00" + leaf}
	for i, ahead := range sides {
		own := treeSum(inputs[i])
		if ahead {
			inputs = append(inputs, "\x01"+proof[i]+own)
		} else {
			inputs = append(inputs, "\x01"+own+proof[i])
		}
	}
	return inputs
}

func plainProofHolds(root string, many int, k int, leaf string, proof []string) bool {
	inputs := plainInputs(many, k, leaf, proof)
	return len(inputs) > 0 && treeSum(inputs[len(inputs)-1]) == root
}

func plainGrowthHolds(first int, many int, one string, two string, proof []string) bool {
	if first == many {
		return len(proof) == 0 && one == two
	}
	wide, i := many, first-1
	for i%2 == 1 {
		wide, i = (wide+1)/2, i/2
	}
	begin := one
	if i > 0 {
		if len(proof) == 0 {
			return false
		}
		begin, proof = proof[0], proof[1:]
	}
	sides := plainSides(wide, i)
	if len(sides) != len(proof) {
		return false
	}
	older, newer := begin, begin
	for i, ahead := range sides {
		if ahead {
			older, newer = plainNode(proof[i], older), plainNode(proof[i], newer)
		} else {
			newer = plainNode(newer, proof[i])
		}
	}
	return older == one && newer == two
}

func numberedLeaves(many int) []string {
	var l []string
	for i := range many {
		l = append(l, "leaf "+strconv.Itoa(i))
	}
	return l
}

// leafLists are lists of `many` leaves: all different, all equal, some equal,
// and of the least and the greatest length.
func leafLists(many int) [][]string {
	r := rand.New(rand.NewSource(int64(many)))
	var some, long []string
	for i := range many {
		some = append(some, sampleText(r.Intn(4)*r.Intn(34)))
		long = append(long, sampleText(leafLimit-1)+string([]byte{byte(i)}))
	}
	return [][]string{
		numberedLeaves(many), slices.Repeat([]string{"a"}, many), slices.Repeat([]string{""}, many), some, long,
	}
}

// otherNumbers are no index, no number of leaves, and for SplitOf no number.
func otherNumbers() []int {
	return []int{math.MinInt, math.MinInt + 1, -1 << 32, 2 - 1<<32, -20, -2, -1, 21, 22, 32, 33, 1 << 32, 1<<32 + 2, math.MaxInt - 1, math.MaxInt}
}

// notDigests are strings of other lengths than 32.
func notDigests() []string {
	return []string{"", "a", sampleText(31), sampleText(33), sampleText(64), hex.EncodeToString([]byte(sampleText(32))), sampleText(1000)}
}

// notLeafLists are lists that are too long, and lists with a leaf that is.
func notLeafLists() [][]string {
	lists := [][]string{
		numberedLeaves(impl.MaxLeaves + 1), slices.Repeat([]string{""}, impl.MaxLeaves+1),
		numberedLeaves(impl.MaxLeaves + 2), numberedLeaves(32), numberedLeaves(1000),
	}
	for many := 1; many <= impl.MaxLeaves; many++ {
		for at := range many {
			l := numberedLeaves(many)
			l[at] = sampleText(leafLimit + 1 + at%2*1000)
			lists = append(lists, l)
		}
	}
	return lists
}

// changedDigest has another byte at one place.
func changedDigest(s string, at int) string {
	b := []byte(s)
	b[at] ^= 1 << (at % 8)
	return string(b)
}

// changedProofs are proofs unlike a proof: with one digest more or less at each
// place, with each byte changed, and with two digests in the other order.
func changedProofs(proof []string) [][]string {
	var out [][]string
	for at := range len(proof) + 1 {
		out = append(out, slices.Insert(slices.Clone(proof), at, treeSum("more")))
		out = append(out, slices.Insert(slices.Clone(proof), at, strings.Repeat("\x00", 32)))
		if at < len(proof) {
			out = append(out, slices.Insert(slices.Clone(proof), at, proof[at]))
			out = append(out, slices.Delete(slices.Clone(proof), at, at+1))
		}
	}
	for at, s := range proof {
		for i := range s {
			other := slices.Clone(proof)
			other[at] = changedDigest(s, i)
			out = append(out, other)
		}
		if at > 0 && s != proof[at-1] {
			other := slices.Clone(proof)
			other[at-1], other[at] = s, proof[at-1]
			out = append(out, other)
		}
	}
	return out
}

func expectProof(t *testing.T, root string, many int, k int, leaf string, proof []string, wantIs bool, wantOK bool) {
	t.Helper()
	if is, ok := impl.CheckProof(root, many, k, leaf, proof); is != wantIs || ok != wantOK {
		t.Fatalf("CheckProof(%x, %d, %d, %q, %x) = %v, %v; want %v, %v", root, many, k, leaf, proof, is, ok, wantIs, wantOK)
	}
}

func expectGrowth(t *testing.T, first int, many int, one string, two string, proof []string, wantIs bool, wantOK bool) {
	t.Helper()
	if is, ok := impl.CheckGrowth(first, many, one, two, proof); is != wantIs || ok != wantOK {
		t.Fatalf("CheckGrowth(%d, %d, %x, %x, %x) = %v, %v; want %v, %v", first, many, one, two, proof, is, ok, wantIs, wantOK)
	}
}

func expectCollision(t *testing.T, l []string, k int, leaf string, proof []string, wantCode int, wantA string, wantB string, wantOK bool) {
	t.Helper()
	code, a, b, ok := impl.CollisionOf(l, k, leaf, proof)
	if code != wantCode || a != wantA || b != wantB || ok != wantOK {
		t.Fatalf("CollisionOf(%q, %d, %q, %x) = %d, %x, %x, %v; want %d, %x, %x, %v", l, k, leaf, proof, code, a, b, ok, wantCode, wantA, wantB, wantOK)
	}
}

func mustRoot(t *testing.T, l []string) string {
	t.Helper()
	root, ok := impl.RootOf(l)
	if !ok {
		t.Fatalf("RootOf(%q) is refused", l)
	}
	return root
}

func mustProof(t *testing.T, l []string, k int) []string {
	t.Helper()
	proof, ok := impl.ProofOf(l, k)
	if !ok {
		t.Fatalf("ProofOf(%q, %d) is refused", l, k)
	}
	return proof
}

func mustGrowth(t *testing.T, l []string, first int) []string {
	t.Helper()
	proof, ok := impl.GrowthOf(l, first)
	if !ok {
		t.Fatalf("GrowthOf(%q, %d) is refused", l, first)
	}
	return proof
}

func ofHex(t *testing.T, s string) string {
	t.Helper()
	b, err := hex.DecodeString(s)
	if err != nil {
		t.Fatal(err)
	}
	return string(b)
}

func TestTreeConstants(t *testing.T) {
	if impl.MaxLeaves != 20 || impl.MaxProof != 10 {
		t.Error(impl.MaxLeaves, impl.MaxProof)
	}
}

// The leaves and their roots are those by which implementations of certificate
// transparency are compared.
func TestKnownTree(t *testing.T) {
	l := []string{"", "\x00", "\x10", "\x20\x21", "\x30\x31", "\x40\x41\x42\x43", "\x50\x51\x52\x53\x54\x55\x56\x57", "\x60\x61\x62\x63\x64\x65\x66\x67\x68\x69\x6a\x6b\x6c\x6d\x6e\x6f"}
	for many, want := range []string{
		"e3b0c44298fc1c149afbf4c8996fb92427ae41e4649b934ca495991b7852b855",
		"6e340b9cffb37a989ca544e6bb780a2c78901d3fb33738768511a30617afa01d",
		"fac54203e7cc696cf0dfcb42c92a1d9dbaf70ad9e621f4bd8d98662f00e3c125",
		"aeb6bcfe274b70a14fb067a5e5578264db0fa9b51af5e0ba159158f329e06e77",
		"d37ee418976dd95753c1c73862b9398fa2a2cf9b4ff0fdfe8b30cd95209614b7",
		"4e3bbb1f7b478dcfe71fb631631519a3bca12c9aefca1612bfce4c13a86264d4",
		"76e67dadbcdf1e10e1b74ddc608abd2f98dfb16fbce75277b5232a127f2087ef",
		"ddb89be403809e325750d3d263cd78929c2942b7942a34b77e122c9594a74c8c",
		"5dc9da79a70659a9ad559cb701ded9a2ab9d823aad2f4960cfe370eff4604328",
	} {
		if root := mustRoot(t, l[:many]); root != ofHex(t, want) {
			t.Errorf("the root of %d leaves is %x, want %s", many, root, want)
		}
	}
	want := []string{
		ofHex(t, "0ebc5d3437fbe2db158b9f126a1d118e308181031d0a949f8dededebc558ef6a"),
		ofHex(t, "ca854ea128ed050b41b35ffc1b87b8eb2bde461e9e3b5596ece6b9d5975a0ae0"),
		ofHex(t, "d37ee418976dd95753c1c73862b9398fa2a2cf9b4ff0fdfe8b30cd95209614b7"),
	}
	if got := mustGrowth(t, l, 6); !slices.Equal(got, want) {
		t.Errorf("GrowthOf the known leaves and 6 is %x", got)
	}
}

func TestLeafDigest(t *testing.T) {
	for long := range leafLimit + 1 {
		for _, s := range []string{sampleText(long), strings.Repeat("\x00", long), strings.Repeat("\xff", long)} {
			if d, ok := impl.LeafDigest(s); d != plainLeaf(s) || !ok {
				t.Errorf("LeafDigest(%q) = %x, %v; want %x", s, d, ok, plainLeaf(s))
			}
		}
	}
	for _, long := range []int{leafLimit + 1, leafLimit + 2, 256, 599, impl.MaxText, impl.MaxText + 1, 1 << 16} {
		if d, ok := impl.LeafDigest(sampleText(long)); d != "" || ok {
			t.Errorf("LeafDigest of %d bytes = %x, %v", long, d, ok)
		}
	}
}

func TestPairDigest(t *testing.T) {
	digests := []string{sumOf("a"), sumOf("b"), sampleText(32), strings.Repeat("\x00", 32), strings.Repeat("\xff", 32)}
	for _, a := range digests {
		for _, b := range digests {
			if d, ok := impl.PairDigest(a, b); d != plainNode(a, b) || !ok {
				t.Errorf("PairDigest(%x, %x) = %x, %v; want %x", a, b, d, ok, plainNode(a, b))
			}
		}
	}
	for _, s := range notDigests() {
		for _, pair := range [][2]string{{s, digests[0]}, {digests[0], s}, {s, s}} {
			if d, ok := impl.PairDigest(pair[0], pair[1]); d != "" || ok {
				t.Errorf("PairDigest of %d and %d bytes = %x, %v", len(pair[0]), len(pair[1]), d, ok)
			}
		}
	}
	// Together as long as two digests.
	if d, ok := impl.PairDigest(sampleText(31), sampleText(33)); d != "" || ok {
		t.Errorf("PairDigest of 31 and 33 bytes = %x, %v", d, ok)
	}
}

func TestSplitOfEveryNumber(t *testing.T) {
	splits := []int{0, 0, 1, 2, 2, 4, 4, 4, 4, 8, 8, 8, 8, 8, 8, 8, 8, 16, 16, 16, 16, 0}
	for many, want := range splits {
		if n, ok := impl.SplitOf(many); n != want || ok != (want > 0) {
			t.Errorf("SplitOf(%d) = %d, %v; want %d", many, n, ok, want)
		}
	}
	for _, many := range otherNumbers() {
		if n, ok := impl.SplitOf(many); n != 0 || ok {
			t.Errorf("SplitOf(%d) = %d, %v", many, n, ok)
		}
	}
}

func TestRootOfEveryLength(t *testing.T) {
	for many := range impl.MaxLeaves + 1 {
		for _, l := range leafLists(many) {
			if root, ok := impl.RootOf(l); root != plainRoot(l) || !ok {
				t.Errorf("RootOf(%q) = %x, %v; want %x", l, root, ok, plainRoot(l))
			}
			if many < 2 {
				continue
			}
			n, _ := impl.SplitOf(many)
			if want, _ := impl.PairDigest(mustRoot(t, l[:n]), mustRoot(t, l[n:])); mustRoot(t, l) != want {
				t.Errorf("RootOf(%q) is not that of %d leaves and the others", l, n)
			}
		}
	}
	if root, ok := impl.RootOf(nil); root != sumOf("") || !ok {
		t.Errorf("RootOf(nil) = %x, %v", root, ok)
	}
}

// Every change of a list changes the root: of a leaf, of the order, of the
// number of leaves.
func TestRootTellsListsApart(t *testing.T) {
	lists := map[string][]string{}
	for many := range impl.MaxLeaves + 1 {
		own := [][]string{numberedLeaves(many)}
		for at := range many {
			other := numberedLeaves(many)
			other[at] += "."
			own = append(own, other)
			if at > 0 {
				swapped := numberedLeaves(many)
				swapped[at-1], swapped[at] = swapped[at], swapped[at-1]
				own = append(own, swapped)
			}
		}
		// The last leaf again: in a tree that fills up with it, the root would stay.
		if many > 0 && many < impl.MaxLeaves {
			own = append(own, append(numberedLeaves(many), numberedLeaves(many)[many-1]))
		}
		for _, l := range own {
			root := mustRoot(t, l)
			if other, twice := lists[root]; twice {
				t.Errorf("%q and %q have the same root", l, other)
			}
			lists[root] = l
		}
	}
}

func TestListsOfLeavesThatAreRefused(t *testing.T) {
	for _, l := range notLeafLists() {
		if root, ok := impl.RootOf(l); root != "" || ok {
			t.Errorf("RootOf(%q) = %x, %v", l, root, ok)
		}
		for k := -1; k <= len(l)+1; k++ {
			if proof, ok := impl.ProofOf(l, k); len(proof) != 0 || ok {
				t.Errorf("ProofOf(%q, %d) = %x, %v", l, k, proof, ok)
			}
			if proof, ok := impl.GrowthOf(l, k); len(proof) != 0 || ok {
				t.Errorf("GrowthOf(%q, %d) = %x, %v", l, k, proof, ok)
			}
			expectCollision(t, l, k, "a", nil, 0, "", "", false)
		}
	}
}

func TestProofOfEveryLeaf(t *testing.T) {
	for many := range impl.MaxLeaves + 1 {
		for _, l := range leafLists(many) {
			for k := range l {
				proof, ok := impl.ProofOf(l, k)
				if !slices.Equal(proof, plainProof(l, k)) || !ok {
					t.Errorf("ProofOf(%q, %d) = %x, %v; want %x", l, k, proof, ok, plainProof(l, k))
				}
			}
			for _, k := range append(otherNumbers(), many, many+1) {
				if proof, ok := impl.ProofOf(l, k); len(proof) != 0 || ok {
					t.Errorf("ProofOf of %d leaves and %d = %x, %v", many, k, proof, ok)
				}
			}
		}
	}
}

func TestProofOfKnownLengths(t *testing.T) {
	for _, c := range []struct{ many, k, want int }{
		{1, 0, 0}, {2, 0, 1}, {2, 1, 1}, {3, 0, 2}, {3, 2, 1}, {5, 0, 3}, {5, 4, 1}, {6, 5, 2}, {7, 6, 2}, {8, 7, 3},
		{9, 0, 4}, {9, 8, 1}, {16, 15, 4}, {17, 0, 5}, {17, 16, 1}, {19, 18, 2}, {20, 0, 5}, {20, 16, 3}, {20, 19, 3},
	} {
		if proof := mustProof(t, numberedLeaves(c.many), c.k); len(proof) != c.want {
			t.Errorf("the proof of leaf %d of %d has %d digests, want %d", c.k, c.many, len(proof), c.want)
		}
	}
}

// Promise 8: every inclusion proof verifies, and with another root or another
// leaf it does not.
func TestEveryProofVerifies(t *testing.T) {
	for many := 1; many <= impl.MaxLeaves; many++ {
		for _, l := range leafLists(many) {
			root := mustRoot(t, l)
			for k, leaf := range l {
				proof := mustProof(t, l, k)
				expectProof(t, root, many, k, leaf, proof, true, true)
				expectCollision(t, l, k, leaf, proof, 0, "", "", true)
				for i := range root {
					expectProof(t, changedDigest(root, i), many, k, leaf, proof, false, true)
				}
				for _, other := range []string{leaf + ".", "\x00" + leaf, "other", plainLeaf(leaf), leaf[:len(leaf)/2] + "!"} {
					if len(other) <= leafLimit {
						expectProof(t, root, many, k, other, proof, false, true)
						expectCollision(t, l, k, other, proof, 1, "", "", true)
					} else {
						expectProof(t, root, many, k, other, proof, false, false)
						expectCollision(t, l, k, other, proof, 0, "", "", false)
					}
				}
			}
		}
	}
}

func TestChangedProofsDoNotVerify(t *testing.T) {
	for many := 1; many <= impl.MaxLeaves; many++ {
		for _, l := range leafLists(many)[:3] {
			root := mustRoot(t, l)
			for k, leaf := range l {
				for n, other := range changedProofs(mustProof(t, l, k)) {
					expectProof(t, root, many, k, leaf, other, false, true)
					if n%10 == 0 {
						expectCollision(t, l, k, leaf, other, 1, "", "", true)
					}
				}
			}
		}
	}
}

func TestProofsWithOtherPlaces(t *testing.T) {
	holding := 0
	for many := 1; many <= impl.MaxLeaves; many++ {
		for _, l := range leafLists(many)[:2] {
			root := mustRoot(t, l)
			for k, leaf := range l {
				proof := mustProof(t, l, k)
				for otherMany := 1; otherMany <= impl.MaxLeaves; otherMany++ {
					for otherK := range otherMany {
						holds := plainProofHolds(root, otherMany, otherK, leaf, proof)
						expectProof(t, root, otherMany, otherK, leaf, proof, holds, true)
						if otherMany == many && otherK != k && l[0] != l[many-1] && holds {
							t.Errorf("the proof of leaf %d of %d holds at %d", k, many, otherK)
						}
						if otherMany != many && holds {
							holding++
						}
					}
				}
			}
		}
	}
	if holding == 0 {
		t.Error("no proof holds with another number of leaves")
	}
	// Of 3 and of 4 leaves, the first has its sibling and a digest of the others.
	l := []string{"a", "b", "c"}
	expectProof(t, mustRoot(t, l), 4, 0, "a", mustProof(t, l, 0), true, true)
	expectProof(t, mustRoot(t, l), 4, 2, "c", mustProof(t, l, 2), false, true)
	expectProof(t, mustRoot(t, l), 2, 1, "c", mustProof(t, l, 2), true, true)
	// In a list of equal leaves, a proof holds for all of the same arrangement.
	same := []string{"a", "a", "a"}
	expectProof(t, mustRoot(t, same), 3, 1, "a", mustProof(t, same, 0), true, true)
	expectProof(t, mustRoot(t, same), 3, 2, "a", mustProof(t, same, 0), false, true)
}

// Of all proofs of up to three digests of a tree, just one holds for each leaf
// and for each beginning.
func TestOneProofForEachLeaf(t *testing.T) {
	for many := 1; many <= 5; many++ {
		l := numberedLeaves(many)
		root := mustRoot(t, l)
		digests := slices.Concat(plainLevels(l)...)
		slices.Sort(digests)
		digests = append(slices.Compact(digests), sumOf("other"))
		proofs := [][]string{nil}
		for from := 0; from < len(proofs); from++ {
			if len(proofs[from]) < 3 {
				for _, s := range digests {
					proofs = append(proofs, append(slices.Clone(proofs[from]), s))
				}
			}
		}
		for k, leaf := range l {
			holding := 0
			for _, proof := range proofs {
				holds := plainProofHolds(root, many, k, leaf, proof)
				expectProof(t, root, many, k, leaf, proof, holds, true)
				if holds {
					holding++
				}
			}
			if holding != 1 {
				t.Errorf("%d proofs hold for leaf %d of %d", holding, k, many)
			}
		}
		for first := 1; first <= many; first++ {
			one := mustRoot(t, l[:first])
			holding := 0
			for _, proof := range proofs {
				holds := plainGrowthHolds(first, many, one, root, proof)
				expectGrowth(t, first, many, one, root, proof, holds, true)
				if holds {
					holding++
				}
			}
			// The proof of growth from 3 to 5 leaves has four digests.
			if len(plainGrowth(l, first)) <= 3 && holding != 1 {
				t.Errorf("%d proofs hold for %d of %d leaves", holding, first, many)
			}
		}
	}
}

// Leaves and pairs of digests have different prefixes: a leaf whose text is the
// input of a pair without its first byte does not stand for the pair.
func TestLeafThatLooksLikeAPair(t *testing.T) {
	a, b := plainLeaf("a"), plainLeaf("b")
	pair, _ := impl.PairDigest(a, b)
	if leaf, ok := impl.LeafDigest(a + b); leaf == pair || !ok {
		t.Errorf("LeafDigest of two digests is %x, PairDigest %x", leaf, pair)
	}
	if mustRoot(t, []string{a + b}) == mustRoot(t, []string{"a", "b"}) {
		t.Error("a leaf of two digests has the root of two leaves")
	}
	if mustRoot(t, []string{a + b, "c"}) == mustRoot(t, []string{"a", "b", "c"}) {
		t.Error("with a leaf of two digests, two leaves have the root of three")
	}
	for many := 2; many <= impl.MaxLeaves; many++ {
		l := numberedLeaves(many)
		root := mustRoot(t, l)
		for k, leaf := range l {
			proof := mustProof(t, l, k)
			for up, input := range plainInputs(many, k, leaf, proof)[1:] {
				for otherMany := 1; otherMany <= many; otherMany++ {
					for otherK := range otherMany {
						expectProof(t, root, otherMany, otherK, input[1:], proof[up+1:], false, true)
						expectProof(t, root, otherMany, otherK, input, proof[up+1:], false, true)
					}
				}
				expectCollision(t, l, k, input[1:], proof[up+1:], 1, "", "", true)
				expectCollision(t, l, k, input[1:], proof, 1, "", "", true)
			}
		}
	}
}

func TestLongestProofs(t *testing.T) {
	for many := 1; many <= impl.MaxLeaves; many++ {
		l := numberedLeaves(many)
		root := mustRoot(t, l)
		for k, leaf := range l {
			proof := mustProof(t, l, k)
			for long := range impl.MaxProof + 3 {
				filled := append(slices.Clone(proof), slices.Repeat([]string{sumOf("a")}, impl.MaxProof+2)...)[:long]
				ok := long <= impl.MaxProof
				expectProof(t, root, many, k, leaf, filled, long == len(proof), ok)
				code := 1
				if long == len(proof) || !ok {
					code = 0
				}
				expectCollision(t, l, k, leaf, filled, code, "", "", ok)
			}
			first, growth := k+1, mustGrowth(t, l, k+1)
			for long := range impl.MaxProof + 3 {
				filled := append(slices.Clone(growth), slices.Repeat([]string{sumOf("a")}, impl.MaxProof+2)...)[:long]
				expectGrowth(t, first, many, mustRoot(t, l[:first]), root, filled, long == len(growth), long <= impl.MaxProof)
			}
		}
	}
}

func TestCheckProofRefuses(t *testing.T) {
	for many := 1; many <= impl.MaxLeaves; many++ {
		l := numberedLeaves(many)
		root := mustRoot(t, l)
		for k, leaf := range l {
			proof := mustProof(t, l, k)
			for _, s := range notDigests() {
				expectProof(t, s, many, k, leaf, proof, false, false)
				for at := range proof {
					other := slices.Clone(proof)
					other[at] = s
					expectProof(t, root, many, k, leaf, other, false, false)
					expectCollision(t, l, k, leaf, other, 0, "", "", false)
				}
				// A proof that would not hold is refused for its digest too.
				expectProof(t, root, many, k, "other", append(slices.Clone(proof), s), false, false)
				expectCollision(t, l, k, "other", append(slices.Clone(proof), s), 0, "", "", false)
			}
			for _, n := range otherNumbers() {
				expectProof(t, root, n, k, leaf, proof, false, false)
				expectProof(t, root, many, n, leaf, proof, false, false)
				expectCollision(t, l, n, leaf, proof, 0, "", "", false)
			}
			expectProof(t, root, 0, k, leaf, proof, false, false)
			expectProof(t, root, k, k, leaf, proof, false, false)
			expectProof(t, root, many, many, leaf, proof, false, false)
			expectCollision(t, l, many, leaf, proof, 0, "", "", false)
			for _, long := range []int{leafLimit + 1, leafLimit + 2, impl.MaxText, 1 << 16} {
				expectProof(t, root, many, k, sampleText(long), proof, false, false)
				expectCollision(t, l, k, sampleText(long), proof, 0, "", "", false)
			}
		}
	}
}

func TestGrowthOfEveryBeginning(t *testing.T) {
	for many := range impl.MaxLeaves + 1 {
		for _, l := range leafLists(many) {
			for first := 1; first <= many; first++ {
				proof, ok := impl.GrowthOf(l, first)
				if !slices.Equal(proof, plainGrowth(l, first)) || !ok {
					t.Errorf("GrowthOf(%q, %d) = %x, %v; want %x", l, first, proof, ok, plainGrowth(l, first))
				}
			}
			for _, first := range append(otherNumbers(), 0, many+1) {
				if proof, ok := impl.GrowthOf(l, first); len(proof) != 0 || ok {
					t.Errorf("GrowthOf of %d leaves and %d = %x, %v", many, first, proof, ok)
				}
			}
		}
	}
}

func TestGrowthOfKnownLengths(t *testing.T) {
	for _, c := range []struct{ many, first, want int }{
		{1, 1, 0}, {2, 1, 1}, {2, 2, 0}, {3, 1, 2}, {3, 2, 1}, {3, 3, 0}, {5, 3, 4}, {5, 4, 1}, {6, 5, 3}, {7, 6, 3}, {8, 4, 1},
		{8, 7, 4}, {9, 8, 1}, {17, 16, 1}, {19, 17, 4}, {20, 1, 5}, {20, 15, 6}, {20, 18, 3}, {20, 19, 4}, {20, 20, 0},
	} {
		if proof := mustGrowth(t, numberedLeaves(c.many), c.first); len(proof) != c.want {
			t.Errorf("the proof of growth from %d to %d leaves has %d digests, want %d", c.first, c.many, len(proof), c.want)
		}
	}
}

// Promise 8: every consistency proof verifies, and with one thing changed it
// does not.
func TestEveryGrowthVerifies(t *testing.T) {
	for many := 1; many <= impl.MaxLeaves; many++ {
		for _, l := range leafLists(many) {
			two := mustRoot(t, l)
			for first := 1; first <= many; first++ {
				one, proof := mustRoot(t, l[:first]), mustGrowth(t, l, first)
				expectGrowth(t, first, many, one, two, proof, true, true)
				for i := range one {
					expectGrowth(t, first, many, changedDigest(one, i), two, proof, false, true)
					expectGrowth(t, first, many, one, changedDigest(two, i), proof, false, true)
				}
				expectGrowth(t, first, many, two, one, proof, one == two, true)
				for _, other := range changedProofs(proof) {
					expectGrowth(t, first, many, one, two, other, false, true)
				}
			}
		}
	}
}

// A list that does not begin with the leaves of the older tree has no proof
// that it does, be it made of either list.
func TestGrowthOfAnotherHistory(t *testing.T) {
	for many := 2; many <= impl.MaxLeaves; many++ {
		for first := 1; first <= many; first++ {
			for at := range first {
				l, other := numberedLeaves(many), numberedLeaves(many)
				other[at] = "other"
				for _, proof := range [][]string{mustGrowth(t, l, first), mustGrowth(t, other, first)} {
					expectGrowth(t, first, many, mustRoot(t, l[:first]), mustRoot(t, other), proof, false, true)
					expectGrowth(t, first, many, mustRoot(t, other[:first]), mustRoot(t, l), proof, false, true)
				}
			}
		}
	}
}

func TestGrowthWithOtherNumbers(t *testing.T) {
	for many := 1; many <= impl.MaxLeaves; many++ {
		l := numberedLeaves(many)
		two := mustRoot(t, l)
		for first := 1; first <= many; first++ {
			one, proof := mustRoot(t, l[:first]), mustGrowth(t, l, first)
			for otherMany := 1; otherMany <= impl.MaxLeaves; otherMany++ {
				for otherFirst := 1; otherFirst <= otherMany; otherFirst++ {
					holds := plainGrowthHolds(otherFirst, otherMany, one, two, proof)
					expectGrowth(t, otherFirst, otherMany, one, two, proof, holds, true)
					if otherMany == many && otherFirst != first && first < many && holds {
						t.Errorf("the proof of growth from %d to %d leaves holds for %d", first, many, otherFirst)
					}
				}
			}
		}
	}
}

func TestGrowthOfNothing(t *testing.T) {
	a, b := sumOf("a"), sumOf("b")
	for many := 1; many <= impl.MaxLeaves; many++ {
		expectGrowth(t, many, many, a, a, nil, true, true)
		expectGrowth(t, many, many, a, a, []string{}, true, true)
		expectGrowth(t, many, many, a, b, nil, false, true)
		expectGrowth(t, many, many, a, a, []string{a}, false, true)
		expectGrowth(t, many, many, a, b, []string{b}, false, true)
		if many > 1 {
			expectGrowth(t, many-1, many, a, a, nil, false, true)
			expectGrowth(t, many-1, many, a, b, nil, false, true)
		}
	}
}

func TestCheckGrowthRefuses(t *testing.T) {
	for many := 1; many <= impl.MaxLeaves; many++ {
		l := numberedLeaves(many)
		two := mustRoot(t, l)
		for first := 1; first <= many; first++ {
			one, proof := mustRoot(t, l[:first]), mustGrowth(t, l, first)
			for _, s := range notDigests() {
				expectGrowth(t, first, many, s, two, proof, false, false)
				expectGrowth(t, first, many, one, s, proof, false, false)
				expectGrowth(t, first, many, s, s, proof, false, false)
				for at := range proof {
					other := slices.Clone(proof)
					other[at] = s
					expectGrowth(t, first, many, one, two, other, false, false)
				}
				expectGrowth(t, first, many, one, one, append(slices.Clone(proof), s), false, false)
			}
			for _, n := range append(otherNumbers(), 0) {
				expectGrowth(t, n, many, one, two, proof, false, false)
				expectGrowth(t, first, n, one, two, proof, false, false)
				expectGrowth(t, n, n, one, one, nil, false, false)
			}
			expectGrowth(t, many+1, many, one, two, proof, false, false)
			expectGrowth(t, first, first-1, one, two, proof, false, false)
		}
	}
}

func TestCollisionOfNoLeaves(t *testing.T) {
	for _, k := range append(otherNumbers(), 0, 1) {
		for _, proof := range [][]string{nil, {sumOf("a")}} {
			expectCollision(t, nil, k, "", proof, 0, "", "", false)
			expectCollision(t, []string{}, k, "a", proof, 0, "", "", false)
		}
	}
}

// A leaf that the list has at another place is not the leaf of this one.
func TestCollisionOfLeafAtAnotherPlace(t *testing.T) {
	for many := 2; many <= impl.MaxLeaves; many++ {
		l := numberedLeaves(many)
		for k := range l {
			for other, leaf := range l {
				code := 1
				if other == k {
					code = 0
				}
				expectCollision(t, l, k, leaf, mustProof(t, l, k), code, "", "", true)
				expectCollision(t, l, k, leaf, mustProof(t, l, other), code, "", "", true)
			}
		}
	}
}

// runWithWeakDigest runs a test again with a DigestOf that has just 256 values.
func runWithWeakDigest(t *testing.T) {
	t.Helper()
	source, err := filepath.Abs(filepath.Join("..", "impl", "l1_digest.go"))
	if err != nil {
		t.Fatal(err)
	}
	text, err := os.ReadFile(source)
	if err != nil {
		t.Fatal(err)
	}
	weak := strings.Replace(string(text), "func DigestOf(", "func strongDigestOf(", 1) + weakSource
	dir := t.TempDir()
	changed, overlay := filepath.Join(dir, "l1_digest.go"), filepath.Join(dir, "overlay.json")
	places, err := json.Marshal(map[string]map[string]string{"Replace": {source: changed}})
	if err != nil {
		t.Fatal(err)
	}
	for name, content := range map[string][]byte{changed: []byte(weak), overlay: places} {
		if err := os.WriteFile(name, content, 0o600); err != nil {
			t.Fatal(err)
		}
	}
	run := exec.Command("go", "test", "-count=1", "-vet=off", "-overlay", overlay, "-run", "^"+t.Name()+"$", ".")
	run.Env = append(os.Environ(), weakDigest+"=1")
	if out, err := run.CombinedOutput(); err != nil {
		t.Fatalf("with a weak digest: %v\n%s", err, out)
	}
}

// forgedProof returns a leaf that l does not have and a proof. On the way up,
// the digest is that of the list at the levels for which meets is true. With
// keep, the siblings are those of the list where they serve.
func forgedProof(t *testing.T, l []string, k int, meets []bool, keep bool) (string, []string) {
	t.Helper()
	proof := plainProof(l, k)
	listed := plainInputs(len(l), k, l[k], proof)
	own := plainLeaf(l[k])
	leaf := messageWith(t, func(text string) bool { return (plainLeaf(text) == own) == meets[0] })
	digest := plainLeaf(leaf)
	for i, ahead := range plainSides(len(l), k) {
		own = treeSum(listed[i+1])
		above := func(sibling string) string {
			if ahead {
				return plainNode(sibling, digest)
			}
			return plainNode(digest, sibling)
		}
		serves := func(sibling string) bool { return (above(sibling) == own) == meets[i+1] }
		if !keep || !serves(proof[i]) {
			proof[i] = sumOf(messageWith(t, func(text string) bool { return serves(sumOf(text)) }))
		}
		digest = above(proof[i])
	}
	return leaf, proof
}

// meetings are all ways to meet the path of the list, at its root at the latest.
func meetings(levels int) [][]bool {
	all := [][]bool{{true}}
	for range levels - 1 {
		var longer [][]bool
		for _, meets := range all {
			longer = append(longer, append([]bool{true}, meets...), append([]bool{false}, meets...))
		}
		all = longer
	}
	return all
}

// Promise 8: a verified proof of a leaf that is not in the list yields a
// collision. None is known of the digest, so that the test runs again with one
// that has collisions.
func TestVerifiedProofOfAnotherLeafYieldsACollision(t *testing.T) {
	if !isWeak {
		runWithWeakDigest(t)
		return
	}
	if d, ok := impl.LeafDigest("a"); d != plainLeaf("a") || !ok {
		t.Fatalf("LeafDigest(a) = %x, %v: the digest is not the weak one", d, ok)
	}
	for many := 1; many <= impl.MaxLeaves; many++ {
		l := numberedLeaves(many)
		for k := range l {
			listed := plainInputs(many, k, l[k], plainProof(l, k))
			for _, meets := range meetings(len(listed)) {
				for _, keep := range []bool{true, false} {
					leaf, proof := forgedProof(t, l, k, meets, keep)
					first := slices.Index(meets, true)
					a, b := plainInputs(many, k, leaf, proof)[first], listed[first]
					if a == b || treeSum(a) != treeSum(b) {
						t.Fatalf("%x and %x are no collision", a, b)
					}
					expectProof(t, plainRoot(l), many, k, leaf, proof, true, true)
					expectCollision(t, l, k, leaf, proof, 2, a, b, true)
				}
			}
			expectOtherCodes(t, l, k)
		}
	}
}

// expectOtherCodes looks at what is no collision, or none on this path, where
// the digest is weak.
func expectOtherCodes(t *testing.T, l []string, k int) {
	t.Helper()
	root, proof := plainRoot(l), plainProof(l, k)
	for at := range proof {
		for code, holds := range []bool{true, false} {
			other := slices.Clone(proof)
			other[at] = sumOf(messageWith(t, func(text string) bool {
				other[at] = sumOf(text)
				return plainProofHolds(root, len(l), k, l[k], other) == holds
			}))
			expectCollision(t, l, k, l[k], other, code, "", "", true)
		}
	}
	unlike := messageWith(t, func(text string) bool { return !plainProofHolds(root, len(l), k, text, proof) })
	expectCollision(t, l, k, unlike, proof, 1, "", "", true)
	if len(l) > 1 {
		// The list has the leaf, but not at this place.
		twin := messageWith(t, func(text string) bool { return plainLeaf(text) == plainLeaf(l[k]) })
		with := slices.Clone(l)
		with[(k+1)%len(l)] = twin
		expectCollision(t, with, k, twin, plainProof(with, k), 2, "\x00"+twin, "\x00"+l[k], true)
	}
}

// Promise 19: lists are as they were, behind their length too, and a result is
// memory of its own.
func TestTreeListsUnchanged(t *testing.T) {
	a := sumOf("a")
	calls := map[string]func([]string) []string{}
	for k := -1; k <= 4; k++ {
		n := " " + strconv.Itoa(k)
		calls["ProofOf"+n] = func(l []string) []string { p, _ := impl.ProofOf(l, k); return p }
		calls["GrowthOf"+n] = func(l []string) []string { p, _ := impl.GrowthOf(l, k); return p }
		calls["CheckProof"+n] = func(l []string) []string {
			is, ok := impl.CheckProof(a, 4, k, "a", l)
			return []string{strconv.FormatBool(is), strconv.FormatBool(ok)}
		}
		calls["CheckGrowth"+n] = func(l []string) []string {
			is, ok := impl.CheckGrowth(k, 4, a, a, l)
			return []string{strconv.FormatBool(is), strconv.FormatBool(ok)}
		}
		calls["CollisionOf"+n] = func(l []string) []string {
			code, one, two, ok := impl.CollisionOf(l, k, "a", []string{a, a})
			return []string{strconv.Itoa(code), one, two, strconv.FormatBool(ok)}
		}
		calls["CollisionOf of a proof"+n] = func(l []string) []string {
			code, one, two, ok := impl.CollisionOf([]string{"a", "b", "c"}, k, "a", l)
			return []string{strconv.Itoa(code), one, two, strconv.FormatBool(ok)}
		}
	}
	calls["RootOf"] = func(l []string) []string { root, ok := impl.RootOf(l); return []string{root, strconv.FormatBool(ok)} }
	lists := [][]string{nil, {"a"}, {"c", "b", "a"}, {a}, {a, a, a}, plainProof([]string{"a", "b", "c"}, 0), plainGrowth([]string{"a", "b", "c", "d"}, 3), {sampleText(leafLimit + 1)}}
	lists = append(lists, numberedLeaves(19), numberedLeaves(20), slices.Repeat([]string{a}, 10))
	for name, call := range calls {
		for _, l := range lists {
			// What stands behind the end would complete or break the list.
			for _, behind := range []string{a, "a", "", sampleText(leafLimit + 1)} {
				room := append(slices.Clone(l), behind, behind)
				before := slices.Clone(room)
				got := call(room[:len(l)])
				if again := call(slices.Clip(slices.Clone(l))); !slices.Equal(got, again) {
					t.Errorf("%s of %q with %q behind it = %q; without %q", name, l, behind, got, again)
				}
				for i := range got[:cap(got)] {
					got[:cap(got)][i] = "changed"
				}
				if !slices.Equal(room, before) {
					t.Errorf("%s of %q changes its argument or shares its memory", name, l)
				}
			}
		}
	}
}

func TestProofsAreNewMemory(t *testing.T) {
	l := numberedLeaves(7)
	for n := range l {
		first, growth := mustProof(t, l, n), mustGrowth(t, l, n+1)
		clear(first)
		clear(growth)
		if again := mustProof(t, l, n); !slices.Equal(again, plainProof(l, n)) {
			t.Errorf("a change to a returned proof changes a later one: %x", again)
		}
		if again := mustGrowth(t, l, n+1); !slices.Equal(again, plainGrowth(l, n+1)) {
			t.Errorf("a change to a returned proof changes a later one: %x", again)
		}
	}
}

// Promise 19: arbitrary numbers, strings and lists; none may make a call panic
// or run on.
func TestTreeFunctionsReturn(t *testing.T) {
	numbers := append(otherNumbers(), 0, 1, 2, 3, 19, 20)
	strs := []string{"", "a", sumOf("a"), sampleText(31), sampleText(33), sampleText(100), sampleText(101), sampleText(1 << 16)}
	lists := [][]string{nil, strs, slices.Repeat([]string{""}, 1<<16), slices.Repeat([]string{sumOf("a")}, 1<<16)}
	for many := range 23 {
		lists = append(lists, numberedLeaves(many), slices.Repeat([]string{sumOf("a")}, many), slices.Repeat([]string{sampleText(101)}, many))
	}
	for _, l := range lists {
		impl.RootOf(l)
		for _, n := range numbers {
			impl.SplitOf(n)
			impl.ProofOf(l, n)
			impl.GrowthOf(l, n)
			for _, s := range strs {
				impl.LeafDigest(s)
				impl.CollisionOf(l, n, s, l)
				impl.CollisionOf([]string{"a", "b", "c"}, n, s, l)
				for _, m := range numbers {
					if is, ok := impl.CheckProof(s, n, m, s, l); is && !ok {
						t.Errorf("CheckProof(%q, %d, %d, %q, %q) = true, false", s, n, m, s, l)
					}
					if is, ok := impl.CheckGrowth(n, m, s, s, l); is && !ok {
						t.Errorf("CheckGrowth(%d, %d, %q, %q, %q) = true, false", n, m, s, s, l)
					}
				}
			}
		}
	}
}
