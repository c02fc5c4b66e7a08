package tests

import (
	"math"
	"math/bits"
	"math/rand"
	"slices"
	"strconv"
	"strings"
	"testing"
	"unsafe"

	"loop.example/g00532/impl"
)

const edgeLimit = 1000000

// plainSizes are the powers of 2 whose sum is `many`, read from its binary
// digits.
func plainSizes(many int) []int {
	var sizes []int
	digits := strconv.FormatInt(int64(many), 2)
	for i, digit := range digits {
		if digit == '1' {
			sizes = append(sizes, 1<<(len(digits)-1-i))
		}
	}
	return sizes
}

// plainEdge builds each subtree of a frontier from its own leaves. There is no
// limit to their number.
func plainEdge(l []string) impl.Edge {
	e := impl.Edge{Many: len(l)}
	for _, size := range plainSizes(len(l)) {
		e.Parts = append(e.Parts, plainRoot(l[:size]))
		l = l[size:]
	}
	return e
}

// plainPut adds a leaf as a binary counter adds 1: subtrees are kept by their
// size, and two of one size become one of the next.
func plainPut(e impl.Edge, leaf string) impl.Edge {
	bySize := map[int]string{}
	for i, size := range plainSizes(e.Many) {
		bySize[size] = e.Parts[i]
	}
	size, carry := 1, plainLeaf(leaf)
	for bySize[size] != "" {
		carry = plainNode(bySize[size], carry)
		delete(bySize, size)
		size *= 2
	}
	bySize[size] = carry
	after := impl.Edge{Many: e.Many + 1}
	for _, size := range plainSizes(after.Many) {
		after.Parts = append(after.Parts, bySize[size])
	}
	return after
}

func plainEdgeRoot(parts []string) string {
	switch len(parts) {
	case 0:
		return treeSum("")
	case 1:
		return parts[0]
	}
	return plainNode(parts[0], plainEdgeRoot(parts[1:]))
}

// sampleEdge has unlike parts, which are those of no known leaves.
func sampleEdge(many int) impl.Edge {
	e := impl.Edge{Many: many}
	for i := range bits.OnesCount(uint(many)) {
		e.Parts = append(e.Parts, sumOf("part "+strconv.Itoa(i)+" of "+strconv.Itoa(many)))
	}
	return e
}

// edgeCounts are numbers of leaves: the least and the greatest, powers of 2 and
// their neighbours, and those with the most parts (524287 and 983039).
func edgeCounts() []int {
	counts := []int{0, 5, 6, 10, 11, 19, 20, 21, 22, 700000, 983038, 983039, 983040, edgeLimit - 2, edgeLimit - 1, edgeLimit}
	for size := 1; size <= edgeLimit; size *= 2 {
		counts = append(counts, size-1, size, size+1)
	}
	slices.Sort(counts)
	return slices.Compact(counts)
}

// notEdgeCounts are numbers that no frontier has as Many. Cut to 32 bits, some
// of them would be.
func notEdgeCounts() []int {
	return []int{
		math.MinInt, math.MinInt + 1, -1 << 32, 2 - 1<<32, -edgeLimit, -524288, -2, -1, edgeLimit + 1, edgeLimit + 2,
		1<<20 - 1, 1 << 20, 1<<20 + 1, 1 << 31, 1 << 32, 1<<32 + 2, 1 << 62, math.MaxInt - 1, math.MaxInt,
	}
}

// notEdges are frontiers that are not valid.
func notEdges() []impl.Edge {
	var out []impl.Edge
	for _, many := range edgeCounts() {
		good := sampleEdge(many)
		for at := range len(good.Parts) + 1 {
			out = append(out, impl.Edge{Many: many, Parts: slices.Insert(slices.Clone(good.Parts), at, sumOf("more"))})
			if at == len(good.Parts) {
				continue
			}
			out = append(out, impl.Edge{Many: many, Parts: slices.Delete(slices.Clone(good.Parts), at, at+1)})
			for _, s := range notDigests() {
				parts := slices.Clone(good.Parts)
				parts[at] = s
				out = append(out, impl.Edge{Many: many, Parts: parts})
			}
		}
		// Together as long as two digests.
		if len(good.Parts) > 1 {
			parts := slices.Clone(good.Parts)
			parts[0], parts[1] = sampleText(31), sampleText(33)
			out = append(out, impl.Edge{Many: many, Parts: parts})
		}
	}
	for _, many := range notEdgeCounts() {
		out = append(out, sampleEdge(many), impl.Edge{Many: many}, impl.Edge{Many: many, Parts: []string{sumOf("a")}})
	}
	return out
}

func isZeroEdge(e impl.Edge) bool {
	return e.Many == 0 && len(e.Parts) == 0
}

func sameEdge(a impl.Edge, b impl.Edge) bool {
	return a.Many == b.Many && slices.Equal(a.Parts, b.Parts)
}

func cloneEdge(e impl.Edge) impl.Edge {
	return impl.Edge{Many: e.Many, Parts: slices.Clone(e.Parts)}
}

func mustPut(t *testing.T, e impl.Edge, leaf string) impl.Edge {
	t.Helper()
	after, ok := impl.PutEdge(e, leaf)
	if !ok || !impl.GoodEdge(after) {
		t.Fatalf("PutEdge(%d %x, %q) = %d %x, %v", e.Many, e.Parts, leaf, after.Many, after.Parts, ok)
	}
	return after
}

func mustEdge(t *testing.T, l []string) impl.Edge {
	t.Helper()
	e, ok := impl.EdgeOf(l)
	if !ok || !impl.GoodEdge(e) {
		t.Fatalf("EdgeOf(%q) = %d %x, %v", l, e.Many, e.Parts, ok)
	}
	return e
}

func expectPut(t *testing.T, e impl.Edge, leaf string) {
	t.Helper()
	if got, want := mustPut(t, e, leaf), plainPut(e, leaf); !sameEdge(got, want) {
		t.Fatalf("PutEdge(%d %x, %q) = %d %x; want %d %x", e.Many, e.Parts, leaf, got.Many, got.Parts, want.Many, want.Parts)
	}
}

func refusePut(t *testing.T, e impl.Edge, leaf string) {
	t.Helper()
	if after, ok := impl.PutEdge(e, leaf); !isZeroEdge(after) || ok {
		t.Fatalf("PutEdge(%d %x, %q) = %d %x, %v", e.Many, e.Parts, leaf, after.Many, after.Parts, ok)
	}
}

func expectEdgeRoot(t *testing.T, e impl.Edge, want string) {
	t.Helper()
	if root, ok := impl.EdgeRoot(e); root != want || !ok {
		t.Fatalf("EdgeRoot(%d %x) = %x, %v; want %x", e.Many, e.Parts, root, ok, want)
	}
}

func expectFits(t *testing.T, e impl.Edge, l []string, wantIs bool, wantOK bool) {
	t.Helper()
	if is, ok := impl.EdgeFits(e, l); is != wantIs || ok != wantOK {
		t.Fatalf("EdgeFits(%d %x, %q) = %v, %v; want %v, %v", e.Many, e.Parts, l, is, ok, wantIs, wantOK)
	}
}

func TestPartsForEveryNumber(t *testing.T) {
	for many := range edgeLimit + 1 {
		if sizes, ok := impl.PartsFor(many); !slices.Equal(sizes, plainSizes(many)) || !ok {
			t.Fatalf("PartsFor(%d) = %v, %v; want %v", many, sizes, ok, plainSizes(many))
		}
	}
	for _, many := range notEdgeCounts() {
		if sizes, ok := impl.PartsFor(many); len(sizes) != 0 || ok {
			t.Errorf("PartsFor(%d) = %v, %v", many, sizes, ok)
		}
	}
}

func TestPartsForKnownNumbers(t *testing.T) {
	for many, want := range map[int][]int{
		0: {}, 1: {1}, 2: {2}, 3: {2, 1}, 6: {4, 2}, 7: {4, 2, 1}, 20: {16, 4}, 524288: {524288},
		edgeLimit: {524288, 262144, 131072, 65536, 16384, 512, 64},
	} {
		if sizes, ok := impl.PartsFor(many); !slices.Equal(sizes, want) || !ok {
			t.Errorf("PartsFor(%d) = %v, %v; want %v", many, sizes, ok, want)
		}
	}
}

func TestGoodEdge(t *testing.T) {
	for _, many := range edgeCounts() {
		for _, e := range []impl.Edge{sampleEdge(many), {Many: many, Parts: slices.Repeat([]string{sampleText(32)}, bits.OnesCount(uint(many)))}} {
			if !impl.GoodEdge(e) {
				t.Errorf("a frontier with %d leaves and %d parts is refused", e.Many, len(e.Parts))
			}
		}
	}
	if !impl.GoodEdge(impl.Edge{}) || !impl.GoodEdge(impl.Edge{Parts: []string{}}) {
		t.Error("the empty frontier is refused")
	}
}

func TestEdgesThatAreRefused(t *testing.T) {
	for _, e := range notEdges() {
		if impl.GoodEdge(e) {
			t.Fatalf("GoodEdge(%d %x) = true", e.Many, e.Parts)
		}
		refusePut(t, e, "a")
		if root, ok := impl.EdgeRoot(e); root != "" || ok {
			t.Fatalf("EdgeRoot(%d %x) = %x, %v", e.Many, e.Parts, root, ok)
		}
		for _, l := range [][]string{nil, {"a"}, numberedLeaves(6), numberedLeaves(impl.MaxLeaves), numberedLeaves(impl.MaxLeaves + 1)} {
			expectFits(t, e, l, false, false)
		}
	}
}

func TestNewEdgeOfEveryNumber(t *testing.T) {
	part := sumOf("a")
	for many := -3; many <= 1<<20+3; many++ {
		want := impl.Edge{}
		wantOK := many == 0
		for size := 1; size <= 524288; size *= 2 {
			if many == size {
				want, wantOK = impl.Edge{Many: size, Parts: []string{part}}, true
			}
		}
		if e, ok := impl.NewEdge(many, part); !sameEdge(e, want) || ok != wantOK {
			t.Fatalf("NewEdge(%d, %x) = %d %x, %v", many, part, e.Many, e.Parts, ok)
		}
	}
	for _, many := range notEdgeCounts() {
		if e, ok := impl.NewEdge(many, part); !isZeroEdge(e) || ok {
			t.Errorf("NewEdge(%d, %x) = %d %x, %v", many, part, e.Many, e.Parts, ok)
		}
	}
	for at := range 64 {
		if e, ok := impl.NewEdge(1<<at, part); ok != (at < 20) || ok != (e.Many == 1<<at) {
			t.Errorf("NewEdge(1 << %d, %x) = %d %x, %v", at, part, e.Many, e.Parts, ok)
		}
	}
}

func TestNewEdgeNeedsADigest(t *testing.T) {
	for _, many := range []int{0, 1, 2, 4, 1024, 524288} {
		for _, part := range notDigests() {
			if e, ok := impl.NewEdge(many, part); !isZeroEdge(e) || ok {
				t.Errorf("NewEdge(%d, %d bytes) = %d %x, %v", many, len(part), e.Many, e.Parts, ok)
			}
		}
		for _, part := range []string{strings.Repeat("\x00", 32), strings.Repeat("\xff", 32), sampleText(32)} {
			e, ok := impl.NewEdge(many, part)
			if !ok || e.Many != many || !impl.GoodEdge(e) || many > 0 && e.Parts[0] != part {
				t.Errorf("NewEdge(%d, %x) = %d %x, %v", many, part, e.Many, e.Parts, ok)
			}
		}
	}
}

func TestPutEdgeAtEveryNumberOfLeaves(t *testing.T) {
	for _, l := range leafLists(impl.MaxLeaves + 1) {
		var e impl.Edge
		for many, leaf := range l {
			if !sameEdge(e, plainEdge(l[:many])) {
				t.Fatalf("the frontier of %d of %q is %x, want %x", many, l, e.Parts, plainEdge(l[:many]).Parts)
			}
			for long := range leafLimit + 1 {
				expectPut(t, e, sampleText(long))
			}
			for _, long := range []int{leafLimit + 1, leafLimit + 2, impl.MaxText, 1 << 16} {
				refusePut(t, e, sampleText(long))
			}
			e = mustPut(t, e, leaf)
		}
	}
}

func TestPutEdgeWithOtherParts(t *testing.T) {
	for _, many := range edgeCounts() {
		e := sampleEdge(many)
		for _, leaf := range []string{"", "a", sampleText(32), sampleText(leafLimit)} {
			if many < edgeLimit {
				expectPut(t, e, leaf)
			} else {
				refusePut(t, e, leaf)
			}
		}
		refusePut(t, e, sampleText(leafLimit+1))
	}
	for many := range 3000 {
		expectPut(t, sampleEdge(many), "a")
		expectPut(t, sampleEdge(edgeLimit-1-many), "a")
	}
}

// 999999 ends with six binary digits 1, so that six trees are merged.
func TestPutEdgeAtTheLimit(t *testing.T) {
	e := sampleEdge(edgeLimit - 1)
	after := mustPut(t, e, "last")
	if after.Many != edgeLimit || len(e.Parts) != 12 || len(after.Parts) != 7 || !slices.Equal(after.Parts[:6], e.Parts[:6]) {
		t.Fatalf("PutEdge(%d %x) = %d %x", e.Many, e.Parts, after.Many, after.Parts)
	}
	want := plainLeaf("last")
	for _, part := range slices.Backward(e.Parts[6:]) {
		want = plainNode(part, want)
	}
	if after.Parts[6] != want {
		t.Errorf("the last part is %x, want %x", after.Parts[6], want)
	}
	refusePut(t, after, "")
	expectEdgeRoot(t, after, plainEdgeRoot(after.Parts))
}

func TestEdgeRootOfOtherParts(t *testing.T) {
	for _, many := range edgeCounts() {
		expectEdgeRoot(t, sampleEdge(many), plainEdgeRoot(sampleEdge(many).Parts))
	}
	expectEdgeRoot(t, impl.Edge{}, sumOf(""))
	expectEdgeRoot(t, impl.Edge{Parts: []string{}}, sumOf(""))
	expectEdgeRoot(t, impl.Edge{Many: 524288, Parts: []string{sumOf("a")}}, sumOf("a"))
}

func TestEdgeOfEveryLength(t *testing.T) {
	for many := range impl.MaxLeaves + 1 {
		for _, l := range leafLists(many) {
			e := mustEdge(t, l)
			if want := plainEdge(l); !sameEdge(e, want) {
				t.Errorf("EdgeOf(%q) = %d %x; want %x", l, e.Many, e.Parts, want.Parts)
			}
			sizes, _ := impl.PartsFor(many)
			for i, from := 0, 0; i < len(sizes); i, from = i+1, from+sizes[i] {
				if root := mustRoot(t, l[from:from+sizes[i]]); e.Parts[i] != root {
					t.Errorf("part %d of EdgeOf(%q) is %x, want %x", i, l, e.Parts[i], root)
				}
			}
		}
	}
	for _, l := range notLeafLists() {
		if e, ok := impl.EdgeOf(l); !isZeroEdge(e) || ok {
			t.Errorf("EdgeOf(%q) = %d %x, %v", l, e.Many, e.Parts, ok)
		}
	}
}

// The digests are known from other implementations of such trees.
func TestKnownEdge(t *testing.T) {
	l := []string{"", "\x00", "\x10", "\x20\x21", "\x30\x31", "\x40\x41\x42\x43"}
	want := []string{
		ofHex(t, "d37ee418976dd95753c1c73862b9398fa2a2cf9b4ff0fdfe8b30cd95209614b7"),
		ofHex(t, "0ebc5d3437fbe2db158b9f126a1d118e308181031d0a949f8dededebc558ef6a"),
	}
	e := mustEdge(t, l)
	if !slices.Equal(e.Parts, want) {
		t.Errorf("EdgeOf the known leaves is %x", e.Parts)
	}
	expectEdgeRoot(t, e, ofHex(t, "76e67dadbcdf1e10e1b74ddc608abd2f98dfb16fbce75277b5232a127f2087ef"))
}

// Promise 9: the frontier determines the root of all leaves.
func TestEdgeRootIsRootOfTheList(t *testing.T) {
	for many := range impl.MaxLeaves + 1 {
		for _, l := range leafLists(many) {
			expectEdgeRoot(t, mustEdge(t, l), mustRoot(t, l))
			expectEdgeRoot(t, mustEdge(t, l), plainRoot(l))
		}
	}
}

// Promise 9: who has a frontier needs the later leaves alone.
func TestEdgeGrowsFromEveryBeginning(t *testing.T) {
	for many := range impl.MaxLeaves + 1 {
		for _, l := range leafLists(many) {
			root := mustRoot(t, l)
			for from := range many + 1 {
				e := mustEdge(t, l[:from])
				for _, leaf := range l[from:] {
					e = mustPut(t, e, leaf)
				}
				if !sameEdge(e, mustEdge(t, l)) {
					t.Fatalf("the frontier of %d of %q grows to %x", from, l, e.Parts)
				}
				expectEdgeRoot(t, e, root)
			}
			for size := 1; size <= many; size *= 2 {
				e, _ := impl.NewEdge(size, mustRoot(t, l[:size]))
				for _, leaf := range l[size:] {
					e = mustPut(t, e, leaf)
				}
				expectEdgeRoot(t, e, root)
			}
		}
	}
}

// Promise 9 for more leaves than a list may have.
func TestEdgeRootOfMoreLeaves(t *testing.T) {
	l := numberedLeaves(300)
	var e impl.Edge
	for many, leaf := range l {
		expectEdgeRoot(t, e, plainRoot(l[:many]))
		if !sameEdge(e, plainEdge(l[:many])) {
			t.Fatalf("the frontier of %d leaves is %x", many, e.Parts)
		}
		e = mustPut(t, e, leaf)
	}
	expectEdgeRoot(t, e, plainRoot(l))
}

// A tree of equal leaves has one root for each size, so that the frontier and
// the root of very many leaves are known.
func TestEdgeOfManyEqualLeaves(t *testing.T) {
	perfect := map[int]string{1: plainLeaf("a")}
	for size := 2; size <= 524288; size *= 2 {
		perfect[size] = plainNode(perfect[size/2], perfect[size/2])
	}
	edge := func(many int) impl.Edge {
		e := impl.Edge{Many: many}
		for _, size := range plainSizes(many) {
			e.Parts = append(e.Parts, perfect[size])
		}
		return e
	}
	var root func(many int) string
	root = func(many int) string {
		if perfect[many] != "" {
			return perfect[many]
		}
		size := plainSizes(many)[0]
		return plainNode(perfect[size], root(many-size))
	}
	r := rand.New(rand.NewSource(9))
	counts := edgeCounts()
	for range 2000 {
		counts = append(counts, 1+r.Intn(edgeLimit))
	}
	for _, many := range counts {
		if many == 0 {
			continue
		}
		expectEdgeRoot(t, edge(many), root(many))
		if many < edgeLimit && !sameEdge(mustPut(t, edge(many), "a"), edge(many+1)) {
			t.Fatalf("PutEdge at %d equal leaves does not give the frontier of %d", many, many+1)
		}
	}
}

func TestEdgeFitsItsList(t *testing.T) {
	for many := range impl.MaxLeaves + 1 {
		for _, l := range leafLists(many) {
			expectFits(t, mustEdge(t, l), l, true, true)
			expectFits(t, plainEdge(l), slices.Clone(l), true, true)
		}
	}
	expectFits(t, impl.Edge{}, nil, true, true)
	expectFits(t, impl.Edge{Parts: []string{}}, []string{}, true, true)
}

func TestEdgeFitsNoOtherList(t *testing.T) {
	for many := range impl.MaxLeaves + 1 {
		for _, l := range leafLists(many) {
			e := mustEdge(t, l)
			for at := range l {
				for _, leaf := range []string{"other", plainLeaf(l[at])} {
					other := slices.Clone(l)
					other[at] = leaf
					expectFits(t, e, other, false, true)
					expectFits(t, mustEdge(t, other), l, false, true)
				}
				if at > 0 && l[at] != l[at-1] {
					other := slices.Clone(l)
					other[at-1], other[at] = l[at], l[at-1]
					expectFits(t, e, other, false, true)
				}
				expectFits(t, e, l[:at], false, true)
				expectFits(t, e, slices.Delete(slices.Clone(l), at, at+1), false, true)
				expectFits(t, mustEdge(t, l[:at]), l, false, true)
			}
			for longer := many + 1; longer <= impl.MaxLeaves; longer++ {
				other := append(slices.Clone(l), slices.Repeat([]string{"a"}, longer-many)...)
				expectFits(t, e, other, false, true)
			}
			for _, count := range edgeCounts() {
				if count > impl.MaxLeaves {
					expectFits(t, sampleEdge(count), l, false, true)
				}
			}
		}
	}
}

// Each byte of each part counts, and so do the order of the parts and Many.
func TestEdgeFitsWithOtherParts(t *testing.T) {
	for many := range impl.MaxLeaves + 1 {
		l := numberedLeaves(many)
		e := mustEdge(t, l)
		for at, part := range e.Parts {
			for i := range part {
				other := cloneEdge(e)
				other.Parts[at] = changedDigest(part, i)
				expectFits(t, other, l, false, true)
			}
			if at > 0 {
				other := cloneEdge(e)
				other.Parts[at-1], other.Parts[at] = part, other.Parts[at-1]
				expectFits(t, other, l, false, true)
			}
		}
		for _, count := range edgeCounts() {
			if count != many && bits.OnesCount(uint(count)) == len(e.Parts) {
				expectFits(t, impl.Edge{Many: count, Parts: e.Parts}, l, false, true)
			}
		}
	}
}

func TestEdgeFitsRefusesLists(t *testing.T) {
	for _, l := range notLeafLists() {
		for _, e := range []impl.Edge{{}, mustEdge(t, []string{"a"}), plainEdge(l), sampleEdge(edgeLimit)} {
			expectFits(t, e, l, false, false)
		}
	}
	for many := range impl.MaxLeaves + 1 {
		e := plainEdge(numberedLeaves(many))
		for at := range e.Parts {
			for _, s := range notDigests() {
				other := cloneEdge(e)
				other.Parts[at] = s
				expectFits(t, other, numberedLeaves(many), false, false)
			}
		}
		expectFits(t, impl.Edge{Many: many, Parts: append(slices.Clone(e.Parts), sumOf("more"))}, numberedLeaves(many), false, false)
		expectFits(t, impl.Edge{Many: -many - 1, Parts: e.Parts}, numberedLeaves(many), false, false)
	}
}

// shareText reports whether a text of one list is in the memory of a text of
// the other.
func shareText(a []string, b []string) bool {
	for _, one := range a {
		for _, two := range b {
			if len(one) > 0 && unsafe.StringData(one) == unsafe.StringData(two) {
				return true
			}
		}
	}
	return false
}

// Promise 19: the Parts of a frontier are as they were, behind their length too,
// and a result is memory of its own.
func TestEdgesUnchanged(t *testing.T) {
	calls := map[string]func(impl.Edge) (impl.Edge, string){
		"PutEdge":  func(e impl.Edge) (impl.Edge, string) { after, _ := impl.PutEdge(e, "a"); return after, "" },
		"EdgeRoot": func(e impl.Edge) (impl.Edge, string) { root, _ := impl.EdgeRoot(e); return impl.Edge{}, root },
		"GoodEdge": func(e impl.Edge) (impl.Edge, string) { return impl.Edge{}, strconv.FormatBool(impl.GoodEdge(e)) },
		"EdgeFits": func(e impl.Edge) (impl.Edge, string) {
			return impl.Edge{}, fitsText(e, numberedLeaves(max(e.Many, 0)%21))
		},
		"EdgeFits of its own parts": func(e impl.Edge) (impl.Edge, string) { return impl.Edge{}, fitsText(e, e.Parts) },
	}
	edges := []impl.Edge{{Many: -1}, {Many: 3, Parts: []string{sumOf("a")}}, {Many: 2, Parts: []string{"a"}}}
	for many := range impl.MaxLeaves + 1 {
		edges = append(edges, plainEdge(numberedLeaves(many)))
	}
	for _, many := range edgeCounts() {
		edges = append(edges, sampleEdge(many))
	}
	for name, call := range calls {
		for _, e := range edges {
			// What stands behind the end would complete or break the frontier.
			for _, behind := range []string{sumOf("behind"), "", sampleText(33)} {
				room := append(slices.Clone(e.Parts), behind, behind)
				before := slices.Clone(room)
				got, text := call(impl.Edge{Many: e.Many, Parts: room[:len(e.Parts)]})
				again, same := call(impl.Edge{Many: e.Many, Parts: slices.Clip(slices.Clone(e.Parts))})
				if !sameEdge(got, again) || text != same {
					t.Fatalf("%s of %d %x depends on what is behind it", name, e.Many, e.Parts)
				}
				if shareText(got.Parts, room) || shareText([]string{text}, room) {
					t.Fatalf("%s of %d %x returns a text of its argument", name, e.Many, e.Parts)
				}
				for i := range got.Parts[:cap(got.Parts)] {
					got.Parts[:cap(got.Parts)][i] = "changed"
				}
				if !slices.Equal(room, before) {
					t.Fatalf("%s of %d %x changes its argument or shares its memory", name, e.Many, e.Parts)
				}
			}
		}
	}
}

func fitsText(e impl.Edge, l []string) string {
	is, ok := impl.EdgeFits(e, l)
	return strconv.FormatBool(is) + " " + strconv.FormatBool(ok)
}

// Promise 19 for lists of leaves.
func TestLeavesOfEdgesUnchanged(t *testing.T) {
	for many := range impl.MaxLeaves + 2 {
		for _, l := range leafLists(many) {
			room := append(slices.Clone(l), "behind", sampleText(leafLimit+1))
			before := slices.Clone(room)
			e, ok := impl.EdgeOf(room[:many])
			if !sameEdge(e, plainEdge(l)) && ok || ok != (many <= impl.MaxLeaves) {
				t.Fatalf("EdgeOf(%q) with leaves behind it = %d %x, %v", l, e.Many, e.Parts, ok)
			}
			expectFits(t, plainEdge(l), room[:many], ok, ok)
			clear(e.Parts[:cap(e.Parts)])
			if again, _ := impl.EdgeOf(room[:many]); ok && !sameEdge(again, plainEdge(l)) {
				t.Fatalf("a change to a returned frontier changes a later one of %q", l)
			}
			if !slices.Equal(room, before) {
				t.Fatalf("EdgeOf or EdgeFits changes %q", l)
			}
		}
	}
}

// Two frontiers that grow from one are independent of each other and of it.
func TestEdgeGrowsTwice(t *testing.T) {
	for many := range impl.MaxLeaves + 1 {
		l := numberedLeaves(many)
		e := mustEdge(t, l)
		one, two := mustPut(t, e, "one"), mustPut(t, e, "two")
		three := mustPut(t, one, "three")
		for _, c := range []struct {
			got  impl.Edge
			want []string
		}{{e, l}, {one, append(slices.Clone(l), "one")}, {two, append(slices.Clone(l), "two")}, {three, append(slices.Clone(l), "one", "three")}} {
			if want := plainEdge(c.want); !sameEdge(c.got, want) {
				t.Errorf("the frontier of %q is %x, want %x", c.want, c.got.Parts, want.Parts)
			}
		}
		if shareText(one.Parts, two.Parts) || shareText(one.Parts, three.Parts) {
			t.Errorf("frontiers that grow from that of %d leaves share a text", many)
		}
	}
}

func TestNewEdgesAreNewMemory(t *testing.T) {
	part := strings.Clone(sumOf("a"))
	one, _ := impl.NewEdge(4, part)
	two, _ := impl.NewEdge(4, part)
	if shareText(one.Parts, []string{part}) || shareText(one.Parts, two.Parts) {
		t.Error("NewEdge returns the memory of its argument")
	}
	clear(one.Parts)
	if !slices.Equal(two.Parts, []string{part}) {
		t.Errorf("a change to a returned frontier changes another one: %x", two.Parts)
	}
	sizes, _ := impl.PartsFor(7)
	clear(sizes)
	if again, _ := impl.PartsFor(7); !slices.Equal(again, []int{4, 2, 1}) {
		t.Errorf("a change to returned numbers changes later ones: %v", again)
	}
}

// Promise 19: arbitrary numbers, strings and lists; none may make a call panic
// or run on.
func TestEdgeFunctionsReturn(t *testing.T) {
	numbers := append(edgeCounts(), notEdgeCounts()...)
	strs := []string{"", "a", sumOf("a"), sampleText(31), sampleText(33), sampleText(100), sampleText(101), sampleText(1 << 16)}
	lists := [][]string{nil, strs, slices.Repeat([]string{""}, 1<<16), slices.Repeat([]string{sumOf("a")}, 1<<16)}
	for many := range 65 {
		lists = append(lists, slices.Repeat([]string{sumOf("a")}, many))
	}
	for many := range 22 {
		lists = append(lists, numberedLeaves(many), slices.Repeat([]string{sampleText(31 + many%3)}, many))
	}
	for _, n := range numbers {
		impl.PartsFor(n)
		for _, s := range strs {
			impl.NewEdge(n, s)
		}
		for _, l := range lists {
			e := impl.Edge{Many: n, Parts: l}
			good := impl.GoodEdge(e)
			for _, s := range strs {
				if after, ok := impl.PutEdge(e, s); ok != (good && n < edgeLimit && len(s) <= leafLimit) || ok == isZeroEdge(after) {
					t.Errorf("PutEdge of %d leaves and %d parts = %d %x, %v", n, len(l), after.Many, after.Parts, ok)
				}
			}
			if root, ok := impl.EdgeRoot(e); ok != good || ok != (len(root) == 32) {
				t.Errorf("EdgeRoot of %d leaves and %d parts = %x, %v", n, len(l), root, ok)
			}
			impl.EdgeOf(l)
			impl.EdgeFits(e, l)
			impl.EdgeFits(e, nil)
		}
	}
}
