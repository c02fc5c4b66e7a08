package tests

import (
	"math"
	"math/big"
	"testing"

	"loop.example/g00532/impl"
)

const (
	exponentLimit = 1000000000
	euclidLimit   = 1000000
)

// allPrimes is the sieve of the primes up to MaxPrime.
func allPrimes() []int {
	crossed := make([]bool, impl.MaxPrime+1)
	var primes []int
	for n := 2; n <= impl.MaxPrime; n++ {
		if crossed[n] {
			continue
		}
		primes = append(primes, n)
		for m := 2 * n; m <= impl.MaxPrime; m += n {
			crossed[m] = true
		}
	}
	return primes
}

// someModuli are small primes, of which every number is tried, and some others
// of both remainders modulo 4 up to MaxPrime.
func someModuli() []int {
	var moduli []int
	for _, p := range allPrimes() {
		if p >= 3 && p < 120 {
			moduli = append(moduli, p)
		}
	}
	return append(moduli, 1009, 1013, 4099, 8191, 10007)
}

func notModuli() []int {
	return []int{
		math.MinInt, -1 << 32, -10007, -7, -3, -2, -1, 0, 1, 2, 4, 6, 8, 9, 15, 25, 49, 91, 121,
		561, 1001, 9409, 9797, 10000, 10001, 10005, 10006, 10008, 10009, 10037, 65537,
		1 << 32, 1<<32 + 3, 1<<32 + 7, 2147483647, math.MaxInt,
	}
}

func notResidues(p int) []int {
	return []int{
		math.MinInt, -1 << 32, 1 - 1<<32, -p, 1 - p, -2, -1,
		p, p + 1, 2*p - 1, 2*p + 1, 1 << 32, 1<<32 + 1, math.MaxInt,
	}
}

func borderResidues(p int) []int {
	return []int{0, 1, 2, (p - 1) / 2, (p + 1) / 2, p - 2, p - 1}
}

func plainPower(a int, k int, p int) int {
	n := new(big.Int).Exp(big.NewInt(int64(a)), big.NewInt(int64(k)), big.NewInt(int64(p)))
	return int(n.Int64())
}

// leastRoots gives each number its least square root, where it has one.
func leastRoots(p int) map[int]int {
	roots := map[int]int{}
	for r := p - 1; r >= 0; r-- {
		roots[r*r%p] = r
	}
	return roots
}

func plainOrder(a int, p int) int {
	k := 1
	for n := a; n != 1; n = n * a % p {
		k++
	}
	return k
}

// plainEuclid is the algorithm as a recursion: what holds for b and the
// remainder is put in terms of a and b.
func plainEuclid(a int, b int) (int, int, int) {
	if b == 0 {
		return a, 1, 0
	}
	g, x, y := plainEuclid(b, a%b)
	return g, y, x - a/b*y
}

func mustPower(t *testing.T, a int, k int, p int) int {
	t.Helper()
	n, ok := impl.PowerMod(a, k, p)
	if !ok {
		t.Fatalf("PowerMod(%d, %d, %d) is refused", a, k, p)
	}
	return n
}

func checkEuclid(t *testing.T, a int, b int) {
	t.Helper()
	wantG, wantX, wantY := plainEuclid(a, b)
	g, x, y, ok := impl.BothEuclid(a, b)
	if g != wantG || x != wantX || y != wantY || !ok {
		t.Fatalf("BothEuclid(%d, %d) = %d, %d, %d, %v; want %d, %d, %d", a, b, g, x, y, ok, wantG, wantX, wantY)
	}
	if x*a+y*b != g {
		t.Fatalf("BothEuclid(%d, %d): %d * a + %d * b is not %d", a, b, x, y, g)
	}
}

// refuseModular expects the zero result of every function of a and p.
func refuseModular(t *testing.T, a int, p int) {
	t.Helper()
	for _, k := range []int{0, 1, 2, p - 1, exponentLimit} {
		if n, ok := impl.PowerMod(a, k, p); n != 0 || ok {
			t.Errorf("PowerMod(%d, %d, %d) = %d, %v", a, k, p, n, ok)
		}
	}
	if n, ok := impl.InverseMod(a, p); n != 0 || ok {
		t.Errorf("InverseMod(%d, %d) = %d, %v", a, p, n, ok)
	}
	if n, ok := impl.SquareKind(a, p); n != 0 || ok {
		t.Errorf("SquareKind(%d, %d) = %d, %v", a, p, n, ok)
	}
	if n, ok := impl.RootMod(a, p); n != 0 || ok {
		t.Errorf("RootMod(%d, %d) = %d, %v", a, p, n, ok)
	}
	if n, ok := impl.OrderMod(a, p); n != 0 || ok {
		t.Errorf("OrderMod(%d, %d) = %d, %v", a, p, n, ok)
	}
}

func TestIsPrimeOfEveryNumber(t *testing.T) {
	prime := map[int]bool{}
	for _, p := range allPrimes() {
		prime[p] = true
	}
	for n := 0; n <= impl.MaxPrime; n++ {
		if is, ok := impl.IsPrime(n); is != prime[n] || !ok {
			t.Errorf("IsPrime(%d) = %v, %v", n, is, ok)
		}
	}
}

func TestIsPrimeAtTheBorders(t *testing.T) {
	for _, c := range []struct {
		n        int
		want, ok bool
	}{
		{-1, false, false}, {0, false, true}, {1, false, true}, {2, true, true},
		{3, true, true}, {4, false, true}, {91, false, true},
		{10007, true, true}, {10008, false, false}, {10009, false, false},
	} {
		if is, ok := impl.IsPrime(c.n); is != c.want || ok != c.ok {
			t.Errorf("IsPrime(%d) = %v, %v; want %v, %v", c.n, is, ok, c.want, c.ok)
		}
	}
	if impl.MaxPrime != 10007 {
		t.Errorf("MaxPrime is %d", impl.MaxPrime)
	}
}

func TestIsPrimeRefusesOtherNumbers(t *testing.T) {
	for _, n := range []int{math.MinInt, -1 << 32, -7, -2, 10009, 65537, 1<<32 + 7, math.MaxInt} {
		if is, ok := impl.IsPrime(n); is || ok {
			t.Errorf("IsPrime(%d) = %v, %v", n, is, ok)
		}
	}
}

func TestPowerModOfEveryNumberAndSmallExponent(t *testing.T) {
	for _, p := range []int{3, 5, 7, 11, 13, 31, 101} {
		for a := range p {
			want := 1
			for k := range 3*p + 2 {
				if n := mustPower(t, a, k, p); n != want {
					t.Fatalf("PowerMod(%d, %d, %d) = %d, want %d", a, k, p, n, want)
				}
				want = want * a % p
			}
		}
	}
}

func TestPowerModAtTheBorders(t *testing.T) {
	for _, p := range someModuli() {
		for _, a := range borderResidues(p) {
			for _, k := range []int{
				0, 1, 2, (p - 1) / 2, p - 2, p - 1, p, 1023, 1024, 123456789,
				1<<29 - 1, 1 << 29, exponentLimit - 1, exponentLimit,
			} {
				if n := mustPower(t, a, k, p); n != plainPower(a, k, p) {
					t.Errorf("PowerMod(%d, %d, %d) = %d, want %d", a, k, p, n, plainPower(a, k, p))
				}
			}
			for _, k := range []int{math.MinInt, -1 << 32, 1 - p, -2, -1, exponentLimit + 1, 1 << 32, math.MaxInt} {
				if n, ok := impl.PowerMod(a, k, p); n != 0 || ok {
					t.Errorf("PowerMod(%d, %d, %d) = %d, %v", a, k, p, n, ok)
				}
			}
		}
	}
}

func TestPowerModWithExponentZeroIsOne(t *testing.T) {
	for _, p := range someModuli() {
		for a := range p {
			if n := mustPower(t, a, 0, p); n != 1 {
				t.Errorf("PowerMod(%d, 0, %d) = %d", a, p, n)
			}
		}
		if n := mustPower(t, 0, 1, p); n != 0 {
			t.Errorf("PowerMod(0, 1, %d) = %d", p, n)
		}
	}
}

func TestInverseModOfEveryNumber(t *testing.T) {
	for _, p := range someModuli() {
		for a := 1; a < p; a++ {
			n, ok := impl.InverseMod(a, p)
			if !ok || n < 1 || n >= p || n*a%p != 1 {
				t.Fatalf("InverseMod(%d, %d) = %d, %v", a, p, n, ok)
			}
		}
	}
}

func TestZeroHasNoInverseAndNoOrder(t *testing.T) {
	for _, p := range allPrimes() {
		if n, ok := impl.InverseMod(0, p); n != 0 || ok {
			t.Errorf("InverseMod(0, %d) = %d, %v", p, n, ok)
		}
		if n, ok := impl.OrderMod(0, p); n != 0 || ok {
			t.Errorf("OrderMod(0, %d) = %d, %v", p, n, ok)
		}
	}
}

func TestSquareKindAndRootModOfEveryNumber(t *testing.T) {
	for _, p := range someModuli() {
		roots := leastRoots(p)
		for a := range p {
			want, square := roots[a]
			kind := -1
			switch {
			case a == 0:
				kind = 0
			case square:
				kind = 1
			}
			if n, ok := impl.SquareKind(a, p); n != kind || !ok {
				t.Fatalf("SquareKind(%d, %d) = %d, %v; want %d", a, p, n, ok, kind)
			}
			if r, ok := impl.RootMod(a, p); r != want || ok != square {
				t.Fatalf("RootMod(%d, %d) = %d, %v; want %d, %v", a, p, r, ok, want, square)
			}
		}
	}
}

func TestRootModEdges(t *testing.T) {
	for _, c := range []struct {
		a, p, want int
		ok         bool
	}{
		{0, 3, 0, true}, {0, 10007, 0, true}, {1, 3, 1, true}, {2, 3, 0, false},
		{1, 10007, 1, true}, {10006, 10007, 0, false}, {2, 7, 3, true}, {4, 7, 2, true},
		{3, 7, 0, false}, {4, 5, 2, true}, {4, 10007, 2, true},
	} {
		if r, ok := impl.RootMod(c.a, c.p); r != c.want || ok != c.ok {
			t.Errorf("RootMod(%d, %d) = %d, %v; want %d, %v", c.a, c.p, r, ok, c.want, c.ok)
		}
	}
	// The greatest least root: the other one is next to it.
	for _, p := range someModuli() {
		half := (p - 1) / 2
		if r, ok := impl.RootMod(half*half%p, p); r != half || !ok {
			t.Errorf("RootMod(%d, %d) = %d, %v; want %d", half*half%p, p, r, ok, half)
		}
	}
}

func TestOrderModOfEveryNumber(t *testing.T) {
	for _, p := range someModuli() {
		for a := 1; a < p; a++ {
			want := plainOrder(a, p)
			if n, ok := impl.OrderMod(a, p); n != want || !ok {
				t.Fatalf("OrderMod(%d, %d) = %d, %v; want %d", a, p, n, ok, want)
			}
		}
	}
}

func TestFirstGeneratorOfEveryPrime(t *testing.T) {
	for _, p := range allPrimes()[1:] {
		want := 1
		for plainOrder(want, p) != p-1 {
			want++
		}
		if g, ok := impl.FirstGenerator(p); g != want || !ok {
			t.Errorf("FirstGenerator(%d) = %d, %v; want %d", p, g, ok, want)
		}
	}
	if g, ok := impl.FirstGenerator(3); g != 2 || !ok {
		t.Errorf("FirstGenerator(3) = %d, %v", g, ok)
	}
}

func TestModularFunctionsRefuseOtherModuli(t *testing.T) {
	for _, p := range notModuli() {
		for _, a := range []int{0, 1, 2, 3, p - 1} {
			refuseModular(t, a, p)
		}
		if g, ok := impl.FirstGenerator(p); g != 0 || ok {
			t.Errorf("FirstGenerator(%d) = %d, %v", p, g, ok)
		}
	}
}

func TestModularFunctionsRefuseOtherNumbers(t *testing.T) {
	for _, p := range someModuli() {
		for _, a := range notResidues(p) {
			refuseModular(t, a, p)
		}
	}
}

func TestBothEuclidOfSmallNumbers(t *testing.T) {
	for a := range 120 {
		for b := range 120 {
			if a != 0 || b != 0 {
				checkEuclid(t, a, b)
			}
		}
	}
}

func TestBothEuclidAtTheBorders(t *testing.T) {
	borders := []int{
		0, 1, 2, 3, 18, 610, 987, 1000, 65535, 65536, 499999, 500000,
		514229, 720720, 832040, 999983, 999999, euclidLimit,
	}
	for _, a := range borders {
		for _, b := range borders {
			if a != 0 || b != 0 {
				checkEuclid(t, a, b)
			}
		}
	}
}

func TestBothEuclidEdges(t *testing.T) {
	for _, c := range []struct{ a, b, g, x, y int }{
		{12, 18, 6, -1, 1}, {18, 12, 6, 1, -1}, {5, 0, 5, 1, 0}, {0, 5, 5, 0, 1},
		{1, 0, 1, 1, 0}, {0, 1, 1, 0, 1}, {7, 7, 7, 0, 1}, {1, 1, 1, 0, 1},
		{euclidLimit, 0, euclidLimit, 1, 0}, {0, euclidLimit, euclidLimit, 0, 1},
		{euclidLimit, euclidLimit, euclidLimit, 0, 1}, {240, 46, 2, -9, 47},
	} {
		g, x, y, ok := impl.BothEuclid(c.a, c.b)
		if g != c.g || x != c.x || y != c.y || !ok {
			t.Errorf("BothEuclid(%d, %d) = %d, %d, %d, %v", c.a, c.b, g, x, y, ok)
		}
	}
}

func TestBothEuclidRefusesOtherNumbers(t *testing.T) {
	others := []int{math.MinInt, -1 << 32, -euclidLimit, -1, euclidLimit + 1, 1 << 32, math.MaxInt}
	pairs := [][2]int{{0, 0}}
	for _, n := range others {
		pairs = append(pairs, [2]int{n, n})
		for _, good := range []int{0, 1, 12, euclidLimit} {
			pairs = append(pairs, [2]int{n, good}, [2]int{good, n})
		}
	}
	for _, c := range pairs {
		if g, x, y, ok := impl.BothEuclid(c[0], c[1]); g != 0 || x != 0 || y != 0 || ok {
			t.Errorf("BothEuclid(%d, %d) = %d, %d, %d, %v", c[0], c[1], g, x, y, ok)
		}
	}
}

// Promise 4, Fermat.
func TestPowerWithExponentOfOneLessIsOne(t *testing.T) {
	for _, p := range allPrimes()[1:] {
		for a := 1; a < p; a += 1 + p/150 {
			if n := mustPower(t, a, p-1, p); n != 1 {
				t.Fatalf("PowerMod(%d, %d, %d) = %d", a, p-1, p, n)
			}
		}
		if n := mustPower(t, p-1, p-1, p); n != 1 {
			t.Errorf("PowerMod(%d, %d, %d) = %d", p-1, p-1, p, n)
		}
		if n := mustPower(t, 0, p-1, p); n != 0 {
			t.Errorf("PowerMod(0, %d, %d) = %d", p-1, p, n)
		}
	}
}

// Promise 4, Euler: the power is 1 with a root, p - 1 without, 0 for 0.
func TestPowerWithHalfExponentTellsOfRoot(t *testing.T) {
	for _, p := range allPrimes()[1:] {
		for a := 0; a < p; a += 1 + p/40 {
			power := mustPower(t, a, (p-1)/2, p)
			kind, good := impl.SquareKind(a, p)
			r, ok := impl.RootMod(a, p)
			if !good || ok != (power <= 1) || (power-kind)%p != 0 {
				t.Fatalf("p = %d, a = %d: power %d, kind %d, root %d, %v", p, a, power, kind, r, ok)
			}
			if ok && (r*r%p != a || r < 0 || r > p-r) {
				t.Fatalf("RootMod(%d, %d) = %d", a, p, r)
			}
		}
	}
}

// Promise 4, Lagrange.
func TestOrderDividesOneLess(t *testing.T) {
	for _, p := range allPrimes()[1:] {
		for _, a := range []int{1, 2, p / 3, p / 2, p - 2, p - 1} {
			if a == 0 {
				continue
			}
			k, ok := impl.OrderMod(a, p)
			if !ok || k < 1 || (p-1)%k != 0 || mustPower(t, a, k, p) != 1 {
				t.Fatalf("OrderMod(%d, %d) = %d, %v", a, p, k, ok)
			}
			// No proper divisor of an order has the power 1.
			for d := 2; d <= k; d++ {
				if k%d == 0 && mustPower(t, a, k/d, p) == 1 {
					t.Fatalf("OrderMod(%d, %d) = %d, but %d does it too", a, p, k, k/d)
				}
			}
		}
	}
}

// Promise 19: numbers are copied, so what is left to break is that a call returns.
func TestModularFunctionsReturn(t *testing.T) {
	numbers := []int{
		math.MinInt, math.MinInt + 1, -1 << 32, -1 << 31, -10007, -3, -1, 0, 1, 2, 3, 4, 7,
		10006, 10007, 10008, 10009, euclidLimit, euclidLimit + 1, exponentLimit,
		exponentLimit + 1, 1 << 31, 1 << 32, math.MaxInt - 1, math.MaxInt,
	}
	for _, a := range numbers {
		impl.IsPrime(a)
		impl.FirstGenerator(a)
		for _, b := range numbers {
			impl.InverseMod(a, b)
			impl.SquareKind(a, b)
			impl.RootMod(a, b)
			impl.OrderMod(a, b)
			impl.BothEuclid(a, b)
			for _, k := range numbers {
				first, firstOK := impl.PowerMod(a, k, b)
				again, againOK := impl.PowerMod(a, k, b)
				if first != again || firstOK != againOK {
					t.Errorf("PowerMod(%d, %d, %d) differs from call to call", a, k, b)
				}
			}
		}
	}
}
