package tests

import (
	"math"
	"testing"

	"loop.example/g00532/impl"
)

const timesLimit = 100000

var neutral = impl.Point{X: 0, Y: 1}

// allCurves are the curves that the document calls valid, found by squaring
// every number.
func allCurves() []impl.Curve {
	var curves []impl.Curve
	for _, p := range allPrimes() {
		if p < 5 || p > 199 {
			continue
		}
		roots := leastRoots(p)
		for d := 2; d < p; d++ {
			if _, square := roots[d]; !square {
				curves = append(curves, impl.Curve{P: p, D: d})
			}
		}
	}
	return curves
}

// smallCurves are small enough to try every pair of their points.
func smallCurves() []impl.Curve {
	var curves []impl.Curve
	for _, c := range allCurves() {
		if c.P <= 23 {
			curves = append(curves, c)
		}
	}
	return curves
}

// someCurves has curves of every prime: with the least D, a middle one and the
// greatest.
func someCurves() []impl.Curve {
	ofPrime := map[int][]impl.Curve{}
	for _, c := range allCurves() {
		ofPrime[c.P] = append(ofPrime[c.P], c)
	}
	var curves []impl.Curve
	for _, p := range allPrimes() {
		if l := ofPrime[p]; len(l) > 2 {
			curves = append(curves, l[0], l[len(l)/2], l[len(l)-1])
		} else {
			curves = append(curves, l...)
		}
	}
	return curves
}

func notCurves() []impl.Curve {
	curves := []impl.Curve{
		{}, {P: 3, D: 2}, {P: 2, D: 1}, {P: 211, D: 2}, {P: 223, D: 3}, {P: 227, D: 2}, {P: 10007, D: 5},
		{P: 13, D: 4}, {P: 13, D: 0}, {P: 13, D: 1}, {P: 13, D: 12}, {P: 13, D: 13}, {P: 13, D: 15}, {P: 13, D: -11},
		{P: 5, D: 4}, {P: 5, D: 5}, {P: 5, D: 7}, {P: 199, D: 2}, {P: 199, D: 199}, {P: 199, D: 202}, {P: 199, D: -1},
		{P: 13, D: 1<<32 + 2}, {P: 1<<32 + 13, D: 2}, {P: -13, D: 2}, {P: -13, D: -2},
		{P: 13, D: math.MinInt}, {P: 13, D: math.MaxInt}, {P: math.MinInt, D: 2}, {P: math.MaxInt, D: 2},
		{P: math.MaxInt, D: math.MaxInt - 1}, {P: math.MinInt, D: math.MinInt},
	}
	for _, p := range []int{0, 1, 4, 6, 8, 9, 15, 21, 25, 27, 49, 77, 91, 121, 169, 187, 195, 198, 200, 201, 203, 209, 221} {
		for _, d := range []int{2, 3, 5, p - 1} {
			curves = append(curves, impl.Curve{P: p, D: d})
		}
	}
	return curves
}

// outsidePoints have a coordinate that is not in 0..P - 1, many of them with
// the remainders of a point on the curve.
func outsidePoints(p int) []impl.Point {
	points := []impl.Point{
		{X: p, Y: 1}, {X: 0, Y: p + 1}, {X: -p, Y: 1}, {X: 0, Y: 1 - p}, {X: 0, Y: -1}, {X: -1, Y: 0},
		{X: p + 1, Y: 0}, {X: 1, Y: p}, {X: 1, Y: -p}, {X: p, Y: p + 1}, {X: -1, Y: -1}, {X: p, Y: p},
	}
	for _, n := range []int{math.MinInt, -1 << 32, 1 << 32, p << 32, p<<32 + 1, math.MaxInt} {
		points = append(points,
			impl.Point{X: n, Y: 0}, impl.Point{X: 0, Y: n}, impl.Point{X: n, Y: 1},
			impl.Point{X: 1, Y: n}, impl.Point{X: n, Y: n})
	}
	return points
}

func plainOn(c impl.Curve, a impl.Point) bool {
	left := a.X*a.X + a.Y*a.Y
	right := 1 + c.D*a.X*a.X*a.Y*a.Y
	return (left-right)%c.P == 0
}

func fieldPoints(c impl.Curve) []impl.Point {
	var points []impl.Point
	for x := range c.P {
		for y := range c.P {
			points = append(points, impl.Point{X: x, Y: y})
		}
	}
	return points
}

func pointsOn(c impl.Curve) []impl.Point {
	var points []impl.Point
	for x := range c.P {
		for y := range c.P {
			if a := (impl.Point{X: x, Y: y}); plainOn(c, a) {
				points = append(points, a)
			}
		}
	}
	return points
}

// spreadPoints are about many of the points, taken at even distances, and
// always the first and the last.
func spreadPoints(points []impl.Point, many int) []impl.Point {
	var spread []impl.Point
	for i := 0; i < len(points)-1; i += 1 + len(points)/many {
		spread = append(spread, points[i])
	}
	return append(spread, points[len(points)-1])
}

// plainSum tries all coordinates instead of dividing.
func plainSum(c impl.Curve, a impl.Point, b impl.Point) impl.Point {
	m := c.D * a.X * b.X * a.Y * b.Y
	var sum impl.Point
	for n := range c.P {
		if (n*(1+m)-(a.X*b.Y+a.Y*b.X))%c.P == 0 {
			sum.X = n
		}
		if (n*(1-m)-(a.Y*b.Y-a.X*b.X))%c.P == 0 {
			sum.Y = n
		}
	}
	return sum
}

// multiplesOf are 0, 1, 2 .. copies of a, up to the one before they begin again.
func multiplesOf(c impl.Curve, a impl.Point) []impl.Point {
	multiples := []impl.Point{neutral}
	for s := a; s != neutral; s = plainSum(c, s, a) {
		multiples = append(multiples, s)
	}
	return multiples
}

func plainShort(a impl.Point) int {
	if a.X%2 == 1 {
		return 2*a.Y + 1
	}
	return 2 * a.Y
}

func mustAdd(t *testing.T, c impl.Curve, a impl.Point, b impl.Point) impl.Point {
	t.Helper()
	s, ok := impl.AddPoints(c, a, b)
	if !ok {
		t.Fatalf("AddPoints(%v, %v, %v) is refused", c, a, b)
	}
	return s
}

func mustTimes(t *testing.T, c impl.Curve, k int, a impl.Point) impl.Point {
	t.Helper()
	s, ok := impl.TimesPoint(c, k, a)
	if !ok {
		t.Fatalf("TimesPoint(%v, %d, %v) is refused", c, k, a)
	}
	return s
}

func mustCount(t *testing.T, c impl.Curve) int {
	t.Helper()
	n, ok := impl.CountPoints(c)
	if !ok {
		t.Fatalf("CountPoints(%v) is refused", c)
	}
	return n
}

// refusePoint expects the zero result of every function of a point, beside
// OnCurve; good is put where a second point is needed.
func refusePoint(t *testing.T, c impl.Curve, a impl.Point, good impl.Point) {
	t.Helper()
	for _, l := range [][2]impl.Point{{a, good}, {good, a}, {a, a}} {
		if s, ok := impl.AddPoints(c, l[0], l[1]); s != (impl.Point{}) || ok {
			t.Errorf("AddPoints(%v, %v, %v) = %v, %v", c, l[0], l[1], s, ok)
		}
	}
	if s, ok := impl.NegPoint(c, a); s != (impl.Point{}) || ok {
		t.Errorf("NegPoint(%v, %v) = %v, %v", c, a, s, ok)
	}
	for _, k := range []int{0, 1, 2, timesLimit} {
		if s, ok := impl.TimesPoint(c, k, a); s != (impl.Point{}) || ok {
			t.Errorf("TimesPoint(%v, %d, %v) = %v, %v", c, k, a, s, ok)
		}
	}
	if n, ok := impl.OrderOf(c, a); n != 0 || ok {
		t.Errorf("OrderOf(%v, %v) = %d, %v", c, a, n, ok)
	}
	if n, ok := impl.ShortPoint(c, a); n != 0 || ok {
		t.Errorf("ShortPoint(%v, %v) = %d, %v", c, a, n, ok)
	}
}

func TestGoodCurveOfEveryPair(t *testing.T) {
	good := map[impl.Curve]bool{}
	for _, c := range allCurves() {
		good[c] = true
	}
	for p := -20; p <= 230; p++ {
		for d := -20; d <= 450; d++ {
			c := impl.Curve{P: p, D: d}
			if is := impl.GoodCurve(c); is != good[c] {
				t.Errorf("GoodCurve(%v) = %v", c, is)
			}
		}
	}
}

func TestGoodCurveAtTheBorders(t *testing.T) {
	for _, c := range []struct {
		p, d int
		want bool
	}{
		{3, 2, false}, {5, 0, false}, {5, 1, false}, {5, 2, true}, {5, 3, true}, {5, 4, false}, {5, 5, false}, {5, 7, false},
		{7, 2, false}, {7, 3, true}, {7, 6, true}, {7, 7, false}, {13, 2, true}, {13, 4, false}, {13, 12, false},
		{197, 2, true}, {197, 196, false}, {199, 0, false}, {199, 1, false}, {199, 2, false}, {199, 3, true},
		{199, 198, true}, {199, 199, false}, {199, 202, false}, {211, 2, false}, {211, 210, false},
		{9, 2, false}, {15, 2, false}, {198, 5, false}, {200, 3, false}, {201, 2, false}, {203, 2, false},
	} {
		if is := impl.GoodCurve(impl.Curve{P: c.p, D: c.d}); is != c.want {
			t.Errorf("GoodCurve of P %d and D %d is %v", c.p, c.d, is)
		}
	}
	for _, c := range notCurves() {
		if impl.GoodCurve(c) {
			t.Errorf("GoodCurve(%v) = true", c)
		}
	}
}

func TestOnCurveOfEveryPoint(t *testing.T) {
	for _, c := range someCurves() {
		for _, a := range fieldPoints(c) {
			if on, ok := impl.OnCurve(c, a); on != plainOn(c, a) || !ok {
				t.Fatalf("OnCurve(%v, %v) = %v, %v", c, a, on, ok)
			}
		}
	}
}

func TestOnCurveEdges(t *testing.T) {
	for _, c := range allCurves() {
		last := c.P - 1
		// The points with a coordinate 0 are the four that every curve has.
		for _, a := range []impl.Point{{X: 0, Y: 1}, {X: 0, Y: last}, {X: 1, Y: 0}, {X: last, Y: 0}} {
			if on, ok := impl.OnCurve(c, a); !on || !ok {
				t.Errorf("OnCurve(%v, %v) = %v, %v", c, a, on, ok)
			}
		}
		// With two coordinates of square 1, D would have to be 1.
		for _, a := range []impl.Point{{}, {X: 1, Y: 1}, {X: last, Y: last}, {X: 0, Y: 2}, {X: 2, Y: 0}} {
			if on, ok := impl.OnCurve(c, a); on || !ok {
				t.Errorf("OnCurve(%v, %v) = %v, %v", c, a, on, ok)
			}
		}
	}
}

func TestAddPointsOfEveryPair(t *testing.T) {
	for _, c := range smallCurves() {
		points := pointsOn(c)
		for _, a := range points {
			for _, b := range points {
				s := mustAdd(t, c, a, b)
				if want := plainSum(c, a, b); s != want {
					t.Fatalf("AddPoints(%v, %v, %v) = %v, want %v", c, a, b, s, want)
				}
			}
		}
	}
}

func TestAddPointsOfLargerCurves(t *testing.T) {
	for _, c := range someCurves() {
		points := spreadPoints(pointsOn(c), 16)
		for _, a := range points {
			for _, b := range points {
				s := mustAdd(t, c, a, b)
				if want := plainSum(c, a, b); s != want {
					t.Fatalf("AddPoints(%v, %v, %v) = %v, want %v", c, a, b, s, want)
				}
			}
		}
	}
}

func TestSumsOfEqualPoints(t *testing.T) {
	for _, c := range someCurves() {
		for _, a := range pointsOn(c) {
			s := mustAdd(t, c, a, a)
			if want := plainSum(c, a, a); s != want || s != mustTimes(t, c, 2, a) {
				t.Fatalf("AddPoints(%v, %v, %v) = %v, want %v", c, a, a, s, want)
			}
		}
		last := c.P - 1
		for _, l := range [][2]impl.Point{
			{{X: 0, Y: 1}, {X: 0, Y: 1}}, {{X: 0, Y: last}, {X: 0, Y: 1}},
			{{X: 1, Y: 0}, {X: 0, Y: last}}, {{X: last, Y: 0}, {X: 0, Y: last}},
		} {
			if s := mustAdd(t, c, l[0], l[0]); s != l[1] {
				t.Errorf("AddPoints(%v, %v, %v) = %v, want %v", c, l[0], l[0], s, l[1])
			}
		}
	}
}

func TestNeutralPointAndInverses(t *testing.T) {
	for _, c := range allCurves() {
		if z, ok := impl.ZeroPoint(c); z != neutral || !ok {
			t.Fatalf("ZeroPoint(%v) = %v, %v", c, z, ok)
		}
		for _, a := range spreadPoints(pointsOn(c), 30) {
			if s := mustAdd(t, c, a, neutral); s != a {
				t.Fatalf("AddPoints(%v, %v, neutral) = %v", c, a, s)
			}
			if s := mustAdd(t, c, neutral, a); s != a {
				t.Fatalf("AddPoints(%v, neutral, %v) = %v", c, a, s)
			}
			b, ok := impl.NegPoint(c, a)
			if want := (impl.Point{X: (c.P - a.X) % c.P, Y: a.Y}); b != want || !ok {
				t.Fatalf("NegPoint(%v, %v) = %v, %v; want %v", c, a, b, ok, want)
			}
			if mustAdd(t, c, a, b) != neutral || mustAdd(t, c, b, a) != neutral {
				t.Fatalf("%v: %v and %v do not sum to the neutral point", c, a, b)
			}
			if again, ok := impl.NegPoint(c, b); again != a || !ok {
				t.Fatalf("NegPoint(%v, %v) = %v, %v; want %v", c, b, again, ok, a)
			}
		}
	}
}

func TestNegPointWhereXIsZero(t *testing.T) {
	for _, c := range allCurves() {
		for _, a := range []impl.Point{neutral, {X: 0, Y: c.P - 1}} {
			if b, ok := impl.NegPoint(c, a); b != a || !ok {
				t.Errorf("NegPoint(%v, %v) = %v, %v", c, a, b, ok)
			}
		}
		one, last := impl.Point{X: 1}, impl.Point{X: c.P - 1}
		if b, ok := impl.NegPoint(c, one); b != last || !ok {
			t.Errorf("NegPoint(%v, %v) = %v, %v", c, one, b, ok)
		}
		if b, ok := impl.NegPoint(c, last); b != one || !ok {
			t.Errorf("NegPoint(%v, %v) = %v, %v", c, last, b, ok)
		}
	}
}

func TestTimesPointOfEveryPoint(t *testing.T) {
	for _, c := range someCurves() {
		for _, a := range spreadPoints(pointsOn(c), 12) {
			multiples := multiplesOf(c, a)
			order := len(multiples)
			for k := range 2*order + 3 {
				if s := mustTimes(t, c, k, a); s != multiples[k%order] {
					t.Fatalf("TimesPoint(%v, %d, %v) = %v, want %v", c, k, a, s, multiples[k%order])
				}
			}
		}
	}
}

func TestTimesPointAtTheBorders(t *testing.T) {
	for _, c := range someCurves() {
		for _, a := range spreadPoints(pointsOn(c), 12) {
			multiples := multiplesOf(c, a)
			order := len(multiples)
			for _, k := range []int{0, 1, 65535, 65536, 98304, 99999, timesLimit} {
				if s := mustTimes(t, c, k, a); s != multiples[k%order] {
					t.Fatalf("TimesPoint(%v, %d, %v) = %v, want %v", c, k, a, s, multiples[k%order])
				}
			}
			for _, k := range []int{
				math.MinInt, -1 << 32, -timesLimit, -order, -2, -1,
				timesLimit + 1, timesLimit + order, 1 << 32, 1<<32 + 1, math.MaxInt,
			} {
				if s, ok := impl.TimesPoint(c, k, a); s != (impl.Point{}) || ok {
					t.Errorf("TimesPoint(%v, %d, %v) = %v, %v", c, k, a, s, ok)
				}
			}
		}
	}
}

func TestOrderOfEveryPoint(t *testing.T) {
	for _, c := range someCurves() {
		points := pointsOn(c)
		for _, a := range points {
			n, ok := impl.OrderOf(c, a)
			if !ok || n < 1 || len(points)%n != 0 || mustTimes(t, c, n, a) != neutral {
				t.Fatalf("OrderOf(%v, %v) = %d, %v", c, a, n, ok)
			}
			// No proper divisor of an order reaches the neutral point.
			for d := 2; d <= n; d++ {
				if n%d == 0 && mustTimes(t, c, n/d, a) == neutral {
					t.Fatalf("OrderOf(%v, %v) = %d, but %d does it too", c, a, n, n/d)
				}
			}
		}
		for _, a := range spreadPoints(points, 12) {
			if n, ok := impl.OrderOf(c, a); n != len(multiplesOf(c, a)) || !ok {
				t.Fatalf("OrderOf(%v, %v) = %d, %v; want %d", c, a, n, ok, len(multiplesOf(c, a)))
			}
		}
	}
}

func TestOrdersThatEveryCurveHas(t *testing.T) {
	for _, c := range allCurves() {
		for _, l := range []struct {
			a    impl.Point
			want int
		}{
			{neutral, 1}, {impl.Point{X: 0, Y: c.P - 1}, 2}, {impl.Point{X: 1}, 4}, {impl.Point{X: c.P - 1}, 4},
		} {
			if n, ok := impl.OrderOf(c, l.a); n != l.want || !ok {
				t.Errorf("OrderOf(%v, %v) = %d, %v; want %d", c, l.a, n, ok, l.want)
			}
		}
	}
}

func TestCountPointsOfEveryCurve(t *testing.T) {
	for _, c := range allCurves() {
		want := len(pointsOn(c))
		if n := mustCount(t, c); n != want {
			t.Errorf("CountPoints(%v) = %d, want %d", c, n, want)
		}
	}
	for _, l := range []struct{ p, d, want int }{{5, 2, 8}, {5, 3, 4}, {13, 2, 8}} {
		if n := mustCount(t, impl.Curve{P: l.p, D: l.d}); n != l.want {
			t.Errorf("CountPoints of P %d and D %d is %d, want %d", l.p, l.d, n, l.want)
		}
	}
}

func TestShortFormOfEveryPoint(t *testing.T) {
	for _, c := range allCurves() {
		ofShort := map[int]impl.Point{}
		for _, a := range pointsOn(c) {
			n, ok := impl.ShortPoint(c, a)
			if n != plainShort(a) || !ok {
				t.Fatalf("ShortPoint(%v, %v) = %d, %v; want %d", c, a, n, ok, plainShort(a))
			}
			if b, twice := ofShort[n]; twice {
				t.Fatalf("%v: %v and %v have the short form %d", c, a, b, n)
			}
			ofShort[n] = a
		}
		for n := range 2 * c.P {
			want, has := ofShort[n]
			if a, ok := impl.OfShort(c, n); a != want || ok != has {
				t.Fatalf("OfShort(%v, %d) = %v, %v; want %v, %v", c, n, a, ok, want, has)
			}
		}
	}
}

func TestShortFormEdges(t *testing.T) {
	for _, c := range allCurves() {
		last := c.P - 1
		for _, l := range []struct {
			n    int
			want impl.Point
			ok   bool
		}{
			// X is 0 where Y is 1 or P - 1, and has no odd form.
			{2, neutral, true}, {3, impl.Point{}, false},
			{2 * last, impl.Point{X: 0, Y: last}, true}, {2*c.P - 1, impl.Point{}, false},
			// P - 1 is even.
			{1, impl.Point{X: 1}, true}, {0, impl.Point{X: last}, true},
		} {
			if a, ok := impl.OfShort(c, l.n); a != l.want || ok != l.ok {
				t.Errorf("OfShort(%v, %d) = %v, %v; want %v, %v", c, l.n, a, ok, l.want, l.ok)
			}
		}
		for _, n := range []int{
			math.MinInt, -1 << 32, -2 * c.P, -2, -1, 2 * c.P, 2*c.P + 1, 2*c.P + 2, 1 << 32, 1<<32 + 1, math.MaxInt,
		} {
			if a, ok := impl.OfShort(c, n); a != (impl.Point{}) || ok {
				t.Errorf("OfShort(%v, %d) = %v, %v", c, n, a, ok)
			}
		}
	}
}

func TestCurveFunctionsRefuseOtherCurves(t *testing.T) {
	for _, c := range notCurves() {
		for _, a := range []impl.Point{{}, {X: 0, Y: 1}, {X: 1, Y: 0}, {X: 0, Y: c.P - 1}, {X: c.P - 1, Y: 0}} {
			refusePoint(t, c, a, neutral)
			if on, ok := impl.OnCurve(c, a); on || ok {
				t.Errorf("OnCurve(%v, %v) = %v, %v", c, a, on, ok)
			}
		}
		if z, ok := impl.ZeroPoint(c); z != (impl.Point{}) || ok {
			t.Errorf("ZeroPoint(%v) = %v, %v", c, z, ok)
		}
		if n, ok := impl.CountPoints(c); n != 0 || ok {
			t.Errorf("CountPoints(%v) = %d, %v", c, n, ok)
		}
		for _, n := range []int{-1, 0, 1, 2, 3, c.P, 2*c.P - 2} {
			if a, ok := impl.OfShort(c, n); a != (impl.Point{}) || ok {
				t.Errorf("OfShort(%v, %d) = %v, %v", c, n, a, ok)
			}
		}
	}
}

func TestPointFunctionsRefuseCoordinatesOutside(t *testing.T) {
	for _, c := range someCurves() {
		for _, a := range outsidePoints(c.P) {
			refusePoint(t, c, a, neutral)
			if on, ok := impl.OnCurve(c, a); on || ok {
				t.Errorf("OnCurve(%v, %v) = %v, %v", c, a, on, ok)
			}
		}
	}
}

func TestPointFunctionsRefusePointsThatAreNotOnTheCurve(t *testing.T) {
	for _, c := range smallCurves() {
		for _, a := range fieldPoints(c) {
			if !plainOn(c, a) {
				refusePoint(t, c, a, impl.Point{X: 1})
			}
		}
	}
	for _, c := range someCurves() {
		last := c.P - 1
		for _, a := range []impl.Point{{}, {X: 1, Y: 1}, {X: last, Y: last}, {X: 0, Y: 2}, {X: 2, Y: 0}} {
			refusePoint(t, c, a, neutral)
		}
	}
}

// Promise 5, Edwards; Bernstein and Lange.
func TestAdditionIsCommutative(t *testing.T) {
	for _, c := range someCurves() {
		points := spreadPoints(pointsOn(c), 40)
		for i, a := range points {
			for _, b := range points[:i] {
				s := mustAdd(t, c, a, b)
				if s != mustAdd(t, c, b, a) {
					t.Fatalf("%v: the sum of %v and %v depends on their order", c, a, b)
				}
				if on, ok := impl.OnCurve(c, s); !on || !ok {
					t.Fatalf("AddPoints(%v, %v, %v) = %v, not on the curve", c, a, b, s)
				}
			}
		}
	}
}

// Promise 5, Edwards; Bernstein and Lange.
func TestAdditionIsAssociative(t *testing.T) {
	check := func(c impl.Curve, points []impl.Point) {
		for _, a := range points {
			for _, b := range points {
				ab := mustAdd(t, c, a, b)
				for _, d := range points {
					left := mustAdd(t, c, ab, d)
					right := mustAdd(t, c, a, mustAdd(t, c, b, d))
					if left != right {
						t.Fatalf("%v: %v, %v and %v sum to %v or %v", c, a, b, d, left, right)
					}
				}
			}
		}
	}
	for _, c := range allCurves() {
		if c.P <= 13 {
			check(c, pointsOn(c))
		}
	}
	for _, c := range someCurves() {
		check(c, spreadPoints(pointsOn(c), 10))
	}
}

// Promise 5, Hasse.
func TestCountOfPointsIsWithinTheBound(t *testing.T) {
	for _, c := range allCurves() {
		n := mustCount(t, c)
		if off := n - c.P - 1; off*off > 4*c.P {
			t.Errorf("CountPoints(%v) = %d, too far from %d", c, n, c.P+1)
		}
		// The four points with a coordinate 0 are a subgroup.
		if n%4 != 0 {
			t.Errorf("CountPoints(%v) = %d, no multiple of 4", c, n)
		}
	}
}

// Promise 19: curves and points are copied, so what is left to break is that a call returns.
func TestCurveFunctionsReturn(t *testing.T) {
	numbers := []int{
		math.MinInt, math.MinInt + 1, -1 << 32, -13, -1, 0, 1, 2, 3, 5, 9, 12, 13,
		198, 199, 200, 211, timesLimit, timesLimit + 1, 1 << 32, math.MaxInt - 1, math.MaxInt,
	}
	for _, p := range numbers {
		for _, d := range numbers {
			c := impl.Curve{P: p, D: d}
			impl.GoodCurve(c)
			impl.ZeroPoint(c)
			impl.CountPoints(c)
			for _, x := range numbers {
				impl.OfShort(c, x)
				for _, y := range numbers {
					a := impl.Point{X: x, Y: y}
					impl.OnCurve(c, a)
					impl.AddPoints(c, a, a)
					impl.AddPoints(c, a, impl.Point{X: y, Y: x})
					impl.NegPoint(c, a)
					impl.OrderOf(c, a)
					impl.ShortPoint(c, a)
					first, firstOK := impl.TimesPoint(c, x, a)
					again, againOK := impl.TimesPoint(c, x, a)
					if first != again || firstOK != againOK {
						t.Errorf("TimesPoint(%v, %d, %v) differs from call to call", c, x, a)
					}
				}
			}
		}
	}
}
