package tests

import (
	"encoding/binary"
	"math"
	"slices"
	"strconv"
	"strings"
	"testing"

	"loop.example/g00532/impl"
)

const (
	messageLimit = 200
	lastSecret   = impl.SmallPrime - 1
	lastR        = impl.BigPrime - 1
)

// Two signatures of the secret 5 with the nonce 7, whose challenges are 543 and
// 287.
var (
	paymentKey = 1024
	payment5   = impl.Signed{R: 168, S: 696}
	payment6   = impl.Signed{R: 168, S: 429}
)

func borderMessages() []string {
	return []string{
		"", "a", "pay 5", "pay 6", ".", "1.a", "4.1024.a", "\x00", "\xff\xfe", "\xc3\xa9",
		sampleText(50), sampleText(64), sampleText(120), sampleText(messageLimit - 1), sampleText(messageLimit),
		strings.Repeat("\xff", messageLimit), strings.Repeat("\x00", messageLimit),
	}
}

func longMessages() []string {
	return []string{
		sampleText(messageLimit + 1), strings.Repeat("a", messageLimit+1), sampleText(256), sampleText(456),
		sampleText(impl.MaxText), sampleText(impl.MaxText + 1), sampleText(10000),
	}
}

// notSecrets are not nonces either; many have the remainder of one.
func notSecrets() []int {
	return []int{
		math.MinInt, -1 << 32, 1 - 1<<32, -impl.BigPrime, -impl.SmallPrime, -lastSecret, -5, -1, 0,
		impl.SmallPrime, impl.SmallPrime + 1, impl.SmallPrime + 5, lastR, impl.BigPrime, 1 << 32, 1<<32 + 5, math.MaxInt,
	}
}

// notKeys has 1 and 2028, whose powers are 1, and numbers in range whose
// powers are not.
func notKeys() []int {
	return []int{
		math.MinInt, -1 << 32, 4 - 1<<32, 4 - impl.BigPrime, -1024, -4, -1, 0, 1, 2, lastR - 3, lastR,
		impl.BigPrime, impl.BigPrime + 1, impl.BigPrime + 4, impl.BigPrime + 1024, 1 << 32, 1<<32 + 4, math.MaxInt,
	}
}

func someSecrets() []int {
	return []int{1, 2, 5, 505, 506, 507, 508, 1000, lastSecret - 1, lastSecret}
}

// notWellFormed are made of x by numbers outside the ranges, many of them with
// the same remainder.
func notWellFormed(x impl.Signed) []impl.Signed {
	var l []impl.Signed
	for _, r := range []int{
		math.MinInt, -1 << 32, x.R - impl.BigPrime, -x.R, -1, 0,
		impl.BigPrime, impl.BigPrime + 1, x.R + impl.BigPrime, x.R + 1<<32, math.MaxInt,
	} {
		l = append(l, impl.Signed{R: r, S: x.S})
	}
	for _, s := range []int{
		math.MinInt, -1 << 32, x.S - impl.SmallPrime, -1,
		impl.SmallPrime, impl.SmallPrime + 1, x.S + impl.SmallPrime, x.S + 1<<32, math.MaxInt,
	} {
		l = append(l, impl.Signed{R: x.R, S: s})
	}
	return append(l, impl.Signed{}, impl.Signed{R: -1, S: -1}, impl.Signed{R: impl.BigPrime, S: impl.SmallPrime})
}

func digestStart(s string) int {
	return int(binary.BigEndian.Uint32([]byte(sumOf(s))))
}

func plainKey(secret int) int {
	return plainPower(impl.Base, secret, impl.BigPrime)
}

func plainNonce(secret int, text string) int {
	return 1 + digestStart("n"+strconv.Itoa(secret)+"."+text)%1012
}

func plainChallenge(r int, key int, text string) int {
	return digestStart(strings.Join([]string{"c" + strconv.Itoa(r), strconv.Itoa(key), text}, ".")) % 1013
}

func plainSigned(secret int, nonce int, text string) impl.Signed {
	r := plainPower(4, nonce, 2027)
	return impl.Signed{R: r, S: (nonce + plainChallenge(r, plainKey(secret), text)*secret) % 1013}
}

func plainHolds(key int, text string, x impl.Signed) bool {
	power := plainPower(key, plainChallenge(x.R, key, text), 2027)
	return (plainPower(4, x.S, 2027)-x.R*power)%2027 == 0
}

// exponents gives each power of Base its exponent in 0..1012.
func exponents() map[int]int {
	of := map[int]int{}
	power := 1
	for k := range 1013 {
		of[power] = k
		power = power * 4 % 2027
	}
	return of
}

// messageWith is the first of the numbered messages that is wanted.
func messageWith(t *testing.T, wanted func(string) bool) string {
	t.Helper()
	for i := range 100000 {
		if text := "message " + strconv.Itoa(i); wanted(text) {
			return text
		}
	}
	t.Fatal("no such message")
	return ""
}

func mustSign(t *testing.T, secret int, nonce int, text string) impl.Signed {
	t.Helper()
	x, ok := impl.SignWith(secret, nonce, text)
	if !ok {
		t.Fatalf("SignWith(%d, %d, %q) is refused", secret, nonce, text)
	}
	return x
}

func checkSign(t *testing.T, secret int, nonce int, text string) {
	t.Helper()
	if x := mustSign(t, secret, nonce, text); x != plainSigned(secret, nonce, text) {
		t.Fatalf("SignWith(%d, %d, %q) = %v, want %v", secret, nonce, text, x, plainSigned(secret, nonce, text))
	}
}

func expectCheck(t *testing.T, key int, text string, x impl.Signed, wantIs bool, wantOK bool) {
	t.Helper()
	if is, ok := impl.CheckSigned(key, text, x); is != wantIs || ok != wantOK {
		t.Fatalf("CheckSigned(%d, %q, %v) = %v, %v; want %v, %v", key, text, x, is, ok, wantIs, wantOK)
	}
}

func expectBoth(t *testing.T, key int, l []string, all []impl.Signed, wantIs bool, wantOK bool) {
	t.Helper()
	if is, ok := impl.BothHold(key, l, all); is != wantIs || ok != wantOK {
		t.Fatalf("BothHold(%d, %q, %v) = %v, %v; want %v, %v", key, l, all, is, ok, wantIs, wantOK)
	}
}

// expectSecret tries both orders of the signatures.
func expectSecret(t *testing.T, key int, a string, x impl.Signed, b string, y impl.Signed, want int, wantOK bool) {
	t.Helper()
	if n, ok := impl.SecretFrom(key, a, x, b, y); n != want || ok != wantOK {
		t.Fatalf("SecretFrom(%d, %q, %v, %q, %v) = %d, %v; want %d, %v", key, a, x, b, y, n, ok, want, wantOK)
	}
	if n, ok := impl.SecretFrom(key, b, y, a, x); n != want || ok != wantOK {
		t.Fatalf("SecretFrom(%d, %q, %v, %q, %v) = %d, %v; want %d, %v", key, b, y, a, x, n, ok, want, wantOK)
	}
}

// manySigned signs messages of one key.
func manySigned(t *testing.T, secret int, many int) ([]string, []impl.Signed) {
	t.Helper()
	var l []string
	var all []impl.Signed
	for i := range many {
		text := "line " + strconv.Itoa(i)
		x, ok := impl.SignText(secret, text)
		if !ok {
			t.Fatalf("SignText(%d, %q) is refused", secret, text)
		}
		l, all = append(l, text), append(all, x)
	}
	return l, all
}

// spoiled has another S at one place, where no second S can hold.
func spoiled(all []impl.Signed, at int) []impl.Signed {
	other := slices.Clone(all)
	other[at].S = (other[at].S + 1) % impl.SmallPrime
	return other
}

func malformed(all []impl.Signed, at int) []impl.Signed {
	other := slices.Clone(all)
	other[at].S = impl.SmallPrime
	return other
}

func TestSignConstants(t *testing.T) {
	if impl.BigPrime != 2027 || impl.SmallPrime != 1013 || impl.Base != 4 {
		t.Error(impl.BigPrime, impl.SmallPrime, impl.Base)
	}
	if plainOrder(impl.Base, impl.BigPrime) != impl.SmallPrime {
		t.Error("the powers of Base are not a group of SmallPrime numbers")
	}
}

func TestKeyForEverySecret(t *testing.T) {
	secrets := map[int]int{}
	for secret := 1; secret <= lastSecret; secret++ {
		key, ok := impl.KeyFor(secret)
		if key != plainKey(secret) || !ok || !impl.IsKey(key) {
			t.Errorf("KeyFor(%d) = %d, %v; want %d", secret, key, ok, plainKey(secret))
		}
		if other, twice := secrets[key]; twice {
			t.Errorf("%d and %d have the key %d", other, secret, key)
		}
		secrets[key] = secret
	}
}

func TestKeyForAtTheBorders(t *testing.T) {
	for _, c := range []struct{ secret, want int }{{1, 4}, {2, 16}, {5, 1024}, {6, 42}, {1011, 1647}, {1012, 507}} {
		if key, ok := impl.KeyFor(c.secret); key != c.want || !ok {
			t.Errorf("KeyFor(%d) = %d, %v; want %d", c.secret, key, ok, c.want)
		}
	}
	for _, secret := range notSecrets() {
		if key, ok := impl.KeyFor(secret); key != 0 || ok {
			t.Errorf("KeyFor(%d) = %d, %v", secret, key, ok)
		}
	}
}

func TestIsKeyOfEveryNumber(t *testing.T) {
	keys := map[int]bool{}
	for secret := 1; secret <= lastSecret; secret++ {
		keys[plainKey(secret)] = true
	}
	for n := -2 * impl.BigPrime; n <= 3*impl.BigPrime; n++ {
		if is := impl.IsKey(n); is != keys[n] {
			t.Errorf("IsKey(%d) = %v", n, is)
		}
		if n < 2 || n > lastR {
			continue
		}
		if one := plainPower(n, impl.SmallPrime, impl.BigPrime) == 1; one != keys[n] {
			t.Errorf("the powers of Base and the numbers of power 1 differ at %d", n)
		}
	}
	for _, n := range notKeys() {
		if impl.IsKey(n) {
			t.Errorf("IsKey(%d) = true", n)
		}
	}
}

func TestNonceForEverySecret(t *testing.T) {
	for secret := 1; secret <= lastSecret; secret++ {
		for _, text := range borderMessages() {
			n, ok := impl.NonceFor(secret, text)
			if n != plainNonce(secret, text) || !ok || n < 1 || n > lastSecret {
				t.Fatalf("NonceFor(%d, %q) = %d, %v; want %d", secret, text, n, ok, plainNonce(secret, text))
			}
		}
	}
	for long := range messageLimit + 1 {
		text := sampleText(long)
		if n, ok := impl.NonceFor(77, text); n != plainNonce(77, text) || !ok {
			t.Fatalf("NonceFor(77, %q) = %d, %v; want %d", text, n, ok, plainNonce(77, text))
		}
	}
}

func TestNonceForKnownValues(t *testing.T) {
	for _, c := range []struct {
		secret int
		text   string
		want   int
	}{{5, "a", 564}, {1, "", 296}, {1012, "", 242}, {776, "", 1012}, {844, "", 1012}, {167, "a", 1012}} {
		if n, ok := impl.NonceFor(c.secret, c.text); n != c.want || !ok {
			t.Errorf("NonceFor(%d, %q) = %d, %v; want %d", c.secret, c.text, n, ok, c.want)
		}
	}
	text := messageWith(t, func(text string) bool { return plainNonce(5, text) == 1 })
	if n, ok := impl.NonceFor(5, text); n != 1 || !ok {
		t.Errorf("NonceFor(5, %q) = %d, %v", text, n, ok)
	}
}

func TestNonceForRefuses(t *testing.T) {
	for _, secret := range notSecrets() {
		for _, text := range append(borderMessages(), longMessages()...) {
			if n, ok := impl.NonceFor(secret, text); n != 0 || ok {
				t.Errorf("NonceFor(%d, %q) = %d, %v", secret, text, n, ok)
			}
		}
	}
	for _, secret := range someSecrets() {
		for _, text := range longMessages() {
			if n, ok := impl.NonceFor(secret, text); n != 0 || ok {
				t.Errorf("NonceFor(%d, %d bytes) = %d, %v", secret, len(text), n, ok)
			}
		}
	}
}

func TestChallengeOfEveryNumberAndKey(t *testing.T) {
	check := func(r int, key int, text string) {
		t.Helper()
		e, ok := impl.ChallengeOf(r, key, text)
		if want := plainChallenge(r, key, text); e != want || !ok || e < 0 || e > lastSecret {
			t.Fatalf("ChallengeOf(%d, %d, %q) = %d, %v; want %d", r, key, text, e, ok, want)
		}
	}
	// R need not be a power of Base.
	for r := 1; r <= lastR; r++ {
		for _, text := range []string{"", "a", sampleText(messageLimit)} {
			check(r, 1024, text)
		}
	}
	for secret := 1; secret <= lastSecret; secret++ {
		for _, r := range []int{1, 2, 4, lastR} {
			check(r, plainKey(secret), "a")
		}
	}
	for _, secret := range someSecrets() {
		for _, text := range borderMessages() {
			check(1, plainKey(secret), text)
			check(lastR, plainKey(secret), text)
		}
	}
	for long := range messageLimit + 1 {
		check(168, 1024, sampleText(long))
	}
}

func TestChallengeOfKnownValues(t *testing.T) {
	for _, c := range []struct {
		r, key int
		text   string
		want   int
	}{
		{4, 1024, "a", 1011}, {168, 1024, "pay 5", 543}, {168, 1024, "pay 6", 287},
		{1, 4, "", 276}, {2026, 507, strings.Repeat("\xff", 200), 449},
	} {
		if e, ok := impl.ChallengeOf(c.r, c.key, c.text); e != c.want || !ok {
			t.Errorf("ChallengeOf(%d, %d, %q) = %d, %v; want %d", c.r, c.key, c.text, e, ok, c.want)
		}
	}
	for _, want := range []int{0, lastSecret} {
		text := messageWith(t, func(text string) bool { return plainChallenge(4, 1024, text) == want })
		if e, ok := impl.ChallengeOf(4, 1024, text); e != want || !ok {
			t.Errorf("ChallengeOf(4, 1024, %q) = %d, %v; want %d", text, e, ok, want)
		}
	}
}

// A challenge that left out R, the key or the message would be the same for
// all of them.
func TestChallengeDependsOnAllItsArguments(t *testing.T) {
	ofR, ofKey, ofText := map[int]bool{}, map[int]bool{}, map[int]bool{}
	for i := 1; i <= 100; i++ {
		e, _ := impl.ChallengeOf(i, 1024, "a")
		ofR[e] = true
		e, _ = impl.ChallengeOf(4, plainKey(i), "a")
		ofKey[e] = true
		e, _ = impl.ChallengeOf(4, 1024, "a"+strconv.Itoa(i))
		ofText[e] = true
	}
	if len(ofR) < 80 || len(ofKey) < 80 || len(ofText) < 80 {
		t.Errorf("of 100 challenges, %d, %d and %d are different", len(ofR), len(ofKey), len(ofText))
	}
}

func TestChallengeOfRefuses(t *testing.T) {
	refuse := func(r int, key int, text string) {
		t.Helper()
		if e, ok := impl.ChallengeOf(r, key, text); e != 0 || ok {
			t.Errorf("ChallengeOf(%d, %d, %d bytes) = %d, %v", r, key, len(text), e, ok)
		}
	}
	for _, r := range []int{
		math.MinInt, -1 << 32, 4 - impl.BigPrime, -4, -1, 0,
		impl.BigPrime, impl.BigPrime + 1, impl.BigPrime + 4, 1 << 32, 1<<32 + 4, math.MaxInt,
	} {
		refuse(r, 1024, "a")
		refuse(r, 4, "")
	}
	for _, key := range notKeys() {
		for _, text := range append(borderMessages(), longMessages()...) {
			refuse(4, key, text)
		}
	}
	for _, text := range longMessages() {
		refuse(1, 4, text)
		refuse(lastR, 1024, text)
	}
}

func TestSignWithEverySecretAndNonce(t *testing.T) {
	for n := 1; n <= lastSecret; n++ {
		for _, other := range someSecrets() {
			checkSign(t, n, other, "pay 5")
			checkSign(t, other, n, "")
		}
	}
	for _, text := range borderMessages() {
		for _, secret := range someSecrets() {
			for _, nonce := range someSecrets() {
				checkSign(t, secret, nonce, text)
			}
		}
	}
}

func TestKnownSignatures(t *testing.T) {
	for _, c := range []struct {
		secret, nonce int
		text          string
		want          impl.Signed
	}{
		{5, 7, "pay 5", payment5}, {5, 7, "pay 6", payment6},
		{1, 1, "", impl.Signed{R: 4, S: 707}}, {1012, 1012, "", impl.Signed{R: 507, S: 846}},
	} {
		if x := mustSign(t, c.secret, c.nonce, c.text); x != c.want {
			t.Errorf("SignWith(%d, %d, %q) = %v, want %v", c.secret, c.nonce, c.text, x, c.want)
		}
	}
	for _, c := range []struct {
		secret int
		text   string
		want   impl.Signed
	}{
		{5, "pay 5", impl.Signed{R: 574, S: 705}}, {1, "", impl.Signed{R: 641, S: 445}},
		{1012, strings.Repeat("x", 200), impl.Signed{R: 363, S: 231}},
	} {
		if x, ok := impl.SignText(c.secret, c.text); x != c.want || !ok {
			t.Errorf("SignText(%d, %q) = %v, %v; want %v", c.secret, c.text, x, ok, c.want)
		}
	}
}

func TestSignTextUsesItsNonce(t *testing.T) {
	for secret := 1; secret <= lastSecret; secret++ {
		for _, text := range borderMessages() {
			x, ok := impl.SignText(secret, text)
			if want := plainSigned(secret, plainNonce(secret, text), text); x != want || !ok {
				t.Fatalf("SignText(%d, %q) = %v, %v; want %v", secret, text, x, ok, want)
			}
		}
	}
}

func TestSigningRefuses(t *testing.T) {
	refuse := func(secret int, nonce int, text string) {
		t.Helper()
		if x, ok := impl.SignWith(secret, nonce, text); x != (impl.Signed{}) || ok {
			t.Errorf("SignWith(%d, %d, %d bytes) = %v, %v", secret, nonce, len(text), x, ok)
		}
	}
	refuseText := func(secret int, text string) {
		t.Helper()
		if x, ok := impl.SignText(secret, text); x != (impl.Signed{}) || ok {
			t.Errorf("SignText(%d, %d bytes) = %v, %v", secret, len(text), x, ok)
		}
	}
	for _, n := range notSecrets() {
		refuse(n, 7, "a")
		refuse(7, n, "a")
		refuse(n, n, "a")
		refuse(n, 7, sampleText(messageLimit+1))
		refuseText(n, "a")
		refuseText(n, "")
		refuseText(n, sampleText(messageLimit+1))
	}
	for _, text := range longMessages() {
		for _, secret := range someSecrets() {
			refuse(secret, 1, text)
			refuse(1, secret, text)
			refuseText(secret, text)
		}
	}
}

// For each power of Base as R there is one S that holds, and for another R
// there is none.
func TestCheckSignedOfEveryR(t *testing.T) {
	of := exponents()
	for _, c := range []struct {
		secret int
		text   string
	}{{5, "pay 5"}, {1, ""}, {lastSecret, sampleText(messageLimit)}} {
		key := plainKey(c.secret)
		for r := 1; r <= lastR; r++ {
			nonce, isPower := of[r]
			s := (nonce + plainChallenge(r, key, c.text)*c.secret) % impl.SmallPrime
			expectCheck(t, key, c.text, impl.Signed{R: r, S: s}, isPower, true)
			for _, off := range []int{1, 2, 506, 1011, 1012} {
				expectCheck(t, key, c.text, impl.Signed{R: r, S: (s + off) % impl.SmallPrime}, false, true)
			}
		}
	}
}

func TestCheckSignedOfEveryS(t *testing.T) {
	for _, r := range []int{1, 2, 3, 4, 168, 507, 1024, 2023, 2025, lastR} {
		hold := 0
		for s := range impl.SmallPrime {
			x := impl.Signed{R: r, S: s}
			is := plainHolds(paymentKey, "pay 5", x)
			expectCheck(t, paymentKey, "pay 5", x, is, true)
			if is {
				hold++
			}
		}
		if isPower := r == 1 || impl.IsKey(r); isPower != (hold == 1) {
			t.Errorf("%d signatures with R %d hold", hold, r)
		}
	}
}

func TestCheckSignedAtTheBorders(t *testing.T) {
	// R 1 has the nonce 0, which SignWith refuses, but is well-formed.
	e := plainChallenge(1, paymentKey, "a")
	expectCheck(t, paymentKey, "a", impl.Signed{R: 1, S: e * 5 % 1013}, true, true)
	expectCheck(t, paymentKey, "a", impl.Signed{R: 1, S: (e*5 + 1) % 1013}, false, true)
	// R 2026 is no power of Base.
	expectCheck(t, paymentKey, "a", impl.Signed{R: lastR, S: 0}, false, true)
	expectCheck(t, paymentKey, "a", impl.Signed{R: lastR, S: lastSecret}, false, true)
	for _, s := range []int{0, lastSecret} {
		text := messageWith(t, func(text string) bool { return plainSigned(5, 7, text).S == s })
		expectCheck(t, paymentKey, text, impl.Signed{R: 168, S: s}, true, true)
		expectCheck(t, paymentKey, text, impl.Signed{R: 168, S: lastSecret - s}, false, true)
	}
	// With the challenge 0 the key does not matter to the power, only to the challenge.
	text := messageWith(t, func(text string) bool { return plainChallenge(168, paymentKey, text) == 0 })
	expectCheck(t, paymentKey, text, impl.Signed{R: 168, S: 7}, true, true)
	expectCheck(t, paymentKey, text, impl.Signed{R: 168, S: 8}, false, true)
}

func TestCheckSignedWithOtherKeysAndMessages(t *testing.T) {
	for secret := 1; secret <= lastSecret; secret++ {
		key := plainKey(secret)
		expectCheck(t, key, "pay 5", payment5, plainHolds(key, "pay 5", payment5), true)
	}
	for _, secret := range []int{1, 2, 3, 4, 6, 7, 1008, lastSecret} {
		expectCheck(t, plainKey(secret), "pay 5", payment5, false, true)
	}
	for _, text := range append(borderMessages(), "pay 50", "pay  5", "Pay 5", "pay", "pay 5\x00", "pay 4") {
		if text != "pay 5" {
			expectCheck(t, paymentKey, text, payment5, plainHolds(paymentKey, text, payment5), true)
		}
	}
	for _, text := range []string{"", "a", "pay 6", "pay 50", "pay", "pay 4"} {
		expectCheck(t, paymentKey, text, payment5, false, true)
	}
	expectCheck(t, paymentKey, "pay 5", payment6, false, true)
	expectCheck(t, paymentKey, "pay 6", payment5, false, true)
	expectCheck(t, paymentKey, "pay 6", payment6, true, true)
}

// A signature made with the challenge of another key, another message or
// another R does not hold.
func TestCheckSignedWithOtherChallenges(t *testing.T) {
	own := plainChallenge(168, paymentKey, "pay 5")
	for _, e := range []int{
		plainChallenge(168, 4, "pay 5"), plainChallenge(168, 507, "pay 5"), plainChallenge(168, paymentKey, "pay 6"),
		plainChallenge(168, paymentKey, ""), plainChallenge(4, paymentKey, "pay 5"), 0, lastSecret,
	} {
		if e == own {
			t.Fatalf("the challenge %d is the signer's own", e)
		}
		expectCheck(t, paymentKey, "pay 5", impl.Signed{R: 168, S: (7 + e*5) % 1013}, false, true)
	}
}

// If the challenge left out the key, a signature of the secret 5 would give one
// of any secret at a known distance from it, with the same R.
func TestCheckSignedIsNotTurnedToARelatedKey(t *testing.T) {
	e := plainChallenge(168, paymentKey, "pay 5")
	for secret := 6; secret <= 100; secret++ {
		key := plainKey(secret)
		if plainChallenge(168, key, "pay 5") == e {
			continue
		}
		turned := impl.Signed{R: 168, S: (payment5.S + e*(secret-5)) % 1013}
		expectCheck(t, key, "pay 5", turned, false, true)
	}
}

func TestCheckSignedRefuses(t *testing.T) {
	for _, key := range notKeys() {
		expectCheck(t, key, "pay 5", payment5, false, false)
		expectCheck(t, key, "", impl.Signed{R: 1, S: 0}, false, false)
		expectCheck(t, key, "", impl.Signed{}, false, false)
	}
	for _, x := range notWellFormed(payment5) {
		expectCheck(t, paymentKey, "pay 5", x, false, false)
	}
	for _, text := range longMessages() {
		expectCheck(t, paymentKey, text, payment5, false, false)
		expectCheck(t, paymentKey, text, plainSigned(5, 7, text), false, false)
	}
}

func TestBothHoldOfEveryNumberOfMessages(t *testing.T) {
	expectBoth(t, paymentKey, []string{"pay 5", "pay 6"}, []impl.Signed{payment5, payment6}, true, true)
	for _, secret := range []int{1, 5, lastSecret} {
		key := plainKey(secret)
		for many := range 11 {
			l, all := manySigned(t, secret, many)
			expectBoth(t, key, l, all, true, true)
			for at := range many {
				expectBoth(t, key, l, spoiled(all, at), false, true)
				expectBoth(t, key, l, malformed(all, at), false, false)
			}
		}
	}
}

func TestBothHoldWithoutMessages(t *testing.T) {
	expectBoth(t, paymentKey, nil, nil, true, true)
	expectBoth(t, 4, []string{}, []impl.Signed{}, true, true)
	expectBoth(t, 507, nil, []impl.Signed{}, true, true)
	for _, key := range notKeys() {
		expectBoth(t, key, nil, nil, false, false)
		expectBoth(t, key, []string{"pay 5"}, []impl.Signed{payment5}, false, false)
	}
}

func TestBothHoldRefusesOtherLengths(t *testing.T) {
	l, all := manySigned(t, 5, 20)
	for messages := range 20 {
		for signatures := range 20 {
			good := messages == signatures && messages <= 10
			expectBoth(t, paymentKey, l[:messages], all[:signatures], good, good)
		}
	}
	expectBoth(t, paymentKey, l[:11], spoiled(all, 0)[:11], false, false)
	// 256 more or 1<<16 more must not be taken for a valid number.
	l, all = manySigned(t, 5, 1)
	for _, many := range []int{256, 257, 1<<16 + 1} {
		expectBoth(t, paymentKey, slices.Repeat(l, many), slices.Repeat(all, many), false, false)
	}
}

// A signature that is not well-formed counts, even behind one that does not
// hold, and so does a message that is too long.
func TestBothHoldRefusesWhereverTheFaultIs(t *testing.T) {
	l, all := manySigned(t, 5, 10)
	for at := range all {
		for other := range all {
			if other == at {
				continue
			}
			expectBoth(t, paymentKey, l, malformed(spoiled(all, at), other), false, false)
			long := slices.Clone(l)
			long[other] = sampleText(messageLimit + 1)
			expectBoth(t, paymentKey, long, spoiled(all, at), false, false)
		}
		for _, x := range notWellFormed(all[at]) {
			faulty := slices.Clone(all)
			faulty[at] = x
			expectBoth(t, paymentKey, l, faulty, false, false)
		}
	}
}

func TestBothHoldOfOtherSignatures(t *testing.T) {
	l := []string{"pay 5", "pay 6"}
	expectBoth(t, paymentKey, l, []impl.Signed{payment6, payment5}, false, true)
	expectBoth(t, paymentKey, l, []impl.Signed{payment5, payment5}, false, true)
	expectBoth(t, paymentKey, []string{"pay 5", "pay 5"}, []impl.Signed{payment5, payment5}, true, true)
	expectBoth(t, 4, l, []impl.Signed{payment5, payment6}, false, true)
	expectBoth(t, paymentKey, []string{"", sampleText(messageLimit)},
		[]impl.Signed{plainSigned(5, 1, ""), plainSigned(5, lastSecret, sampleText(messageLimit))}, true, true)
}

// Promise 6, Schnorr.
func TestSignatureVerifiesWithTheKeyOfTheSigner(t *testing.T) {
	verify := func(secret int, text string, x impl.Signed, ok bool) {
		t.Helper()
		key, known := impl.KeyFor(secret)
		if !ok || !known {
			t.Fatalf("secret %d, %q: the signature or the key is refused", secret, text)
		}
		expectCheck(t, key, text, x, true, true)
	}
	for secret := 1; secret <= lastSecret; secret++ {
		for _, text := range borderMessages() {
			x, ok := impl.SignText(secret, text)
			verify(secret, text, x, ok)
		}
		for _, nonce := range someSecrets() {
			x, ok := impl.SignWith(secret, nonce, "pay 5")
			verify(secret, "pay 5", x, ok)
			x, ok = impl.SignWith(nonce, secret, "pay 5")
			verify(nonce, "pay 5", x, ok)
		}
	}
}

// Promise 6, Fiat and Shamir.
func TestReusedNonceRevealsTheSecret(t *testing.T) {
	reveal := func(secret int, nonce int, a string, b string) {
		t.Helper()
		key, _ := impl.KeyFor(secret)
		x, y := mustSign(t, secret, nonce, a), mustSign(t, secret, nonce, b)
		first, one := impl.ChallengeOf(x.R, key, a)
		second, two := impl.ChallengeOf(y.R, key, b)
		if x.R != y.R || !one || !two {
			t.Fatalf("secret %d, nonce %d: %v and %v", secret, nonce, x, y)
		}
		if first == second {
			secret = 0
		}
		expectSecret(t, key, a, x, b, y, secret, secret != 0)
	}
	for secret := 1; secret <= lastSecret; secret++ {
		for _, nonce := range someSecrets() {
			reveal(secret, nonce, "pay 5", "pay 6")
			reveal(nonce, secret, "", sampleText(messageLimit))
		}
	}
	for _, a := range borderMessages() {
		for _, b := range borderMessages() {
			reveal(5, 7, a, b)
			reveal(lastSecret, lastSecret, a, b)
		}
	}
	expectSecret(t, paymentKey, "pay 5", payment5, "pay 6", payment6, 5, true)
}

func TestSecretFromEqualChallenges(t *testing.T) {
	for _, secret := range someSecrets() {
		key, x := plainKey(secret), plainSigned(secret, 7, "pay 5")
		expectSecret(t, key, "pay 5", x, "pay 5", x, 0, false)
		e := plainChallenge(168, key, "pay 5")
		same := messageWith(t, func(text string) bool { return plainChallenge(168, key, text) == e })
		y := mustSign(t, secret, 7, same)
		if x != y {
			t.Fatalf("equal challenges, but %v and %v", x, y)
		}
		expectCheck(t, key, same, y, true, true)
		expectSecret(t, key, "pay 5", x, same, y, 0, false)
	}
}

// The nearest and the farthest challenges divide by 1 and by 1012.
func TestSecretFromNeighbouringChallenges(t *testing.T) {
	for _, secret := range someSecrets() {
		key := plainKey(secret)
		for _, want := range [][2]int{{0, 1}, {0, lastSecret}, {lastSecret - 1, lastSecret}, {1, 507}} {
			a := messageWith(t, func(text string) bool { return plainChallenge(168, key, text) == want[0] })
			b := messageWith(t, func(text string) bool { return plainChallenge(168, key, text) == want[1] })
			expectSecret(t, key, a, plainSigned(secret, 7, a), b, plainSigned(secret, 7, b), secret, true)
		}
	}
}

func TestSecretFromDifferentNonces(t *testing.T) {
	for _, other := range []int{1, 6, 8, 1006, lastSecret} {
		for _, text := range []string{"pay 5", "pay 6", "", "a"} {
			y := plainSigned(5, other, text)
			expectCheck(t, paymentKey, text, y, true, true)
			expectSecret(t, paymentKey, "pay 5", payment5, text, y, 0, false)
		}
	}
}

// R 1 cannot be signed, but two such signatures that hold share the nonce 0.
func TestSecretFromTheNonceZero(t *testing.T) {
	x := impl.Signed{R: 1, S: plainChallenge(1, paymentKey, "a") * 5 % 1013}
	y := impl.Signed{R: 1, S: plainChallenge(1, paymentKey, "b") * 5 % 1013}
	expectSecret(t, paymentKey, "a", x, "b", y, 5, true)
}

func TestSecretFromSignaturesThatDoNotHold(t *testing.T) {
	for off := 1; off <= lastSecret; off++ {
		forged := impl.Signed{R: 168, S: (payment6.S + off) % 1013}
		expectSecret(t, paymentKey, "pay 5", payment5, "pay 6", forged, 0, false)
	}
	expectSecret(t, paymentKey, "pay 6", payment5, "pay 5", payment6, 0, false)
	expectSecret(t, paymentKey, "pay 5", payment5, "pay 6", payment5, 0, false)
	expectSecret(t, paymentKey, "pay 5", payment5, "pay 7", payment6, 0, false)
	for _, secret := range []int{1, 4, 6, lastSecret} {
		// The same nonce of another signer.
		y := plainSigned(secret, 7, "pay 6")
		expectSecret(t, paymentKey, "pay 5", payment5, "pay 6", y, 0, false)
		expectSecret(t, plainKey(secret), "pay 5", payment5, "pay 6", payment6, 0, false)
	}
	// An R that is no power of Base never holds, not even twice.
	expectSecret(t, paymentKey, "pay 5", impl.Signed{R: lastR, S: 696}, "pay 6", impl.Signed{R: lastR, S: 429}, 0, false)
	// Both signatures forged so that the quotient is still the secret.
	shifted := func(x impl.Signed) impl.Signed { return impl.Signed{R: x.R, S: (x.S + 1) % 1013} }
	expectSecret(t, paymentKey, "pay 5", shifted(payment5), "pay 6", shifted(payment6), 0, false)
}

func TestSecretFromRefuses(t *testing.T) {
	for _, key := range notKeys() {
		expectSecret(t, key, "pay 5", payment5, "pay 6", payment6, 0, false)
	}
	for _, y := range notWellFormed(payment6) {
		expectSecret(t, paymentKey, "pay 5", payment5, "pay 6", y, 0, false)
	}
	for _, text := range longMessages() {
		expectSecret(t, paymentKey, "pay 5", payment5, text, plainSigned(5, 7, text), 0, false)
	}
}

// Promise 19: the lists of BothHold are as they were, behind their length too.
func TestBothHoldModifiesNothing(t *testing.T) {
	l, all := manySigned(t, 5, 12)
	for _, faulty := range [][]impl.Signed{all, spoiled(all, 2), malformed(all, 3), malformed(all, 11)} {
		texts, signatures := slices.Clone(l), slices.Clone(faulty)
		for many := range 13 {
			first, firstOK := impl.BothHold(paymentKey, texts[:many], signatures[:many])
			again, againOK := impl.BothHold(paymentKey, texts[:many:many], signatures[:many:many])
			if first != again || firstOK != againOK {
				t.Errorf("BothHold of %d messages depends on what is behind them", many)
			}
			if !slices.Equal(texts, l) || !slices.Equal(signatures, faulty) {
				t.Fatalf("BothHold of %d messages changes its arguments", many)
			}
		}
	}
	// What is behind the length is not read.
	behind := malformed(all, 2)
	l[2] = sampleText(messageLimit + 1)
	expectBoth(t, paymentKey, l[:2], behind[:2], true, true)
}

// Promise 19: numbers and strings are copied, so what is left to break is that
// a call returns and does so alike each time.
func TestSignatureFunctionsReturn(t *testing.T) {
	numbers := []int{
		math.MinInt, math.MinInt + 1, -1 << 32, -1, 0, 1, 2, 4, 5, 507, 1012, 1013, 1014, 1024,
		2025, 2026, 2027, 2028, 1 << 32, 1<<32 + 4, math.MaxInt - 1, math.MaxInt,
	}
	texts := []string{"", "pay 5", "\xff", sampleText(messageLimit), sampleText(messageLimit + 1), sampleText(1 << 16)}
	for _, n := range numbers {
		impl.KeyFor(n)
		impl.IsKey(n)
		for _, text := range texts {
			impl.NonceFor(n, text)
			impl.SignText(n, text)
			for _, m := range numbers {
				impl.ChallengeOf(n, m, text)
				impl.SignWith(n, m, text)
				for _, key := range numbers {
					x := impl.Signed{R: n, S: m}
					is, ok := impl.CheckSigned(key, text, x)
					again, againOK := impl.CheckSigned(key, text, x)
					if is != again || ok != againOK || is && !ok {
						t.Errorf("CheckSigned(%d, %q, %v) = %v, %v and then %v, %v", key, text, x, is, ok, again, againOK)
					}
					impl.SecretFrom(key, text, x, "pay 5", payment5)
					impl.SecretFrom(key, "pay 5", payment5, text, x)
					impl.BothHold(key, []string{text, text}, []impl.Signed{x, {R: m, S: n}})
				}
			}
		}
	}
}
