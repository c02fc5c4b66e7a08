package tests

import (
	"encoding/json"
	"fmt"
	"maps"
	"math"
	"math/rand"
	"regexp"
	"slices"
	"strconv"
	"strings"
	"testing"
	"unicode/utf16"
	"unicode/utf8"

	"loop.example/g00532/impl"
)

func wholeNode(n int) impl.Node       { return impl.Node{Kind: impl.KdWhole, Num: n} }
func textNode(s string) impl.Node     { return impl.Node{Kind: impl.KdText, Text: s} }
func listNode(many int) impl.Node     { return impl.Node{Kind: impl.KdList, Many: many} }
func recordNode(many int) impl.Node   { return impl.Node{Kind: impl.KdRecord, Many: many} }
func kindNode(kind int) impl.Node     { return impl.Node{Kind: kind} }
func oneNode(n impl.Node) []impl.Node { return []impl.Node{n} }

func keyedNode(key string, n impl.Node) impl.Node {
	n.Key = key
	return n
}

// sharedKeys are in the order of their UTF-16 code units, which is not the
// bytewise order: rune 65536 and rune 128512 precede rune 57344.
func sharedKeys() []string {
	return []string{"", "\x00", "\t", "a", "a\x00", "aa", "b", "\x7f", "\u00e9", "\ud7ff", "\U00010000", "\U0001f600", "\ue000", "\ufffd", "\uffff"}
}

// In the tests a tree is what package json makes of a text: nil, bool,
// json.Number, string, []any or map[string]any.
func plainFlat(l []impl.Node, key string, v any) []impl.Node {
	n := impl.Node{Key: key}
	switch v := v.(type) {
	case nil:
		n.Kind = impl.KdNull
	case bool:
		n.Kind = impl.KdFalse
		if v {
			n.Kind = impl.KdTrue
		}
	case json.Number:
		m, err := v.Int64()
		if err != nil {
			panic(err)
		}
		n.Kind, n.Num = impl.KdWhole, int(m)
	case string:
		n.Kind, n.Text = impl.KdText, v
	case []any:
		n.Kind, n.Many = impl.KdList, len(v)
		l = append(l, n)
		for _, child := range v {
			l = plainFlat(l, "", child)
		}
		return l
	case map[string]any:
		n.Kind, n.Many = impl.KdRecord, len(v)
		l = append(l, n)
		for _, key := range plainKeys(v) {
			l = plainFlat(l, key, v[key])
		}
		return l
	}
	return append(l, n)
}

func plainKeys(v map[string]any) []string {
	return slices.SortedFunc(maps.Keys(v), func(a string, b string) int {
		return slices.Compare(utf16.Encode([]rune(a)), utf16.Encode([]rune(b)))
	})
}

func plainDepth(v any) int {
	deepest := 0
	switch v := v.(type) {
	case []any:
		for _, child := range v {
			deepest = max(deepest, plainDepth(child))
		}
	case map[string]any:
		for _, child := range v {
			deepest = max(deepest, plainDepth(child))
		}
	}
	return deepest + 1
}

func plainCanon(v any) string {
	var parts []string
	switch v := v.(type) {
	case nil:
		return "null"
	case bool:
		return strconv.FormatBool(v)
	case json.Number:
		return string(v)
	case string:
		return plainQuoted(v)
	case []any:
		for _, child := range v {
			parts = append(parts, plainCanon(child))
		}
		return "[" + strings.Join(parts, ",") + "]"
	case map[string]any:
		for _, key := range plainKeys(v) {
			parts = append(parts, plainQuoted(key)+":"+plainCanon(v[key]))
		}
		return "{" + strings.Join(parts, ",") + "}"
	}
	panic("no tree")
}

func plainQuoted(s string) string {
	out := `"`
	for i := range len(s) {
		switch c := s[i]; {
		case c == '"':
			out += `\"`
		case c == '\\':
			out += `\\`
		case c == 8:
			out += `\b`
		case c == 9:
			out += `\t`
		case c == 10:
			out += `\n`
		case c == 12:
			out += `\f`
		case c == 13:
			out += `\r`
		case c < 32:
			out += fmt.Sprintf(`\u%04x`, c)
		default:
			out += string([]byte{c})
		}
	}
	return out + `"`
}

// plainTree reads an accepted text by package json.
func plainTree(t *testing.T, text string) any {
	t.Helper()
	d := json.NewDecoder(strings.NewReader(text))
	d.UseNumber()
	var v any
	if err := d.Decode(&v); err != nil || !json.Valid([]byte(text)) {
		t.Fatalf("package json refuses %q: %v", text, err)
	}
	return v
}

var (
	plainEscape = regexp.MustCompile(`^\\(["\\/bfnrt]|u[0-9A-Fa-f]{4})`)
	plainPair   = regexp.MustCompile(`^\\u[dD][89abAB][0-9A-Fa-f]{2}\\u[dD][c-fC-F][0-9A-Fa-f]{2}`)
	plainHalf   = regexp.MustCompile(`^\\u[dD][89a-fA-F]`)
	plainDigits = regexp.MustCompile(`^-?(0|[1-9][0-9]{0,15})?`)
)

// plainScan reads a text in one loop with a stack. Its fault is -1 until there
// is one.
type plainScan struct {
	text  string
	at    int
	nodes int
	fault int
	open  []plainOpen
}

type plainOpen struct {
	list bool
	keys map[string]bool
}

// plainFault returns the offset of the first fault of a text, -1 if there is none.
func plainFault(text string) int {
	p := &plainScan{text: text, fault: -1}
	for wants := "value"; p.fault < 0; {
		p.at += len(p.text[p.at:]) - len(strings.TrimLeft(p.text[p.at:], " \t\n\r"))
		if p.at == len(p.text) {
			if wants == "end" && p.nodes <= 40 {
				return -1
			}
			return p.at
		}
		wants = p.step(wants, p.text[p.at])
	}
	return p.fault
}

func (p *plainScan) step(wants string, c byte) string {
	closes := c == ']' && len(p.open) > 0 && p.open[len(p.open)-1].list || c == '}' && len(p.open) > 0 && !p.open[len(p.open)-1].list
	switch {
	case closes && (wants == "first" || wants == "more"):
		p.open = p.open[:len(p.open)-1]
		p.at++
		return p.behind()
	case wants == "colon" && c == ':':
		p.at++
		return "value"
	case wants == "more" && c == ',':
		p.at++
		return p.within("value", "key")
	case wants == "first" && p.within("value", "key") == "key", wants == "key":
		return p.key()
	case wants == "first", wants == "value":
		return p.value(c)
	}
	p.fault = p.at
	return ""
}

func (p *plainScan) within(list string, record string) string {
	if p.open[len(p.open)-1].list {
		return list
	}
	return record
}

func (p *plainScan) behind() string {
	if len(p.open) == 0 {
		return "end"
	}
	return "more"
}

func (p *plainScan) key() string {
	if p.text[p.at] != '"' {
		p.fault = p.at
		return ""
	}
	start := p.at
	if p.str(); p.fault >= 0 {
		return ""
	}
	var key string
	if err := json.Unmarshal([]byte(p.text[start:p.at]), &key); err != nil {
		panic(err)
	}
	keys := p.open[len(p.open)-1].keys
	if keys[key] {
		p.fault = p.at - 1
	}
	keys[key] = true
	return "colon"
}

func (p *plainScan) value(c byte) string {
	p.nodes++
	switch {
	case len(p.open) == 6:
		p.fault = p.at
	case c == '[' || c == '{':
		p.open = append(p.open, plainOpen{list: c == '[', keys: map[string]bool{}})
		p.at++
		return "first"
	case c == '"':
		p.str()
	case c == '-' || c >= '0' && c <= '9':
		p.number()
	default:
		p.word()
	}
	return p.behind()
}

func (p *plainScan) word() {
	for _, word := range []string{"null", "false", "true"} {
		if word[0] != p.text[p.at] {
			continue
		}
		for i := range len(word) {
			if p.at == len(p.text) || p.text[p.at] != word[i] {
				p.fault = p.at
				return
			}
			p.at++
		}
		return
	}
	p.fault = p.at
}

func (p *plainScan) number() {
	digits := plainDigits.FindString(p.text[p.at:])
	p.at += len(digits)
	n, err := strconv.ParseInt(digits, 10, 64)
	if err != nil || digits == "-0" || n > 9007199254740991 || n < -9007199254740991 {
		p.fault = p.at
	}
}

func (p *plainScan) str() {
	runes, unpaired := 0, false
	for p.at++; ; runes++ {
		rest := p.text[p.at:]
		r, size := utf8.DecodeRuneInString(rest)
		switch {
		case rest == "" || rest[0] < 32 || r == utf8.RuneError && size < 3:
			p.fault = p.at
			return
		case rest[0] == '"':
			if unpaired || runes > 60 {
				p.fault = p.at
				return
			}
			p.at++
			return
		case rest[0] != '\\':
			p.at += size
		case plainPair.MatchString(rest):
			p.at += 12
		case plainEscape.MatchString(rest):
			unpaired = unpaired || plainHalf.MatchString(rest)
			p.at += len(plainEscape.FindString(rest))
		default:
			p.fault = p.at + 1
			if len(rest) > 1 && rest[1] == 'u' {
				p.fault++
				for strings.ContainsRune("0123456789abcdefABCDEF", rune((rest + "x")[p.fault-p.at])) {
					p.fault++
				}
			}
			return
		}
	}
}

func expectNodes(t *testing.T, text string, want []impl.Node) {
	t.Helper()
	if l, at, ok := impl.ReadValue(text); !slices.Equal(l, want) || at != 0 || !ok {
		t.Errorf("ReadValue(%q) = %v, %d, %v; want %v", text, l, at, ok, want)
	}
	if !impl.GoodValue(want) {
		t.Errorf("GoodValue(%v) = false", want)
	}
}

func expectFault(t *testing.T, text string, want int) {
	t.Helper()
	if l, at, ok := impl.ReadValue(text); len(l) != 0 || at != want || ok {
		t.Errorf("ReadValue(%q) = %v, %d, %v; want a fault at %d", text, l, at, ok, want)
	}
	if s, ok := impl.TidyText(text); s != "" || ok {
		t.Errorf("TidyText(%q) = %q, %v", text, s, ok)
	}
}

func expectTidy(t *testing.T, text string, want string) {
	t.Helper()
	if s, ok := impl.TidyText(text); s != want || !ok {
		t.Errorf("TidyText(%q) = %q, %v; want %q", text, s, ok, want)
	}
	if s, ok := impl.TidyText(want); s != want || !ok {
		t.Errorf("TidyText(%q) = %q, %v", want, s, ok)
	}
}

// expectAsPlain compares all that is said of a text of at most MaxText bytes
// with plainFault and with package json.
func expectAsPlain(t *testing.T, text string) bool {
	t.Helper()
	l, at, ok := impl.ReadValue(text)
	if fault := plainFault(text); fault >= 0 {
		if len(l) != 0 || at != fault || ok {
			t.Errorf("ReadValue(%q) = %v, %d, %v; want a fault at %d", text, l, at, ok, fault)
		}
		if s, ok := impl.TidyText(text); s != "" || ok {
			t.Errorf("TidyText(%q) = %q, %v", text, s, ok)
		}
		return false
	}
	v := plainTree(t, text)
	if want := plainFlat(nil, "", v); !slices.Equal(l, want) || at != 0 || !ok {
		t.Errorf("ReadValue(%q) = %v, %d, %v; want %v", text, l, at, ok, want)
	}
	expectTidy(t, text, plainCanon(v))
	return true
}

// expectValue compares what is said of the nodes of a tree with plain methods.
func expectValue(t *testing.T, v any) {
	t.Helper()
	l, canon := plainFlat(nil, "", v), plainCanon(v)
	if !impl.GoodValue(l) {
		t.Errorf("GoodValue(%v) = false", l)
	}
	if depth, ok := impl.DepthOf(l); depth != plainDepth(v) || !ok {
		t.Errorf("DepthOf(%v) = %d, %v; want %d", l, depth, ok, plainDepth(v))
	}
	text, ok := impl.ValueText(l)
	if len(canon) > 600 {
		if text != "" || ok {
			t.Errorf("ValueText(%v) = %q, %v", l, text, ok)
		}
		return
	}
	if text != canon || !ok {
		t.Errorf("ValueText(%v) = %q, %v; want %q", l, text, ok, canon)
	}
	if back, at, ok := impl.ReadValue(text); !slices.Equal(back, l) || at != 0 || !ok {
		t.Errorf("ReadValue(%q) = %v, %d, %v; want %v", text, back, at, ok, l)
	}
}

// refuseValue checks that every function refuses the nodes.
func refuseValue(t *testing.T, l []impl.Node) {
	t.Helper()
	if impl.GoodValue(l) {
		t.Errorf("GoodValue(%v) = true", l)
	}
	if n, ok := impl.DepthOf(l); n != 0 || ok {
		t.Errorf("DepthOf(%v) = %d, %v", l, n, ok)
	}
	if s, ok := impl.ValueText(l); s != "" || ok {
		t.Errorf("ValueText(%v) = %q, %v", l, s, ok)
	}
	for _, key := range []string{"", "a", "b"} {
		if f, ok := impl.FieldOf(l, key); len(f) != 0 || ok {
			t.Errorf("FieldOf(%v, %q) = %v, %v", l, key, f, ok)
		}
		refuseField(t, l, key, oneNode(kindNode(impl.KdNull)))
		refuseField(t, oneNode(recordNode(0)), key, l)
	}
}

func refuseField(t *testing.T, l []impl.Node, key string, v []impl.Node) {
	t.Helper()
	if w, ok := impl.WithField(l, key, v); len(w) != 0 || ok {
		t.Errorf("WithField(%v, %q, %v) = %v, %v", l, key, v, w, ok)
	}
}

// plainIsValue follows the definition of a value, with a stack of the nodes
// whose children are not yet complete.
func plainIsValue(l []impl.Node) bool {
	type parent struct {
		record bool
		left   int
		keys   []string
	}
	var open []parent
	for i, n := range l {
		if i > 0 && len(open) == 0 || len(open) == 6 || i == 40 {
			return false
		}
		inRecord := false
		if len(open) > 0 {
			p := &open[len(open)-1]
			p.left--
			if inRecord = p.record; inRecord {
				p.keys = append(p.keys, n.Key)
				if many := len(p.keys); many > 1 && slices.Compare(utf16.Encode([]rune(p.keys[many-2])), utf16.Encode([]rune(n.Key))) >= 0 {
					return false
				}
			}
		}
		if !inRecord && n.Key != "" || !plainIsText(n.Key) || !plainIsText(n.Text) {
			return false
		}
		want := impl.Node{Key: n.Key, Kind: n.Kind}
		switch n.Kind {
		case 1, 2, 3:
		case 4:
			want.Num = min(max(n.Num, -9007199254740991), 9007199254740991)
		case 5:
			want.Text = n.Text
		case 6, 7:
			want.Many = max(n.Many, 0)
			open = append(open, parent{record: n.Kind == 7, left: n.Many})
		default:
			return false
		}
		if n != want {
			return false
		}
		for len(open) > 0 && open[len(open)-1].left == 0 {
			open = open[:len(open)-1]
		}
	}
	return len(l) > 0 && len(open) == 0
}

func plainIsText(s string) bool {
	return utf8.ValidString(s) && utf8.RuneCountInString(s) <= 60
}

// growTree makes a tree of at most the given number of nodes and depth.
func growTree(r *rand.Rand, nodes *int, depth int) any {
	*nodes--
	kind := r.Intn(9)
	if depth <= 1 && kind >= 5 {
		kind %= 5
	}
	switch kind {
	case 0:
		return nil
	case 1:
		return r.Intn(2) == 0
	case 2:
		n := []int64{0, 1, -1, 10, -907, impl.MaxWhole, -impl.MaxWhole, impl.MaxWhole - 1, r.Int63n(impl.MaxWhole)}[r.Intn(9)]
		return json.Number(strconv.FormatInt(n, 10))
	case 3, 4:
		return growText(r)
	case 5, 6:
		list := []any{}
		for range r.Intn(6) {
			if *nodes > 0 {
				list = append(list, growTree(r, nodes, depth-1))
			}
		}
		return list
	}
	record := map[string]any{}
	for range r.Intn(6) {
		key := sharedKeys()[r.Intn(len(sharedKeys()))]
		if _, found := record[key]; !found && *nodes > 0 {
			record[key] = growTree(r, nodes, depth-1)
		}
	}
	return record
}

func growText(r *rand.Rand) string {
	pieces := append(sharedKeys(), "\"", "\\", "/", "\b", "\f", "\n", "\r", "\x1f", " ", "u0041", "{}", "\u2028", "\U0010ffff")
	s := ""
	for range r.Intn(7) {
		s += pieces[r.Intn(len(pieces))]
	}
	return s
}

// looseText writes a tree with spaces, escapes and an order of members that
// the canonical text does not have.
func looseText(r *rand.Rand, v any) string {
	space := func() string { return []string{"", "", "", " ", "\t", "\n", "\r", "\r\n "}[r.Intn(8)] }
	var parts []string
	out := ""
	switch v := v.(type) {
	case string:
		out = looseQuoted(r, v)
	case []any:
		for _, child := range v {
			parts = append(parts, looseText(r, child))
		}
		out = "[" + space() + strings.Join(parts, ",") + "]"
	case map[string]any:
		keys := plainKeys(v)
		r.Shuffle(len(keys), func(i, k int) { keys[i], keys[k] = keys[k], keys[i] })
		for _, key := range keys {
			parts = append(parts, space()+looseQuoted(r, key)+space()+":"+looseText(r, v[key]))
		}
		out = "{" + space() + strings.Join(parts, ",") + "}"
	default:
		out = plainCanon(v)
	}
	return space() + out + space()
}

func looseQuoted(r *rand.Rand, s string) string {
	out := `"`
	for _, c := range s {
		switch {
		case c == '/' && r.Intn(2) == 0:
			out += `\/`
		case r.Intn(4) == 0:
			for _, unit := range utf16.Encode([]rune{c}) {
				out += fmt.Sprintf([]string{`\u%04x`, `\u%04X`}[r.Intn(2)], unit)
			}
		case c < 32 || c == '"' || c == '\\':
			quoted := plainQuoted(string(c))
			out += quoted[1 : len(quoted)-1]
		default:
			out += string(c)
		}
	}
	return out + `"`
}

// sampleTrees are trees of at most 40 nodes, most of them with less.
func sampleTrees() []any {
	r := rand.New(rand.NewSource(7))
	var out []any
	for i := range 3000 {
		nodes := 10 + i%31
		out = append(out, growTree(r, &nodes, 6))
	}
	return out
}

// Promise 7.
func TestValuesAndTheirTexts(t *testing.T) {
	r := rand.New(rand.NewSource(19))
	long := 0
	for _, v := range sampleTrees() {
		expectValue(t, v)
		for range 5 {
			text := looseText(r, v)
			if len(text) > 600 {
				long++
				expectFault(t, text, 0)
				continue
			}
			expectNodes(t, text, plainFlat(nil, "", v))
			expectTidy(t, text, plainCanon(v))
		}
	}
	if long == 0 || long > 1000 {
		t.Errorf("%d texts have more than 600 bytes", long)
	}
}

func TestValueExamples(t *testing.T) {
	expectNodes(t, `{"b":1}`, []impl.Node{recordNode(1), keyedNode("b", wholeNode(1))})
	expectFault(t, "[1,]", 3)
	expectTidy(t, ` {"b" :1, "a":[true,null]}`, `{"a":[true,null],"b":1}`)
	expectTidy(t, `"\u00e9\n"`, "\"\xc3\xa9\\n\"")
	expectNodes(t, `{"a":null,"b":1}`, []impl.Node{recordNode(2), keyedNode("a", kindNode(impl.KdNull)), keyedNode("b", wholeNode(1))})
}

func TestSingleNodes(t *testing.T) {
	for text, n := range map[string]impl.Node{
		"null": kindNode(impl.KdNull), "false": kindNode(impl.KdFalse), "true": kindNode(impl.KdTrue),
		"0": wholeNode(0), "1": wholeNode(1), "-1": wholeNode(-1), "10": wholeNode(10), "-100": wholeNode(-100),
		"1000000000000000": wholeNode(1000000000000000), "-1000000000000000": wholeNode(-1000000000000000),
		"9007199254740990": wholeNode(impl.MaxWhole - 1), "-9007199254740990": wholeNode(1 - impl.MaxWhole),
		"9007199254740991": wholeNode(impl.MaxWhole), "-9007199254740991": wholeNode(-impl.MaxWhole),
		`""`: textNode(""), `"a"`: textNode("a"), "[]": listNode(0), "{}": recordNode(0),
	} {
		expectNodes(t, text, oneNode(n))
		if got, ok := impl.ValueText(oneNode(n)); got != text || !ok {
			t.Errorf("ValueText(%v) = %q, %v; want %q", n, got, ok, text)
		}
		if depth, ok := impl.DepthOf(oneNode(n)); depth != 1 || !ok {
			t.Errorf("DepthOf(%v) = %d, %v", n, depth, ok)
		}
	}
}

func TestNumberFaults(t *testing.T) {
	for _, c := range []struct {
		text string
		at   int
	}{
		{"-", 1}, {"--1", 1}, {"+1", 0}, {"- 1", 1}, {"-a", 1}, {".5", 0}, {"1.5", 1}, {"1e5", 1}, {"1E5", 1}, {"0x1", 1}, {"1_0", 1}, {"1-", 1},
		{"-0", 2}, {"[-0]", 3}, {"-0 ", 2}, {"-00", 2}, {"-01", 2}, {"-0.5", 2}, {"-0x", 2},
		{"00", 1}, {"01", 1}, {" 01", 2}, {"[00]", 2}, {"000", 1}, {"1 2", 2}, {"[1 2]", 3}, {"0 0", 2},
		{"9007199254740992", 16}, {"-9007199254740992", 17}, {"[9007199254740992]", 17}, {"9007199254740992 x", 16}, {"9007199254740992x", 16},
		{"9999999999999999", 16}, {"-9999999999999999", 17},
		{"10000000000000000", 16}, {"-10000000000000000", 17}, {"90071992547409910", 16}, {"12345678901234567", 16}, {"[12345678901234567]", 17},
		{"99999999999999999", 16}, {"18446744073709551616", 16}, {"18446744073709551617", 16}, {strings.Repeat("9", 600), 16}, {"-" + strings.Repeat("1", 599), 17},
		{"0000000000000000", 1}, {"00000000000000001", 1}, {"1\x00", 1}, {"\xd9\xa1", 0}, {"1\xd9\xa1", 1}, {"1/", 1}, {"1:", 1}, {"/", 0}, {":", 0},
	} {
		expectFault(t, c.text, c.at)
		expectAsPlain(t, c.text)
	}
}

func TestNumbersOfEveryLength(t *testing.T) {
	for many := 1; many <= 20; many++ {
		// 16 times 8 is below MaxWhole, 16 times 9 above it.
		for digit, most := range map[string]int{"1": 16, "8": 16, "9": 15} {
			for _, sign := range []string{"", "-"} {
				text := sign + strings.Repeat(digit, many)
				if good := expectAsPlain(t, text); good != (many <= most) {
					t.Errorf("%q is accepted: %v", text, good)
				}
			}
		}
	}
}

func TestWordFaults(t *testing.T) {
	for _, word := range []string{"null", "false", "true"} {
		for long := 1; long < len(word); long++ {
			part := word[:long]
			expectFault(t, part, long)
			expectFault(t, " "+part+" ", 1+long)
			expectFault(t, "["+part+"]", 1+long)
			expectFault(t, part+strings.ToUpper(word[long:]), long)
			expectFault(t, part+" "+word[long:], long)
			expectAsPlain(t, part+word[long-1:])
		}
		expectFault(t, word+word, len(word))
		expectFault(t, word+"x", len(word))
		expectFault(t, word+" x", len(word)+1)
		expectFault(t, strings.ToUpper(word), 0)
	}
	expectFault(t, "nulL", 3)
	expectFault(t, "Null", 0)
	expectFault(t, "nan", 1)
	expectFault(t, "undefined", 0)
}

func TestPunctuationFaults(t *testing.T) {
	for _, c := range []struct {
		text string
		at   int
	}{
		{"", 0}, {" ", 1}, {"\t\r\n ", 4}, {"]", 0}, {"}", 0}, {",", 0}, {":", 0}, {"'a'", 0}, {"a", 0}, {"\\", 0}, {"\x00", 0}, {"\xff", 0}, {"#", 0},
		{"[", 1}, {"[ ", 2}, {"[1", 2}, {"[1 ", 3}, {"[1,", 3}, {"[1, ", 4}, {"[[", 2}, {"[[]", 3}, {"[}", 1}, {"[,", 1}, {"[,1]", 1}, {"[1,,2]", 3},
		{"[1 2]", 3}, {"[1}", 2}, {"[1:2]", 2}, {"[1,}", 3}, {"[1, ]", 4}, {"[]]", 2}, {"[] ]", 3}, {"[][]", 2}, {"[],", 2}, {"[1]1", 3}, {"[:", 1},
		{"{", 1}, {"{ ", 2}, {"{]", 1}, {"{,", 1}, {"{,}", 1}, {"{:", 1}, {"{1", 1}, {"{1:1}", 1}, {"{null:1}", 1}, {"{a:1}", 1}, {"{[]:1}", 1}, {"{{}:1}", 1},
		{`{"`, 2}, {`{"a`, 3}, {`{"a"`, 4}, {`{"a" `, 5}, {`{"a"}`, 4}, {`{"a",`, 4}, {`{"a"1`, 4}, {`{"a":`, 5}, {`{"a": `, 6}, {`{"a":}`, 5}, {`{"a":,`, 5},
		{`{"a"::1}`, 5}, {`{"a":1`, 6}, {`{"a":1 `, 7}, {`{"a":1]`, 6}, {`{"a":1:`, 6}, {`{"a":1,`, 7}, {`{"a":1,}`, 7}, {`{"a":1,,`, 7}, {`{"a":1, }`, 8},
		{`{"a":1,1`, 7}, {`{"a":1,"b"`, 10}, {`{"a":1,"b"}`, 10}, {`{"a":1 "b":2}`, 7}, {`{"a":1}}`, 7}, {`{} {}`, 3}, {`{"a":1 2}`, 7},
		{`"a" "b"`, 4}, {`"a"b`, 3}, {`"a":1`, 3}, {`"a",`, 3}, {`[1,2`, 4}, {`[{]`, 2}, {`{"a":[}`, 6}, {`{"a":[1}`, 7}, {`[{"a":1]`, 7}, {`[{"a"]`, 5},
	} {
		expectFault(t, c.text, c.at)
		expectAsPlain(t, c.text)
	}
}

// samplePieces are the tokens of a text with all kinds of nodes.
func samplePieces() []string {
	return []string{
		"{", `"b"`, ":", "[", "1", ",", "-907", ",", "null", ",", "[", "]", "]", ",", `"a"`, ":", "{", "}", ",",
		`""`, ":", "{", `"x"`, ":", "true", ",", `"\u0077"`, ":", "false", ",", "\"\u20ac\"", ":", `"\ud83d\ude00"`, "}", "}",
	}
}

func TestSpacesBetweenTokens(t *testing.T) {
	pieces := samplePieces()
	text, canon := strings.Join(pieces, ""), "{\"\":{\"w\":false,\"x\":true,\"\u20ac\":\"\U0001f600\"},\"a\":{},\"b\":[1,-907,null,[]]}"
	expectTidy(t, text, canon)
	for _, space := range []string{" ", "\t", "\n", "\r", "\r\n", " \t\n\r "} {
		expectTidy(t, space+strings.Join(pieces, space)+space, canon)
		for i := range len(pieces) + 1 {
			expectTidy(t, strings.Join(pieces[:i], "")+space+strings.Join(pieces[i:], ""), canon)
		}
	}
	// What is a space elsewhere is none here.
	for _, other := range []string{"\x00", "\x01", "\b", "\v", "\f", "\x1c", "\x1f", "\x7f", "\x85", "\xa0", "\u00a0", "\u2028", "\u3000", "\ufeff", "/**/", "//\n", "\\n"} {
		for i := range len(pieces) + 1 {
			head := strings.Join(pieces[:i], "")
			expectFault(t, head+other+strings.Join(pieces[i:], ""), len(head))
		}
	}
}

func TestNoSpacesWithinTokens(t *testing.T) {
	for _, c := range []struct {
		text string
		at   int
	}{{"nu ll", 2}, {"t rue", 1}, {"- 1", 1}, {"1 0", 2}, {"fals\ne", 4}, {`"\ n"`, 2}, {`"\u 0041"`, 3}, {`"\u00 41"`, 5}, {"\"\n\"", 1}, {"\"\t\"", 1}, {"\"\r\"", 1}} {
		expectFault(t, c.text, c.at)
	}
	expectNodes(t, `" a b "`, oneNode(textNode(" a b ")))
}

// A text that ends too early has its fault at its length.
func TestEveryEarlyEnd(t *testing.T) {
	for _, text := range []string{
		strings.Join(samplePieces(), ""), strings.Join(samplePieces(), " "), `"\"\\\/\b\f\n\r\t\u00e9\uD83D\uDE00"`, `[[[[[[]]]]]]`,
		`{"a":{"b":{"c":{"d":{"e":null}}}}}`, `[-9007199254740991]`, `[ true , false , null ]`,
	} {
		for long := range len(text) {
			part := text[:long]
			if utf8.ValidString(part) {
				expectFault(t, part, long)
			}
			expectAsPlain(t, part)
		}
		if !expectAsPlain(t, text) {
			t.Errorf("%q is refused", text)
		}
	}
}

func TestEscapes(t *testing.T) {
	for escape, want := range map[string]string{
		`\"`: "\"", `\\`: "\\", `\/`: "/", `\b`: "\b", `\f`: "\f", `\n`: "\n", `\r`: "\r", `\t`: "\t",
		`\u0022`: "\"", `\u005c`: "\\", `\u002F`: "/", `\u0008`: "\b", `\u000c`: "\f", `\u000A`: "\n", `\u000d`: "\r", `\u0009`: "\t",
		`\u0000`: "\x00", `\u001F`: "\x1f", `\u0020`: " ", `\u0041`: "A", `\u007f`: "\x7f", `\u0080`: "\u0080", `\u00e9`: "\u00e9", `\u00E9`: "\u00e9",
		`\u07ff`: "\u07ff", `\u0800`: "\u0800", `\u20aC`: "\u20ac", `\ud7ff`: "\ud7ff", `\ue000`: "\ue000", `\ufffd`: "\ufffd", `\uFFFF`: "\uffff",
		`\ud800\udc00`: "\U00010000", `\uD83d\uDe00`: "\U0001f600", `\uDBFF\uDFFF`: "\U0010ffff", `\ud800\udfff`: "\U000103ff", `\udbff\udc00`: "\U0010fc00",
		`\u00e9\u0301`: "\u00e9\u0301", `\\u0041`: `\u0041`, `\\\u0041`: `\A`, `\u005cu0041`: `\u0041`, `\\ud800`: `\ud800`, `\u00410`: "A0",
		"\x7f": "\x7f", "\u2028": "\u2028", "\u00e9": "\u00e9", "\U0010ffff": "\U0010ffff", "\ufffd": "\ufffd", "/": "/", "'": "'",
	} {
		expectNodes(t, `"`+escape+`"`, oneNode(textNode(want)))
		expectNodes(t, `"a`+escape+`b"`, oneNode(textNode("a"+want+"b")))
		expectNodes(t, `{"`+escape+`":[]}`, []impl.Node{recordNode(1), keyedNode(want, listNode(0))})
		expectTidy(t, `"`+escape+`"`, plainQuoted(want))
		expectTidy(t, `{"`+escape+`":[]}`, "{"+plainQuoted(want)+":[]}")
	}
}

func TestCanonicalStrings(t *testing.T) {
	for want, s := range map[string]string{
		`"\u0000"`: "\x00", `"\u0001"`: "\x01", `"\u0007"`: "\a", `"\b"`: "\b", `"\t"`: "\t", `"\n"`: "\n", `"\u000b"`: "\v", `"\f"`: "\f", `"\r"`: "\r",
		`"\u000e"`: "\x0e", `"\u000f"`: "\x0f", `"\u0010"`: "\x10", `"\u001a"`: "\x1a", `"\u001f"`: "\x1f", `" "`: " ", "\"\x7f\"": "\x7f", `"/"`: "/",
		`"\""`: "\"", `"\\"`: "\\", `"\\u0041"`: `\u0041`, "\"\u00e9\u2028\U0010ffff\"": "\u00e9\u2028\U0010ffff", `"<>&'"`: "<>&'",
	} {
		if got, ok := impl.ValueText(oneNode(textNode(s))); got != want || !ok {
			t.Errorf("ValueText of the string %q = %q, %v; want %q", s, got, ok, want)
		}
		if got, ok := impl.ValueText([]impl.Node{recordNode(1), keyedNode(s, wholeNode(0))}); got != "{"+want+":0}" || !ok {
			t.Errorf("ValueText of the Key %q = %q, %v; want %q", s, got, ok, "{"+want+":0}")
		}
		expectNodes(t, want, oneNode(textNode(s)))
	}
}

// Every byte in a string, behind a backslash, and among the digits behind \u.
func TestEveryByteInAString(t *testing.T) {
	for b := range 256 {
		c := string([]byte{byte(b)})
		digit := strings.Contains("0123456789abcdefABCDEF", c)
		for _, text := range []string{`"a` + c + `b"`, `{"a` + c + `b":1}`, `"` + c, `"` + c + `"`} {
			expectAsPlain(t, text)
		}
		switch {
		case b < 32 || b > 127:
			expectFault(t, `"a`+c+`b"`, 2)
			expectFault(t, `{"a`+c+`b":1}`, 3)
		case c != `"` && c != `\`:
			expectNodes(t, `"a`+c+`b"`, oneNode(textNode("a"+c+"b")))
		}
		if !strings.Contains(`"\/bfnrtu`, c) {
			expectFault(t, `"a\`+c+`b"`, 3)
		}
		expectAsPlain(t, `"a\`+c+`b"`)
		for place := range 4 {
			text := `"\u` + "0041"[:place] + c + "0041"[place+1:] + `"`
			if !digit {
				expectFault(t, text, 3+place)
			}
			expectAsPlain(t, text)
		}
	}
}

// The fault of an unpaired surrogate is at the closing quote.
func TestUnpairedSurrogates(t *testing.T) {
	for _, s := range []string{
		`\ud800`, `\uD83D`, `\udbff`, `\udc00`, `\uDE00`, `\udfff`, `\ude00\ud83d`, `\ud83d\ud83d`, `\ude00\ude00`, `\ud83d\ud83d\ude00`, `\ud83d\ude00\ude00`,
		`\ud83d\ude00\ud83d`, `\ud83da`, `a\ude00`, `\ud83d\u0041`, `\ud83d\n`, `\ud83d\\ude00`, `\ud83d \ude00`, "\\ud83d\U0001f600", "\U0001f600\\ude00",
		"\\ud83d\U0001f600\\ude00", `\ud83d\ue000`, `\ud83d\udbff`, `\ud7ff\udc00`, `\ue000\udc00`, strings.Repeat(`\ud800`, 90), strings.Repeat("a", 61) + `\ud800`,
	} {
		expectFault(t, `"`+s+`"`, len(s)+1)
		expectFault(t, `[ "`+s+`",`, len(s)+3)
		expectFault(t, `{"`+s+`":1}`, len(s)+2)
		expectFault(t, `{"a":"`+s+`"}`, len(s)+6)
		// A fault ahead of the closing quote is met first.
		expectFault(t, `"`+s, len(s)+1)
		expectFault(t, `"`+s+`\`, len(s)+2)
		expectFault(t, `"`+s+`\x"`, len(s)+2)
		expectFault(t, `"`+s+"\x1f\"", len(s)+1)
		expectFault(t, `"`+s+"b\xff\"", len(s)+2)
		expectAsPlain(t, `"`+s+`"`)
	}
}

func TestBytesThatAreNoRune(t *testing.T) {
	for name, s := range faultyTexts() {
		t.Run(name, func(t *testing.T) {
			for _, c := range []struct{ head, tail string }{{`"`, `"`}, {`"ab`, `c"`}, {"\"\u20ac\U0001f600", `"`}, {`{"`, `":1}`}, {`{"a":1,"b`, `":1}`}, {`[1,"\n`, `"]`}, {`"`, ""}, {`"ab`, ""}} {
				expectFault(t, c.head+s+c.tail, len(c.head))
				expectAsPlain(t, c.head+s+c.tail)
			}
			refuseValue(t, oneNode(textNode(s)))
			refuseValue(t, oneNode(textNode("a"+s)))
			refuseValue(t, []impl.Node{recordNode(1), keyedNode(s, wholeNode(1))})
		})
	}
}

func TestRunesOfAString(t *testing.T) {
	for _, c := range []string{"a", "\u00e9", "\u20ac", "\U0001f600", `\n`, `\/`, `\u0041`} {
		full := strings.Repeat(c, 60)
		var want string
		if err := json.Unmarshal([]byte(`"`+full+`"`), &want); err != nil {
			t.Fatal(err)
		}
		expectNodes(t, `"`+full+`"`, oneNode(textNode(want)))
		expectNodes(t, `{"`+full+`":0}`, []impl.Node{recordNode(1), keyedNode(want, wholeNode(0))})
		for _, more := range []string{full + "a", full + c, "a" + full, full + `\n`} {
			expectFault(t, `"`+more+`"`, len(more)+1)
			expectFault(t, `{"`+more+`":0}`, len(more)+2)
			expectFault(t, `[1,"`+more+`" x`, len(more)+4)
			expectFault(t, `"`+more+"\x00\"", len(more)+1)
			expectFault(t, `"`+more+"\xe2\x82\"", len(more)+1)
			expectFault(t, `"`+more, len(more)+1)
			expectAsPlain(t, `"`+more+`"`)
		}
		refuseValue(t, oneNode(textNode(want+"a")))
		refuseValue(t, []impl.Node{recordNode(1), keyedNode(want+"a", wholeNode(0))})
	}
	// 49 pairs are 588 bytes; a pair is one rune.
	expectNodes(t, `"`+strings.Repeat(`\ud83d\ude00`, 49)+`aaaaaaaaaa"`, oneNode(textNode(strings.Repeat("\U0001f600", 49)+"aaaaaaaaaa")))
	expectNodes(t, `"`+strings.Repeat("\U0001f600", 59)+`\ud83d\ude00"`, oneNode(textNode(strings.Repeat("\U0001f600", 60))))
	expectFault(t, `"`+strings.Repeat("a", 598)+`"`, 599)
	expectFault(t, `"`+strings.Repeat("a", 599), 600)
}

func TestRepeatedKeys(t *testing.T) {
	for _, c := range []struct {
		text string
		at   int
	}{
		{`{"a":1,"a":2}`, 9}, {`{"a":1,"a"`, 9}, {`{"a":1,"a"x`, 9}, {`{"":1,"":1}`, 7}, {`{"a":1,"b":2,"a":3}`, 15}, {`{"b":1,"a":2, "a" :3}`, 16},
		{`{"a":1,"\u0061":2}`, 14}, {`{"\u0061":1,"a":2}`, 14}, {`{"\/":1,"/":2}`, 10}, {`{"\n":1,"\u000A":2}`, 15},
		{"{\"\U0001f600\":1,\"\\ud83d\\ude00\":2}", 23}, {`[{"a":{"a":1}},{"a":[{"a":1,"a":1}]}]`, 30}, {`{"a":{},"b":{"a":1,"b":2,"b":3}}`, 27},
		{`{"a":{"a":1},"a":2}`, 15}, {`{"a":1,"a\x"`, 10}, {`{"a":1,"a`, 9},
	} {
		expectFault(t, c.text, c.at)
		expectAsPlain(t, c.text)
	}
	expectTidy(t, `[{"a":1},{"a":{"a":{"a":1}}}]`, `[{"a":1},{"a":{"a":{"a":1}}}]`)
	expectTidy(t, `{"aa":1,"a":2,"":3,"A":4}`, `{"":3,"A":4,"a":2,"aa":1}`)
	// Equal only after a normalization that is not asked for.
	expectTidy(t, "{\"e\u0301\":1,\"\u00e9\":2}", "{\"e\u0301\":1,\"\u00e9\":2}")
}

func TestKeyOrder(t *testing.T) {
	keys := sharedKeys()
	if slices.IsSorted(keys) {
		t.Fatal("the order by UTF-16 code units is the bytewise order")
	}
	for i, a := range keys {
		for k, b := range keys {
			l := []impl.Node{recordNode(2), keyedNode(a, wholeNode(1)), keyedNode(b, wholeNode(2))}
			if i >= k {
				refuseValue(t, l)
				continue
			}
			canon := "{" + plainQuoted(a) + ":1," + plainQuoted(b) + ":2}"
			expectNodes(t, canon, l)
			expectNodes(t, "{"+plainQuoted(b)+":2,"+plainQuoted(a)+":1}", l)
			expectTidy(t, "{"+plainQuoted(b)+":2,"+plainQuoted(a)+":1}", canon)
		}
	}
	expectNodes(t, "{\"\uffff\":1,\"\U0001f600\":2}", []impl.Node{recordNode(2), keyedNode("\U0001f600", wholeNode(2)), keyedNode("\uffff", wholeNode(1))})
	r := rand.New(rand.NewSource(3))
	all := []impl.Node{recordNode(len(keys))}
	for _, key := range keys {
		all = append(all, keyedNode(key, textNode(key)))
	}
	for range 200 {
		var members []string
		for _, i := range r.Perm(len(keys)) {
			members = append(members, looseQuoted(r, keys[i])+":"+looseQuoted(r, keys[i]))
		}
		expectNodes(t, "{"+strings.Join(members, ",")+"}", all)
	}
}

// opened are the beginnings of a text of the given depth: lists, objects, and
// both in turn.
func opened(depth int) []string {
	return []string{
		strings.Repeat("[", depth), strings.Repeat(`{"a":`, depth-1) + "{", strings.Repeat(" [ ", depth),
		strings.Repeat(`[{"":`, depth/2) + strings.Repeat("[", depth%2),
	}
}

func TestDepthOfTexts(t *testing.T) {
	for _, c := range []struct {
		text  string
		depth int
	}{
		{"1", 1}, {"[]", 1}, {"{}", 1}, {"[1]", 2}, {`{"a":1}`, 2}, {"[[]]", 2}, {`{"a":{}}`, 2}, {`{"a":null,"b":1}`, 2}, {"[1,[2],3]", 3}, {"[[[1]],2]", 4}, {"[2,[[1]]]", 4},
		{"[[[[[1]]]]]", 6}, {"[[[[[[]]]]]]", 6}, {"[[[[[{}]]]]]", 6}, {`{"a":{"a":{"a":{"a":{"a":{}}}}}}`, 6}, {`{"a":{"a":{"a":{"a":{"a":"x"}}}}}`, 6},
		{`[{"a":[{"a":[1]},{}]}]`, 6}, {"[[[[[ [ ] ]]]]]", 6}, {"[[[[[1,2],[3]]],[[[]]]]]", 6},
	} {
		l, at, ok := impl.ReadValue(c.text)
		if at != 0 || !ok {
			t.Errorf("ReadValue(%q) has a fault at %d", c.text, at)
		}
		if depth, ok := impl.DepthOf(l); depth != c.depth || !ok {
			t.Errorf("DepthOf of %q = %d, %v; want %d", c.text, depth, ok, c.depth)
		}
		expectAsPlain(t, c.text)
	}
}

// What is nested too deep has its fault where it begins, whatever follows.
func TestTooDeep(t *testing.T) {
	for _, value := range []string{"1", "-0", "-", "null", "nulx", `"a"`, `"\x"`, `"`, "[", "[]", "{", "{}", "{1", "]x", "}", ",", "x", "\xff", "\x00"} {
		for _, head := range []string{"[[[[[[", "[[[[[[ \n", `{"a":{"a":{"a":{"a":{"a":{"a":`, `[{"":[{"":[{"":`, `{"":[{"":[{"":[`, "[[[[[[],[", `[[[[[{"a": `} {
			if strings.HasPrefix(value, "]") && !strings.HasSuffix(head, ":") {
				continue
			}
			expectFault(t, head+value, len(head))
		}
	}
	expectFault(t, "[[[[[[", 6)
	expectFault(t, "[[[[[[ ", 7)
	expectFault(t, "[[[[[[[]]]]]]]", 6)
	expectFault(t, "[[[[[[1]]]]]]", 6)
	expectFault(t, `[[[[[{"a":1}]]]]]`, 10)
	expectFault(t, `[[[[[{"a"1}]]]]]`, 9)
	expectFault(t, `[[[[[{1}]]]]]`, 6)
	expectFault(t, strings.Repeat("[", 600), 6)
	for depth := 1; depth <= 8; depth++ {
		for _, head := range opened(depth) {
			for _, tail := range []string{"", "1", "]", "}", " ] ", `"a":1`, `"a"`, "null"} {
				expectAsPlain(t, head+tail)
			}
		}
	}
}

// manyNodes are texts of the given number of nodes, from 2 on.
func manyNodes(many int) []string {
	members := make([]string, many-1)
	for i := range members {
		members[i] = fmt.Sprintf(`"%d":%d`, i, i)
	}
	out := []string{
		"[1" + strings.Repeat(",1", many-2) + "]", "[[]" + strings.Repeat(",{}", many-2) + "]", "{" + strings.Join(members, ",") + "}",
		`{"":[` + strings.TrimSuffix(strings.Repeat(`"",`, many-2), ",") + "]}",
	}
	return out
}

func TestNumberOfNodes(t *testing.T) {
	for many := 2; many <= 43; many++ {
		for _, text := range manyNodes(many) {
			l := plainFlat(nil, "", plainTree(t, text))
			if len(l) != many {
				t.Fatalf("%q has %d nodes", text, len(l))
			}
			if many <= 40 {
				expectNodes(t, text, l)
				expectValue(t, plainTree(t, text))
				continue
			}
			expectFault(t, text, len(text))
			expectFault(t, text+" ", len(text)+1)
			// Another fault is met first.
			expectFault(t, text[:len(text)-1], len(text)-1)
			expectFault(t, text+"x", len(text))
			expectFault(t, text+" ]", len(text)+1)
			expectFault(t, "["+text+",-0]", len(text)+4)
			refuseValue(t, l)
		}
	}
	expectFault(t, "["+strings.Repeat("1,", 298)+"1]", 599)
	expectFault(t, "["+strings.Repeat("1,", 299)+"]", 599)
	expectFault(t, "["+strings.Repeat("[],", 100)+"1]", 303)
	refuseValue(t, nil)
	refuseValue(t, []impl.Node{})
}

func TestLengthOfTexts(t *testing.T) {
	for _, text := range []string{"1", `{"a":[1,2]}`, `"` + strings.Repeat("\U0001f600", 60) + `"`} {
		v := plainTree(t, text)
		spaces := strings.Repeat(" ", 600-len(text))
		for _, full := range []string{spaces + text, text + spaces, spaces[:7] + text + spaces[7:]} {
			expectNodes(t, full, plainFlat(nil, "", v))
			expectTidy(t, full, plainCanon(v))
			expectFault(t, full+" ", 0)
			expectFault(t, " "+full, 0)
			expectAsPlain(t, full[:599]+"x")
		}
	}
	for _, long := range []int{599, 600} {
		expectFault(t, strings.Repeat(" ", long), long)
		expectFault(t, strings.Repeat(" ", long-1)+"x", long-1)
		expectFault(t, strings.Repeat("x", long), 0)
	}
	for _, long := range []int{601, 602, 856, 1200, 1 << 16, 1<<16 + 1} {
		for _, c := range []string{" ", "x", "[", "1", "\"", "\xff"} {
			expectFault(t, strings.Repeat(c, long), 0)
			expectFault(t, "[1,"+strings.Repeat(c, long-3), 0)
		}
	}
}

// growTexts compares all texts of at most the given number of pieces with plain
// methods. It goes one piece beyond a fault, because no other is looked at.
func growTexts(t *testing.T, text string, pieces []string, left int) int {
	t.Helper()
	accepted := 0
	if expectAsPlain(t, text) {
		accepted++
	}
	at := plainFault(text)
	if left == 0 || t.Failed() || at >= 0 && at < len(text) {
		return accepted
	}
	for _, piece := range pieces {
		accepted += growTexts(t, text+piece, pieces, left-1)
	}
	return accepted
}

func TestEveryShortText(t *testing.T) {
	pieces := []string{"[", "]", "{", "}", ",", ":", `""`, `"a"`, "0", "-", "7", " ", "true", "\xff"}
	if accepted := growTexts(t, "", pieces, 6); accepted < 1000 {
		t.Errorf("only %d texts are accepted", accepted)
	}
	if accepted := growTexts(t, `{"a":[`, pieces, 5); accepted < 100 {
		t.Errorf("only %d texts are accepted", accepted)
	}
}

func TestEveryShortString(t *testing.T) {
	pieces := []string{`"`, `\`, "u", "n", "/", "d83d", "DE00", "00e9", "a", `\ud83d`, `\uDe00`, "\u20ac", "\xe2", "\x82\xac", "\U0001f600", "\x1f", "x"}
	for _, head := range []string{`"`, `{"`} {
		if accepted := growTexts(t, head, pieces, 4); accepted < 300 && head == `"` {
			t.Errorf("only %d strings are accepted", accepted)
		}
	}
	growTexts(t, `{"a":1,"`, []string{`"`, "a", `\u0061`, "b", ":", "1", "}", ","}, 6)
}

// Texts in which one byte is left out, replaced or inserted.
func TestChangedTexts(t *testing.T) {
	r := rand.New(rand.NewSource(11))
	bytes := []string{"", "[", "]", "{", "}", ",", ":", `"`, `\`, "/", "u", "b", "0", "9", "-", " ", "\n", "d", "E", ".", "\x00", "\x1f", "\x7f", "\x80", "\xe2", "\xf0", "\xff", `"a"`, "null"}
	for i, v := range sampleTrees() {
		text := looseText(r, v)
		if i%20 != 0 || len(text) > 150 {
			continue
		}
		for at := range len(text) + 1 {
			for _, c := range bytes {
				expectAsPlain(t, text[:at]+c+text[at:])
				if at < len(text) {
					expectAsPlain(t, text[:at]+c+text[at+1:])
				}
			}
		}
	}
}

func TestLengthOfCanonicalTexts(t *testing.T) {
	// Nine strings of 60 runes, and one that fills the text.
	full := []any{}
	for range 9 {
		full = append(full, strings.Repeat("a", 60))
	}
	for long, last := range map[int]string{599: strings.Repeat("a", 28), 600: strings.Repeat("a", 29), 601: strings.Repeat("a", 30)} {
		v := append(slices.Clone(full), last)
		if len(plainCanon(v)) != long {
			t.Fatalf("%d bytes instead of %d", len(plainCanon(v)), long)
		}
		expectValue(t, v)
	}
	for _, s := range []string{strings.Repeat("\x01", 60), strings.Repeat("\U0001f600", 60), strings.Repeat(`"`, 60)} {
		for many := range 40 {
			list := make([]any, many)
			record := map[string]any{}
			for i := range list {
				list[i] = s
				record[s[:len(s)-8]+strconv.Itoa(10+i)] = s
			}
			expectValue(t, list)
			expectValue(t, record)
		}
	}
	expectValue(t, strings.Repeat("\x01", 60))
}

func TestNodesThatAreNoValue(t *testing.T) {
	null, one, empty := kindNode(impl.KdNull), wholeNode(1), listNode(0)
	for _, l := range [][]impl.Node{
		{kindNode(0)}, {kindNode(8)}, {kindNode(-1)}, {kindNode(1<<32 + 1)}, {kindNode(math.MinInt)}, {kindNode(math.MaxInt)}, {listNode(1), kindNode(0)},
		{wholeNode(impl.MaxWhole + 1)}, {wholeNode(-impl.MaxWhole - 1)}, {wholeNode(math.MaxInt)}, {wholeNode(math.MinInt)},
		{null, null}, {one, one}, {empty, null}, {recordNode(0), keyedNode("a", null)}, {textNode("a"), textNode("")}, {listNode(1), null, null},
		{listNode(1)}, {listNode(2), null}, {recordNode(1)}, {recordNode(2), keyedNode("a", null)}, {listNode(1), listNode(1)}, {listNode(2), listNode(1), null},
		{listNode(-1)}, {recordNode(-1)}, {listNode(-1), null}, {listNode(math.MaxInt)}, {listNode(math.MinInt)}, {recordNode(math.MaxInt), keyedNode("a", null)},
		{listNode(1 << 32)}, {listNode(1<<32 + 1), null}, {keyedNode("a", null)}, {keyedNode("a", empty)}, {keyedNode("a", recordNode(0))},
		{listNode(1), keyedNode("a", null)}, {listNode(2), null, keyedNode("a", null)}, {recordNode(1), keyedNode("a", listNode(1)), keyedNode("b", null)},
		{recordNode(2), keyedNode("a", null), keyedNode("a", one)}, {recordNode(2), keyedNode("b", null), keyedNode("a", one)}, {recordNode(2), null, null},
		{recordNode(2), keyedNode("a", null), null}, {recordNode(3), null, keyedNode("b", null), keyedNode("a", null)},
		{listNode(2), recordNode(1), keyedNode("a", null), keyedNode("b", null)}, {listNode(1), recordNode(2), keyedNode("a", null), null},
		slices.Repeat(oneNode(null), 41), slices.Repeat(oneNode(null), 5000), slices.Repeat(oneNode(listNode(1)), 40), slices.Repeat(oneNode(listNode(2)), 5000),
	} {
		if plainIsValue(l) {
			t.Fatalf("%v is a value", l)
		}
		refuseValue(t, l)
	}
}

// expectGood compares what is said of nodes that may be no value with
// plainIsValue.
func expectGood(t *testing.T, l []impl.Node) bool {
	t.Helper()
	if !plainIsValue(l) {
		refuseValue(t, l)
		return false
	}
	if !impl.GoodValue(l) {
		t.Errorf("GoodValue(%v) = false", l)
	}
	if depth, ok := impl.DepthOf(l); depth < 1 || depth > 6 || !ok {
		t.Errorf("DepthOf(%v) = %d, %v", l, depth, ok)
	}
	if text, ok := impl.ValueText(l); ok {
		expectNodes(t, text, l)
	}
	return true
}

// Each Kind with each other field in use, alone and as a child.
func TestFieldsOfEveryKind(t *testing.T) {
	good := 0
	for kind := -1; kind <= 9; kind++ {
		for _, num := range []int{0, 1, -1, impl.MaxWhole, -impl.MaxWhole, impl.MaxWhole + 1, -impl.MaxWhole - 1, math.MaxInt, math.MinInt} {
			for _, text := range []string{"", "a", "\xff", strings.Repeat("\u00e9", 60), strings.Repeat("a", 61)} {
				for _, many := range []int{0, 1, -1, 2, math.MaxInt, math.MinInt} {
					for _, key := range []string{"", "a", "\xff", strings.Repeat("\u00e9", 60), strings.Repeat("a", 61)} {
						n := impl.Node{Key: key, Kind: kind, Num: num, Text: text, Many: many}
						for _, l := range [][]impl.Node{{n}, {n, kindNode(impl.KdNull)}, {n, keyedNode("a", kindNode(impl.KdNull))}, {listNode(1), n}, {recordNode(1), n}} {
							if expectGood(t, l) {
								good++
							}
						}
					}
				}
			}
		}
	}
	// 3 literals, 5 numbers, 3 strings and 2 that have no children: each alone
	// and in a list with the empty Key, in an object with three Keys. Then a
	// list with a child, and an object with a child of either Key.
	if want := (3+5+3+2)*(1+1+3) + 3; good != want {
		t.Errorf("%d lists of nodes are values; want %d", good, want)
	}
}

// Nodes of which one field is changed, and lists in which one node is left
// out, repeated or exchanged with the next one.
func TestChangedNodes(t *testing.T) {
	changes := []func(*impl.Node){func(n *impl.Node) { n.Key = "" }, func(n *impl.Node) { n.Key = "\uffff\uffff" }, func(n *impl.Node) { n.Key += "b" }, func(n *impl.Node) { n.Key += "\x80" }}
	for _, by := range []int{-1, 1, 2, 1 << 32} {
		changes = append(changes, func(n *impl.Node) { n.Kind += by }, func(n *impl.Node) { n.Num += by }, func(n *impl.Node) { n.Many += by })
	}
	changes = append(changes, func(n *impl.Node) { n.Text += "a" }, func(n *impl.Node) { n.Text = "" }, func(n *impl.Node) { n.Text += "\xc3" }, func(n *impl.Node) { n.Num = math.MinInt })
	good, bad := 0, 0
	count := func(is bool) {
		if is {
			good++
		} else {
			bad++
		}
	}
	for i, v := range sampleTrees() {
		if i%10 != 0 {
			continue
		}
		l := plainFlat(nil, "", v)
		for at := range l {
			for _, change := range changes {
				changed := slices.Clone(l)
				change(&changed[at])
				count(expectGood(t, changed))
			}
			count(expectGood(t, slices.Delete(slices.Clone(l), at, at+1)))
			count(expectGood(t, slices.Insert(slices.Clone(l), at, l[at])))
			if at+1 < len(l) {
				changed := slices.Clone(l)
				changed[at], changed[at+1] = changed[at+1], changed[at]
				count(expectGood(t, changed))
			}
		}
	}
	if good < 1000 || bad < 1000 {
		t.Errorf("%d lists of nodes are values, %d are not", good, bad)
	}
}

func TestDepthOfNodes(t *testing.T) {
	for depth := 1; depth <= 40; depth++ {
		for _, wrap := range []func(any) any{
			func(v any) any { return []any{v} },
			func(v any) any { return map[string]any{"a": v} },
			func(v any) any { return []any{nil, map[string]any{}, v} },
			func(v any) any { return map[string]any{"": nil, "a": v, "b": []any{}} },
		} {
			for _, inner := range []any{nil, "a", []any{}, map[string]any{}} {
				v := inner
				for range depth - 1 {
					v = wrap(v)
				}
				if depth <= 6 {
					expectValue(t, v)
				} else {
					refuseValue(t, plainFlat(nil, "", v))
				}
			}
		}
	}
}

func expectField(t *testing.T, l []impl.Node, key string, want []impl.Node, ok bool) {
	t.Helper()
	if got, is := impl.FieldOf(l, key); !slices.Equal(got, want) || is != ok {
		t.Errorf("FieldOf(%v, %q) = %v, %v; want %v, %v", l, key, got, is, want, ok)
	}
}

func expectWith(t *testing.T, l []impl.Node, key string, v []impl.Node, want []impl.Node) {
	t.Helper()
	if got, ok := impl.WithField(l, key, v); !slices.Equal(got, want) || !ok {
		t.Errorf("WithField(%v, %q, %v) = %v, %v; want %v", l, key, v, got, ok, want)
	}
}

func TestFieldOf(t *testing.T) {
	l := plainFlat(nil, "", plainTree(t, `{"":[],"a":[1,{"c":2,"x":3}],"b":{"a":4,"d":{"e":5}},"c":"t","d":null,"\ud83d\ude00":{},"\ue000":-1}`))
	for key, want := range map[string]string{
		"": "[]", "a": `[1,{"c":2,"x":3}]`, "b": `{"a":4,"d":{"e":5}}`, "c": `"t"`, "d": "null", "\U0001f600": "{}", "\ue000": "-1",
	} {
		expectField(t, l, key, plainFlat(nil, "", plainTree(t, want)), true)
	}
	for _, key := range []string{"e", "x", "A", "aa", "a\x00", "\x00", "\uffff", "\U0010ffff", "\xff", "\xc3", "a\x80", strings.Repeat("a", 60), strings.Repeat("a", 61), strings.Repeat("a", 5000)} {
		expectField(t, l, key, nil, false)
	}
	for _, text := range []string{"{}", "[]", "1", "null", `"a"`, `["a"]`, `[{"a":1}]`, `{"b":{"a":1}}`, "true"} {
		expectField(t, plainFlat(nil, "", plainTree(t, text)), "a", nil, false)
		expectField(t, plainFlat(nil, "", plainTree(t, text)), "", nil, false)
	}
	full := strings.Repeat("\U0001f600", 60)
	expectField(t, []impl.Node{recordNode(1), keyedNode(full, listNode(0))}, full, oneNode(listNode(0)), true)
}

func TestWithFieldAtEveryPlace(t *testing.T) {
	l := plainFlat(nil, "", plainTree(t, `{"b":1,"d":[2,{"b":3}],"f":{"b":4}}`))
	for key, want := range map[string]string{
		"a": `{"a":%s,"b":1,"d":[2,{"b":3}],"f":{"b":4}}`, "b": `{"b":%s,"d":[2,{"b":3}],"f":{"b":4}}`, "c": `{"b":1,"c":%s,"d":[2,{"b":3}],"f":{"b":4}}`,
		"d": `{"b":1,"d":%s,"f":{"b":4}}`, "e": `{"b":1,"d":[2,{"b":3}],"e":%s,"f":{"b":4}}`, "f": `{"b":1,"d":[2,{"b":3}],"f":%s}`,
		"g": `{"b":1,"d":[2,{"b":3}],"f":{"b":4},"g":%s}`, "": `{"":%s,"b":1,"d":[2,{"b":3}],"f":{"b":4}}`,
	} {
		for _, part := range []string{"null", "7", `"x"`, "[]", "{}", `[1,[2]]`, `{"b":{"b":5}}`} {
			v := plainFlat(nil, "", plainTree(t, part))
			whole := plainFlat(nil, "", plainTree(t, fmt.Sprintf(want, part)))
			expectWith(t, l, key, v, whole)
			expectField(t, whole, key, v, true)
		}
	}
	expectWith(t, oneNode(recordNode(0)), "", oneNode(textNode("")), []impl.Node{recordNode(1), textNode("")})
	expectWith(t, []impl.Node{recordNode(1), keyedNode("\ue000", wholeNode(1))}, "\U00010000", oneNode(wholeNode(2)),
		[]impl.Node{recordNode(2), keyedNode("\U00010000", wholeNode(2)), keyedNode("\ue000", wholeNode(1))})
	full := strings.Repeat("\u20ac", 60)
	expectWith(t, oneNode(recordNode(0)), full, oneNode(listNode(0)), []impl.Node{recordNode(1), keyedNode(full, listNode(0))})
}

// Fields of sample trees, and sample trees with fields of each other.
func TestFieldsOfSamples(t *testing.T) {
	trees := sampleTrees()
	set, refused := 0, 0
	for i, v := range trees {
		l := plainFlat(nil, "", v)
		record, is := v.(map[string]any)
		part := trees[(7*i+1)%len(trees)]
		for _, key := range sharedKeys() {
			old, found := record[key]
			if found {
				expectField(t, l, key, plainFlat(nil, "", old), true)
			} else {
				expectField(t, l, key, nil, false)
			}
			if !is {
				refuseField(t, l, key, plainFlat(nil, "", part))
				continue
			}
			changed := maps.Clone(record)
			changed[key] = part
			if want := plainFlat(nil, "", changed); plainIsValue(want) {
				set++
				expectWith(t, l, key, plainFlat(nil, "", part), want)
			} else {
				refused++
				refuseField(t, l, key, plainFlat(nil, "", part))
			}
		}
	}
	if set < 1000 || refused < 100 {
		t.Errorf("%d fields are set and %d refused", set, refused)
	}
}

func TestWithFieldRefuses(t *testing.T) {
	record, null := []impl.Node{recordNode(1), keyedNode("b", wholeNode(1))}, oneNode(kindNode(impl.KdNull))
	for _, key := range []string{"\xff", "\xc3", "b\x80", "\xed\xa0\x80", "\xc0\x80", strings.Repeat("a", 61), strings.Repeat("\U0001f600", 60) + "a", strings.Repeat("b", 5000)} {
		refuseField(t, record, key, null)
		refuseField(t, oneNode(recordNode(0)), key, null)
	}
	for _, l := range [][]impl.Node{null, oneNode(listNode(0)), oneNode(textNode("b")), oneNode(wholeNode(0)), {listNode(1), recordNode(0)}, oneNode(kindNode(impl.KdTrue)), {listNode(1), keyedNode("b", kindNode(1))}} {
		refuseField(t, l, "b", null)
		refuseField(t, l, "", null)
	}
	for _, v := range [][]impl.Node{nil, {}, oneNode(keyedNode("b", wholeNode(1))), {null[0], null[0]}, oneNode(listNode(1)), oneNode(kindNode(0)), oneNode(wholeNode(impl.MaxWhole + 1)), oneNode(textNode("\xff"))} {
		refuseField(t, record, "a", v)
		refuseField(t, record, "b", v)
		refuseField(t, record, "c", v)
	}
}

func TestWithFieldOfTooManyNodes(t *testing.T) {
	list := func(nodes int) []impl.Node {
		return append(oneNode(listNode(nodes-1)), slices.Repeat(oneNode(wholeNode(5)), nodes-1)...)
	}
	for many := 1; many <= 40; many++ {
		for _, rest := range []int{38, 39, 40, 41} {
			// An object of rest - many + 1 nodes, and the part of many nodes.
			if rest-many < 1 || rest-many > 39 {
				continue
			}
			old := list(rest - many)
			l := append([]impl.Node{recordNode(1), keyedNode("b", old[0])}, old[1:]...)
			for _, key := range []string{"a", "c"} {
				if want := len(l) + many; want <= 40 {
					got, ok := impl.WithField(l, key, list(many))
					if len(got) != want || !impl.GoodValue(got) || !ok {
						t.Errorf("WithField of %d and %d nodes: %d nodes, %v", len(l), many, len(got), ok)
					}
				} else {
					refuseField(t, l, key, list(many))
				}
			}
			part := list(many)
			if many < 40 {
				expectWith(t, l, "b", part, append([]impl.Node{recordNode(1), keyedNode("b", part[0])}, part[1:]...))
			} else {
				refuseField(t, l, "b", part)
			}
		}
	}
}

func TestWithFieldNestedTooDeep(t *testing.T) {
	for depth := 1; depth <= 6; depth++ {
		part := append(slices.Repeat(oneNode(listNode(1)), depth-1), wholeNode(1))
		deep := append([]impl.Node{recordNode(1), keyedNode("b", listNode(1))}, slices.Repeat(oneNode(listNode(1)), 3)...)
		deep = append(deep, wholeNode(1))
		for _, key := range []string{"a", "b", "c"} {
			for _, l := range [][]impl.Node{oneNode(recordNode(0)), {recordNode(1), keyedNode("b", wholeNode(1))}, deep} {
				got, ok := impl.WithField(l, key, part)
				if ok != (depth < 6) || impl.GoodValue(got) != ok {
					t.Errorf("WithField(%v, %q, %v) = %v, %v", l, key, part, got, ok)
				}
				if ok {
					expectField(t, got, key, part, true)
				} else if len(got) != 0 {
					t.Errorf("%v together with false", got)
				}
			}
		}
	}
}

// Promise 19: arguments are as they were, behind their length too, and a
// result is memory of its own.
func TestNodesUnchanged(t *testing.T) {
	junk := impl.Node{Key: "z", Kind: impl.KdWhole, Num: 3, Text: "z", Many: 2}
	samples := [][]impl.Node{nil, {junk}, {listNode(2), wholeNode(1)}, {recordNode(1), keyedNode("b", listNode(1))}}
	for i, v := range sampleTrees() {
		if i%10 == 0 {
			samples = append(samples, plainFlat(nil, "", v))
		}
	}
	calls := map[string]func([]impl.Node) []impl.Node{
		"FieldOf": func(l []impl.Node) []impl.Node { f, _ := impl.FieldOf(l, "a"); return f },
		"WithField": func(l []impl.Node) []impl.Node {
			w, _ := impl.WithField(l, "a", oneNode(kindNode(impl.KdTrue)))
			return w
		},
		"WithField of":  func(l []impl.Node) []impl.Node { w, _ := impl.WithField(oneNode(recordNode(0)), "a", l); return w },
		"WithField own": func(l []impl.Node) []impl.Node { w, _ := impl.WithField(l, "a", l); return w },
		"ValueText": func(l []impl.Node) []impl.Node {
			s, _ := impl.ValueText(l)
			back, _, _ := impl.ReadValue(s)
			return back
		},
		"GoodValue and DepthOf": func(l []impl.Node) []impl.Node {
			depth, ok := impl.DepthOf(l)
			if impl.GoodValue(l) != ok {
				return nil
			}
			return oneNode(wholeNode(depth))
		},
	}
	for name, call := range calls {
		for _, l := range samples {
			for _, behind := range []impl.Node{junk, kindNode(impl.KdNull), keyedNode("a", wholeNode(1))} {
				room := append(slices.Clone(l), behind, behind)
				before := slices.Clone(room)
				got := call(room[:len(l)])
				if again := call(slices.Clip(slices.Clone(l))); !slices.Equal(got, again) {
					t.Errorf("%s(%v) with %v behind it = %v; without %v", name, l, behind, got, again)
				}
				for i := range got[:cap(got)] {
					got[:cap(got)][i] = junk
				}
				if !slices.Equal(room, before) {
					t.Errorf("%s(%v) changes its argument or shares its memory", name, l)
				}
			}
		}
	}
}

func TestReadValueIsNewMemory(t *testing.T) {
	for _, text := range []string{"null", `[1,"a",{"b":2}]`, `{"a":"b"}`} {
		first, _, _ := impl.ReadValue(text)
		want := slices.Clone(first)
		clear(first)
		expectNodes(t, text, want)
	}
}

// Promise 19: arbitrary bytes, strings and nodes; none may make a call panic or
// run on.
func TestValueFunctionsReturn(t *testing.T) {
	for long := range 700 {
		s := sampleText(long)
		if long <= 600 {
			expectAsPlain(t, s)
			expectAsPlain(t, `["`+s[:max(0, long-10)])
		} else {
			expectFault(t, s, 0)
		}
		l := make([]impl.Node, long%50)
		for i := range l {
			b := int(s[i])
			l[i] = impl.Node{Key: s[:b%3], Kind: b % 9, Num: b * (b % 2), Text: s[:b%2], Many: []int{0, 1, b, -b, math.MaxInt, math.MinInt}[b%6]}
		}
		expectGood(t, l)
		impl.FieldOf(l, s)
		impl.WithField(l, s, l)
		impl.WithField(oneNode(recordNode(0)), s, l)
		impl.WithField(l, s, oneNode(recordNode(0)))
	}
	impl.ReadValue(strings.Repeat("[", 1<<20))
	impl.TidyText(strings.Repeat(`{"":`, 1<<20))
	refuseValue(t, slices.Repeat(oneNode(listNode(math.MaxInt)), 1<<16))
	refuseValue(t, slices.Repeat(oneNode(recordNode(1)), 1<<16))
}
