package field_test

import (
	"bytes"
	"math/rand"
	"slices"
	"strings"
	"testing"

	"threshing/api"
	"threshing/field"
	"threshing/varint"
)

// long returns a string of n bytes, the last of which differs from the others.
func long(n int) string {
	if n == 0 {
		return ""
	}
	return strings.Repeat("x", n-1) + "y"
}

// fields returns a record of n fields.
func fields(n int) api.Rec {
	r := make(api.Rec, n)
	for i := range r {
		r[i] = string(rune('a' + i%26))
	}
	return r
}

// wantMay tells by the words of the document whether r is valid.
func wantMay(r api.Rec) bool {
	valid := len(r) <= 50
	for _, s := range r {
		valid = valid && len(s) <= 1000
	}
	return valid
}

// wantEncode encodes by the words of the document.
func wantEncode(l []api.Rec) ([]byte, api.Errno) {
	b := varint.Put(nil, uint64(len(l)))
	for _, r := range l {
		if !wantMay(r) {
			return nil, api.ErrDomain
		}
		b = varint.Put(b, uint64(len(r)))
		for _, s := range r {
			b = varint.Frame(b, s)
		}
	}
	return b, api.OK
}

// wantDecode decodes by the words of the document.
func wantDecode(b []byte) ([]api.Rec, api.Errno) {
	n, b, e := varint.Take(b)
	if e != api.OK {
		return nil, e
	}
	if n > 5000 {
		return nil, api.ErrLarge
	}
	var l []api.Rec
	for range n {
		var k uint64
		if k, b, e = varint.Take(b); e != api.OK {
			return nil, e
		}
		if k > 50 {
			return nil, api.ErrLarge
		}
		r := api.Rec{}
		for range k {
			var s string
			if s, b, e = varint.TakeFrame(b, 1000); e != api.OK {
				return nil, e
			}
			r = append(r, s)
		}
		l = append(l, r)
	}
	if len(b) > 0 {
		return nil, api.ErrForm
	}
	return l, api.OK
}

// wantSame compares two lists of records field by field.
func wantSame(a, b []api.Rec) bool {
	if len(a) != len(b) {
		return false
	}
	for i := range a {
		if len(a[i]) != len(b[i]) {
			return false
		}
		for k := range a[i] {
			if a[i][k] != b[i][k] {
				return false
			}
		}
	}
	return true
}

// wantEscape escapes by the words of the document: backslashes first, since
// the other two sequences bring some of their own.
func wantEscape(s string) string {
	s = strings.ReplaceAll(s, `\`, `\\`)
	s = strings.ReplaceAll(s, "\t", `\t`)
	return strings.ReplaceAll(s, "\n", `\n`)
}

// wantUnescape takes one sequence or one byte after the other from s.
func wantUnescape(s string) (string, api.Errno) {
	out := ""
	for s != "" {
		switch {
		case strings.HasPrefix(s, `\\`):
			out, s = out+`\`, s[2:]
		case strings.HasPrefix(s, `\t`):
			out, s = out+"\t", s[2:]
		case strings.HasPrefix(s, `\n`):
			out, s = out+"\n", s[2:]
		case s[0] == '\\' || s[0] == 9 || s[0] == 10:
			return "", api.ErrForm
		default:
			out, s = out+s[:1], s[1:]
		}
	}
	return out, api.OK
}

// wantLines writes the lines of the pairs by the words of the document.
func wantLines(l []api.Pair) string {
	s := ""
	for _, p := range l {
		s += wantEscape(p.K) + "\t" + wantEscape(p.V) + "\n"
	}
	return s
}

// wantPairs reads lines by the words of the document.
func wantPairs(s string) ([]api.Pair, api.Errno) {
	if s == "" {
		return nil, api.OK
	}
	if s[len(s)-1] != 10 {
		return nil, api.ErrForm
	}
	var l []api.Pair
	for _, line := range strings.Split(s[:len(s)-1], "\n") {
		if strings.Count(line, "\t") != 1 {
			return nil, api.ErrForm
		}
		at := strings.IndexByte(line, 9)
		k, e := wantUnescape(line[:at])
		v, f := wantUnescape(line[at+1:])
		if e != api.OK || f != api.OK {
			return nil, api.ErrForm
		}
		l = append(l, api.Pair{K: k, V: v})
	}
	return l, api.OK
}

// wantWords collects the bytes between white space.
func wantWords(s string) []string {
	var l []string
	word := ""
	for i := range len(s) + 1 {
		if i < len(s) && s[i] != 32 && s[i] != 9 && s[i] != 10 && s[i] != 13 {
			word += s[i : i+1]
			continue
		}
		if word != "" {
			l = append(l, word)
		}
		word = ""
	}
	return l
}

// checkRecords compares the functions of records, and their round trip.
func checkRecords(t *testing.T, l []api.Rec) {
	t.Helper()
	b, e := field.Encode(l)
	want, wantE := wantEncode(l)
	if !bytes.Equal(b, want) || e != wantE {
		t.Fatalf("Encode(%.60q) = %.60x, %d; want %.60x, %d", l, b, e, want, wantE)
	}
	for _, r := range l {
		if field.May(r) != wantMay(r) {
			t.Errorf("May(%.60q) = %t", r, field.May(r))
		}
	}
	if e != api.OK || len(l) > 5000 {
		return
	}
	back, e := field.Decode(b)
	if !wantSame(back, l) || !field.Same(back, l) || e != api.OK {
		t.Errorf("Decode(Encode(%.60q)) = %.60q, %d", l, back, e)
	}
}

// checkDecode compares Decode for the bytes b, and encodes again what it returns.
func checkDecode(t *testing.T, b []byte) {
	t.Helper()
	l, e := field.Decode(b)
	want, wantE := wantDecode(b)
	if !wantSame(l, want) || e != wantE {
		t.Fatalf("Decode(%.60x) = %.60q, %d; want %.60q, %d", b, l, e, want, wantE)
	}
	if e != api.OK {
		return
	}
	if again, e := field.Encode(l); !bytes.Equal(again, b) || e != api.OK {
		t.Errorf("Encode(Decode(%.60x)) = %.60x, %d", b, again, e)
	}
}

// checkText compares the functions of strings, and their round trip.
func checkText(t *testing.T, s string) {
	t.Helper()
	escaped := field.Escape(s)
	if escaped != wantEscape(s) {
		t.Errorf("Escape(%q) = %q; want %q", s, escaped, wantEscape(s))
	}
	if back, e := field.Unescape(escaped); back != s || e != api.OK {
		t.Errorf("Unescape(Escape(%q)) = %q, %d", s, back, e)
	}
	u, e := field.Unescape(s)
	if want, wantE := wantUnescape(s); u != want || e != wantE {
		t.Errorf("Unescape(%q) = %q, %d; want %q, %d", s, u, e, want, wantE)
	}
	if again := field.Escape(u); e == api.OK && again != s {
		t.Errorf("Escape(Unescape(%q)) = %q", s, again)
	}
	if w := field.Words(s); !slices.Equal(w, wantWords(s)) {
		t.Errorf("Words(%q) = %q; want %q", s, w, wantWords(s))
	}
}

// checkLines compares Lines for pairs, and its round trip.
func checkLines(t *testing.T, l []api.Pair) {
	t.Helper()
	b := field.Lines(l)
	if string(b) != wantLines(l) {
		t.Errorf("Lines(%q) = %q; want %q", l, b, wantLines(l))
	}
	if back, e := field.Pairs(b); !slices.Equal(back, l) || e != api.OK {
		t.Errorf("Pairs(Lines(%q)) = %q, %d", l, back, e)
	}
}

// checkPairs compares Pairs for the bytes of s, and writes again what it returns.
func checkPairs(t *testing.T, s string) {
	t.Helper()
	l, e := field.Pairs([]byte(s))
	want, wantE := wantPairs(s)
	if !slices.Equal(l, want) || e != wantE {
		t.Errorf("Pairs(%q) = %q, %d; want %q, %d", s, l, e, want, wantE)
	}
	if again := field.Lines(l); e == api.OK && string(again) != s {
		t.Errorf("Lines(Pairs(%q)) = %q", s, again)
	}
}

// strung calls check with every string of at most most of the bytes of kinds.
func strung(kinds string, most int, check func(s string)) {
	level := []string{""}
	for range most + 1 {
		var next []string
		for _, s := range level {
			check(s)
			for i := range len(kinds) {
				next = append(next, s+kinds[i:i+1])
			}
		}
		level = next
	}
}

func TestMay(t *testing.T) {
	last := fields(50)
	last[49] = long(1001)
	for _, x := range []struct {
		name string
		r    api.Rec
		want bool
	}{
		{"nil", nil, true},
		{"no fields", api.Rec{}, true},
		{"an empty field", api.Rec{""}, true},
		{"any bytes", api.Rec{"\x00\xff\n\t\\", "é"}, true},
		{"49 fields", fields(49), true},
		{"50 fields", fields(50), true},
		{"51 fields", fields(51), false},
		{"51 empty fields", make(api.Rec, 51), false},
		{"100000 fields", make(api.Rec, 100000), false},
		{"999 bytes", api.Rec{long(999)}, true},
		{"1000 bytes", api.Rec{long(1000)}, true},
		{"1001 bytes", api.Rec{long(1001)}, false},
		{"1000 bytes twice", api.Rec{long(1000), long(1000)}, true},
		{"1001 bytes in the second field", api.Rec{"a", long(1001)}, false},
		{"1001 bytes in the last field", last, false},
		// It is bytes that count, not characters.
		{"500 characters of 2 bytes", api.Rec{strings.Repeat("é", 500)}, true},
		{"501 characters of 2 bytes", api.Rec{strings.Repeat("é", 501)}, false},
	} {
		if got := field.May(x.r); got != x.want {
			t.Errorf("%s: %t", x.name, got)
		}
	}
}

func TestEncodeBytes(t *testing.T) {
	for _, x := range []struct {
		l []api.Rec
		b string
	}{
		{nil, "\x00"},
		{[]api.Rec{}, "\x00"},
		{[]api.Rec{nil}, "\x01\x00"},
		{[]api.Rec{{}}, "\x01\x00"},
		{[]api.Rec{{""}}, "\x01\x01\x00"},
		{[]api.Rec{{"a", ""}, {}}, "\x02\x02\x01a\x00\x00"},
		{[]api.Rec{{"ab"}, {"c", "\x00\xff\n"}}, "\x02\x01\x02ab\x02\x01c\x03\x00\xff\n"},
		{[]api.Rec{{long(128)}}, "\x01\x01\x80\x01" + long(128)},
		{make([]api.Rec, 300), "\xac\x02" + strings.Repeat("\x00", 300)},
	} {
		if b, e := field.Encode(x.l); string(b) != x.b || e != api.OK {
			t.Errorf("Encode(%.60q) = %.60x, %d; want %.60x", x.l, b, e, x.b)
		}
		checkRecords(t, x.l)
		checkDecode(t, []byte(x.b))
	}
}

func TestEncodeErrors(t *testing.T) {
	many := make([]api.Rec, 6000)
	many[5999] = fields(51)
	for _, l := range [][]api.Rec{
		{fields(51)},
		{{long(1001)}},
		{{"a", long(1001)}},
		{{long(1001)}, {"a"}},
		{{"a"}, {long(1001)}},
		{{"a"}, fields(51), {"b"}},
		many,
	} {
		if b, e := field.Encode(l); len(b) != 0 || e != api.ErrDomain {
			t.Errorf("Encode(%.60q) = %.60x, %d", l, b, e)
		}
	}
}

func TestRecordRoundTrip(t *testing.T) {
	for _, l := range [][]api.Rec{
		{fields(50)},
		{{long(1000)}},
		{{long(127), long(128), long(999), long(1000)}},
		{{"", "", ""}, {}, nil, {""}, {"\x80", "\x00"}},
		slices.Repeat([]api.Rec{fields(50)}, 200),
		slices.Repeat([]api.Rec{slices.Repeat(api.Rec{long(1000)}, 50)}, 20),
		make([]api.Rec, 4999),
		make([]api.Rec, 5000),
	} {
		checkRecords(t, l)
	}
	r := rand.New(rand.NewSource(1))
	for range 2000 {
		checkRecords(t, randomRecords(r))
	}
}

// randomRecords returns a few records with a few short fields each.
func randomRecords(r *rand.Rand) []api.Rec {
	l := make([]api.Rec, r.Intn(6))
	for i := range l {
		l[i] = make(api.Rec, r.Intn(5))
		for k := range l[i] {
			b := make([]byte, r.Intn(4))
			r.Read(b)
			l[i][k] = string(b)
		}
	}
	return l
}

func TestRecordCountOfDecode(t *testing.T) {
	for _, n := range []int{4999, 5000, 5001, 20000} {
		l := slices.Repeat([]api.Rec{{"a"}}, n)
		b, e := field.Encode(l)
		if e != api.OK {
			t.Fatalf("Encode of %d records: %d", n, e)
		}
		back, e := field.Decode(b)
		if n <= 5000 && (!field.Same(back, l) || e != api.OK) || n > 5000 && (len(back) != 0 || e != api.ErrLarge) {
			t.Errorf("%d records: %d of them, %d", n, len(back), e)
		}
	}
}

func TestDecodeErrors(t *testing.T) {
	huge := "\xff\xff\xff\xff\xff\xff\xff\xff\xff\x01"
	for _, x := range []struct {
		b string
		e api.Errno
	}{
		// The number of records.
		{"", api.ErrShort},
		{"\x80", api.ErrShort},
		{strings.Repeat("\xff", 9), api.ErrShort},
		{"\x80\x00", api.ErrForm},
		{strings.Repeat("\xff", 10), api.ErrForm},
		{strings.Repeat("\xff", 9) + "\x02", api.ErrForm},
		{"\x89\x27", api.ErrLarge},
		{"\x89\x27\x80\x00", api.ErrLarge},
		{"\x89\x27" + strings.Repeat("\x00", 5001), api.ErrLarge},
		{huge, api.ErrLarge},
		{"\x80\x80\x80\x80\x80\x80\x80\x80\x80\x01", api.ErrLarge},
		// The number of fields.
		{"\x88\x27", api.ErrShort},
		{"\x01", api.ErrShort},
		{"\x01\x80", api.ErrShort},
		{"\x02\x00", api.ErrShort},
		{"\x01\x80\x00", api.ErrForm},
		{"\x01" + strings.Repeat("\xff", 10), api.ErrForm},
		{"\x02\x00" + strings.Repeat("\xff", 9) + "\x02", api.ErrForm},
		{"\x01\x33", api.ErrLarge},
		{"\x01\x33" + strings.Repeat("\x00", 51), api.ErrLarge},
		{"\x02\x00\x33\x80\x00", api.ErrLarge},
		{"\x01" + huge, api.ErrLarge},
		{"\x01\x80\x80\x80\x80\x80\x80\x80\x80\x80\x01", api.ErrLarge},
		// The fields.
		{"\x01\x01", api.ErrShort},
		{"\x01\x01\x80", api.ErrShort},
		{"\x01\x01\x80\x00", api.ErrForm},
		{"\x01\x01" + strings.Repeat("\xff", 10), api.ErrForm},
		{"\x01\x01\x02a", api.ErrShort},
		{"\x01\x02\x01a", api.ErrShort},
		{"\x01\x32" + strings.Repeat("\x00", 49), api.ErrShort},
		{"\x01\x01\xe9\x07", api.ErrLarge},
		{"\x01\x01\xe9\x07" + long(1001), api.ErrLarge},
		{"\x01\x01\xe8\x07" + long(999), api.ErrShort},
		{"\x01\x01" + huge + long(2000), api.ErrLarge},
		{"\x01\x02\x01a\xe9\x07" + long(1001), api.ErrLarge},
		{"\x01\x01\xff\xff\xff\xff\xff\xff\xff\xff\x7f", api.ErrLarge},
		// The first error is that of the first record, and of the first field.
		{"\x02\x33\x80\x00", api.ErrLarge},
		{"\x02\x80\x00\x33", api.ErrForm},
		{"\x02\x01\xe9\x07\x80\x00", api.ErrLarge},
		{"\x02\x01\x80\x00\x33", api.ErrForm},
		{"\x01\x02\x80\x00\xe9\x07", api.ErrForm},
		{"\x01\x02\xe9\x07\x80\x00", api.ErrLarge},
		// Bytes are left.
		{"\x00\x00", api.ErrForm},
		{"\x00\x80", api.ErrForm},
		{"\x01\x00\x00", api.ErrForm},
		{"\x01\x01\x01ab", api.ErrForm},
		{"\x02\x01\x01a\x00\xff", api.ErrForm},
		{"\x01\x01\xe8\x07" + long(1000) + "z", api.ErrForm},
		// That is the last error.
		{"\x02\x00\x33" + long(100), api.ErrLarge},
		{"\x00" + long(3000), api.ErrForm},
	} {
		l, e := field.Decode([]byte(x.b))
		if len(l) != 0 || e != x.e {
			t.Errorf("Decode(%.60x) = %.60q, %d; want %d", x.b, l, e, x.e)
		}
		checkDecode(t, []byte(x.b))
	}
	if l, e := field.Decode(nil); len(l) != 0 || e != api.ErrShort {
		t.Errorf("Decode(nil) = %q, %d", l, e)
	}
}

func TestDecodeOfAllShortInputs(t *testing.T) {
	strung("\x00\x01\x02\x03\x32\x33\x7f\x80\x81\xff", 5, func(s string) { checkDecode(t, []byte(s)) })
	strung("\x00\x01\x02a", 8, func(s string) { checkDecode(t, []byte(s)) })
}

func TestDecodeOfChangedBytes(t *testing.T) {
	r := rand.New(rand.NewSource(2))
	for range 60 {
		b, e := field.Encode(append(randomRecords(r), api.Rec{long(200), "", long(1000)}))
		if e != api.OK {
			t.Fatal(e)
		}
		for i := range b {
			if i%7 != 0 && i > 40 {
				continue
			}
			checkDecode(t, b[:i])
			for _, x := range []byte{1, 2, 64, 128, 255} {
				changed := bytes.Clone(b)
				changed[i] ^= x
				checkDecode(t, changed)
			}
		}
	}
}

func TestDecodeTakesItsShareOfTime(t *testing.T) {
	// As many fields as there can be: copying what remains for each one of them
	// would take hours.
	l := slices.Repeat([]api.Rec{slices.Repeat(api.Rec{long(300)}, 50)}, 5000)
	b, e := field.Encode(l)
	if e != api.OK || len(b) != 2+5000*(1+50*302) {
		t.Fatalf("%d bytes, %d", len(b), e)
	}
	if back, e := field.Decode(b); !field.Same(back, l) || e != api.OK {
		t.Errorf("%d records, %d", len(back), e)
	}
	// So it is for lines.
	pairs := slices.Repeat([]api.Pair{{K: "a\n", V: "b\t"}}, 300000)
	if back, e := field.Pairs(field.Lines(pairs)); !slices.Equal(back, pairs) || e != api.OK {
		t.Errorf("%d pairs, %d", len(back), e)
	}
	if s := strings.Repeat("a\\\t\n", 500000); field.Escape(s) != wantEscape(s) {
		t.Error("a long string is escaped differently")
	}
}

func TestEscape(t *testing.T) {
	for _, x := range []struct{ s, want string }{
		{"", ""},
		{"abc", "abc"},
		{"\t", `\t`},
		{"\n", `\n`},
		{`\`, `\\`},
		{`\t`, `\\t`},
		{`\n`, `\\n`},
		{"\\\t", `\\\t`},
		{"a\tb\nc\\d", `a\tb\nc\\d`},
		{"\r\x00\v\"'", "\r\x00\v\"'"},
		{"\xff\t\x80\xc3\n", "\xff\\t\x80\xc3\\n"},
		{"é\t€", `é\t€`},
		{"\u2028\u0085\u00a0", "\u2028\u0085\u00a0"},
	} {
		if got := field.Escape(x.s); got != x.want {
			t.Errorf("Escape(%q) = %q; want %q", x.s, got, x.want)
		}
		if back, e := field.Unescape(x.want); back != x.s || e != api.OK {
			t.Errorf("Unescape(%q) = %q, %d; want %q", x.want, back, e, x.s)
		}
		checkText(t, x.s)
		checkText(t, x.want)
	}
}

func TestUnescapeErrors(t *testing.T) {
	for _, s := range []string{
		"\t", "\n", "a\t", "a\nb", "\\t\t", "\\\t", "\\\n", "\\\\\n",
		`\`, `a\`, `\\\`, `\t\`, `\n\`,
		`\x`, `\r`, `\0`, `\"`, `\ `, `\T`, `\N`, `\é`, "\\\x00", "\\\xff",
		`a\b`, `\\\x`, `\t\x`, `\x\t`, "\x80\\",
	} {
		if got, e := field.Unescape(s); got != "" || e != api.ErrForm {
			t.Errorf("Unescape(%q) = %q, %d", s, got, e)
		}
		checkText(t, s)
	}
}

func TestEscapeOfAllBytes(t *testing.T) {
	for i := range 256 {
		checkText(t, string([]byte{byte(i)}))
		for k := range 256 {
			checkText(t, string([]byte{byte(i), byte(k)}))
			checkText(t, string([]byte{'\\', byte(i), byte(k)}))
			checkText(t, string([]byte{'a', byte(i), 'b', byte(k), 'c'}))
		}
	}
}

func TestAllShortTexts(t *testing.T) {
	strung("a\t\n\\tn\r \xff", 5, func(s string) { checkText(t, s) })
}

func TestLines(t *testing.T) {
	for _, x := range []struct {
		l    []api.Pair
		want string
	}{
		{nil, ""},
		{[]api.Pair{}, ""},
		{[]api.Pair{{}}, "\t\n"},
		{[]api.Pair{{}, {}}, "\t\n\t\n"},
		{[]api.Pair{{K: "a"}}, "a\t\n"},
		{[]api.Pair{{V: "b"}}, "\tb\n"},
		{[]api.Pair{{K: "a", V: "1"}, {K: "b", V: "2"}}, "a\t1\nb\t2\n"},
		{[]api.Pair{{K: "a\\", V: "b\n\t"}}, "a\\\\\tb\\n\\t\n"},
		{[]api.Pair{{K: "\t", V: "\n"}, {K: "\n", V: "\t"}}, "\\t\t\\n\n\\n\t\\t\n"},
		{[]api.Pair{{K: "\xff", V: "\r"}}, "\xff\t\r\n"},
		// Neither order nor number of the pairs matters.
		{[]api.Pair{{K: "b"}, {K: "a"}, {K: "b"}}, "b\t\na\t\nb\t\n"},
		// Pairs are not records: they have no limits.
		{[]api.Pair{{K: long(5000), V: long(1001)}}, long(5000) + "\t" + long(1001) + "\n"},
	} {
		if b := field.Lines(x.l); string(b) != x.want {
			t.Errorf("Lines(%.60q) = %.60q; want %.60q", x.l, b, x.want)
		}
		checkLines(t, x.l)
		checkPairs(t, x.want)
	}
}

func TestPairsErrors(t *testing.T) {
	for _, s := range []string{
		// The last byte is not 10.
		"a", "\t", "a\tb", "a\tb\nc", "a\tb\nc\td", "a\tb\n\x00", "a\tb\n\t", "a\tb\\n",
		// A line has no byte 9, or several ones.
		"\n", "a\n", "\n\n", "a\\tb\n", "\t\n\n", "\n\t\n", "a\tb\nc\n", "a\nb\tc\n",
		"\t\t\n", "a\tb\tc\n", "a\t\tb\n", "a\tb\n\t\t\n",
		// A part cannot be unescaped.
		"\\x\t\n", "\\\t\n", "\t\\\n", "a\tb\\\n", "a\\\tb\n", "a\tb\nc\\x\td\n", "a\tb\nc\td\\r\n",
		"\\x\ta\nb\tc\n",
	} {
		if l, e := field.Pairs([]byte(s)); len(l) != 0 || e != api.ErrForm {
			t.Errorf("Pairs(%q) = %q, %d", s, l, e)
		}
		checkPairs(t, s)
	}
}

func TestPairsOfNothing(t *testing.T) {
	for _, b := range [][]byte{nil, {}, []byte("a")[:0]} {
		if l, e := field.Pairs(b); len(l) != 0 || e != api.OK {
			t.Errorf("%q, %d", l, e)
		}
	}
}

func TestPairsOfAllShortInputs(t *testing.T) {
	strung("a\t\n\\tn", 7, func(s string) { checkPairs(t, s) })
	strung("\t\n\\", 9, func(s string) { checkPairs(t, s) })
}

func TestLinesOfAllShortPairs(t *testing.T) {
	var some []string
	strung("a\t\n\\", 3, func(s string) { some = append(some, s) })
	for _, k := range some {
		for _, v := range some {
			checkLines(t, []api.Pair{{K: k, V: v}})
			checkLines(t, []api.Pair{{K: k, V: v}, {K: v, V: k}})
		}
	}
}

func TestWords(t *testing.T) {
	for _, x := range []struct {
		s    string
		want []string
	}{
		{"", nil},
		{" ", nil},
		{" \t\n\r ", nil},
		{"a", []string{"a"}},
		{" a  bc ", []string{"a", "bc"}},
		{"\ta b\r\n c", []string{"a", "b", "c"}},
		{"a\tb\nc\rd e", []string{"a", "b", "c", "d", "e"}},
		{"b a b", []string{"b", "a", "b"}},
		// Only the four bytes are white space.
		{"a\vb", []string{"a\vb"}},
		{"a\fb", []string{"a\fb"}},
		{"a\x00b\x1fc", []string{"a\x00b\x1fc"}},
		{"a\u0085b\u00a0c\u2003d\u2028e\u3000f", []string{"a\u0085b\u00a0c\u2003d\u2028e\u3000f"}},
		{"a\\tb,c", []string{"a\\tb,c"}},
		// Bytes that are no characters belong to words.
		{"\xff \x80", []string{"\xff", "\x80"}},
		{"\x85\xa0", []string{"\x85\xa0"}},
		{"\xe2 \x80", []string{"\xe2", "\x80"}},
		{"\xc3\nx", []string{"\xc3", "x"}},
		{"\ufffd \ufffdé", []string{"\ufffd", "\ufffdé"}},
		{"é €", []string{"é", "€"}},
		{"\xc0\xa0\xc0\x8a", []string{"\xc0\xa0\xc0\x8a"}},
	} {
		if got := field.Words(x.s); !slices.Equal(got, x.want) {
			t.Errorf("Words(%q) = %q; want %q", x.s, got, x.want)
		}
		checkText(t, x.s)
	}
}

func TestWordsHaveNoLimits(t *testing.T) {
	words := field.Words(strings.Repeat(long(2000)+" ", 6000))
	if len(words) != 6000 || words[0] != long(2000) || words[5999] != long(2000) {
		t.Errorf("%d words", len(words))
	}
}

func TestSame(t *testing.T) {
	for _, x := range []struct {
		a, b []api.Rec
		want bool
	}{
		{nil, nil, true},
		{nil, []api.Rec{}, true},
		{[]api.Rec{nil}, []api.Rec{{}}, true},
		{nil, []api.Rec{nil}, false},
		{[]api.Rec{nil}, []api.Rec{nil, nil}, false},
		{[]api.Rec{{}}, []api.Rec{{""}}, false},
		{[]api.Rec{{""}}, []api.Rec{{"", ""}}, false},
		{[]api.Rec{{"a"}}, []api.Rec{{"a"}}, true},
		{[]api.Rec{{"a"}}, []api.Rec{{"b"}}, false},
		{[]api.Rec{{"a"}}, []api.Rec{{"A"}}, false},
		{[]api.Rec{{"a"}}, []api.Rec{{"a\x00"}}, false},
		{[]api.Rec{{"\x80"}}, []api.Rec{{"\xff"}}, false},
		{[]api.Rec{{"a", "b"}}, []api.Rec{{"a", "b"}}, true},
		{[]api.Rec{{"a", "b"}}, []api.Rec{{"b", "a"}}, false},
		{[]api.Rec{{"a", "b"}}, []api.Rec{{"ab"}}, false},
		{[]api.Rec{{"a", "b"}}, []api.Rec{{"a", "c"}}, false},
		{[]api.Rec{{"a", "b"}}, []api.Rec{{"a"}, {"b"}}, false},
		{[]api.Rec{{"a"}, {"b"}}, []api.Rec{{"a"}, {"b"}}, true},
		{[]api.Rec{{"a"}, {"b"}}, []api.Rec{{"b"}, {"a"}}, false},
		{[]api.Rec{{"a"}, {"b"}}, []api.Rec{{"a"}, {"c"}}, false},
		{[]api.Rec{{"a"}, {}}, []api.Rec{{"a"}}, false},
		// Records that are not valid are compared like others.
		{[]api.Rec{fields(60)}, []api.Rec{fields(60)}, true},
		{[]api.Rec{fields(60)}, []api.Rec{fields(61)}, false},
		{[]api.Rec{{long(1500)}}, []api.Rec{{long(1500)}}, true},
	} {
		if field.Same(x.a, x.b) != x.want || field.Same(x.b, x.a) != x.want {
			t.Errorf("Same(%.60q, %.60q) is not %t", x.a, x.b, x.want)
		}
	}
}

// roomy returns the bytes of s with memory beyond their length, and all of that memory.
func roomy(s string) ([]byte, []byte) {
	all := append([]byte(s), bytes.Repeat([]byte{0xee}, 40)...)
	return all[:len(s)], all
}

func TestBytesOfArgumentsStay(t *testing.T) {
	b, all := roomy("\x02\x02\x01a\x02bc\x01\x00")
	before := bytes.Clone(all)
	l, e := field.Decode(b)
	if !bytes.Equal(all, before) || e != api.OK {
		t.Errorf("Decode changed its argument, or the memory beyond it: %x, %d", all, e)
	}
	clear(all)
	if !field.Same(l, []api.Rec{{"a", "bc"}, {""}}) {
		t.Errorf("writing to the argument of Decode changed %q", l)
	}
	b, all = roomy("a\\t\tb\nc\td\n")
	before = bytes.Clone(all)
	pairs, e := field.Pairs(b)
	if !bytes.Equal(all, before) || e != api.OK {
		t.Errorf("Pairs changed its argument, or the memory beyond it: %x, %d", all, e)
	}
	clear(all)
	if !slices.Equal(pairs, []api.Pair{{K: "a\t", V: "b"}, {K: "c", V: "d"}}) {
		t.Errorf("writing to the argument of Pairs changed %q", pairs)
	}
}

func TestMemoryBeyondLengthIsIgnored(t *testing.T) {
	if _, e := field.Decode([]byte("\x01\x01\x02ab")[:4]); e != api.ErrShort {
		t.Errorf("a field that goes on beyond the length: %d", e)
	}
	if _, e := field.Decode([]byte("\x80\x01")[:1]); e != api.ErrShort {
		t.Errorf("a number that goes on beyond the length: %d", e)
	}
	if l, e := field.Decode([]byte("\x01\x00\x00")[:2]); len(l) != 1 || e != api.OK {
		t.Errorf("bytes that are left only beyond the length: %q, %d", l, e)
	}
	if _, e := field.Pairs([]byte("a\tb\n")[:3]); e != api.ErrForm {
		t.Errorf("a line that goes on beyond the length: %d", e)
	}
	l := []api.Rec{{"a"}, {"b"}, fields(51)}
	if b, e := field.Encode(l[:1]); string(b) != "\x01\x01\x01a" || e != api.OK {
		t.Errorf("records that go on beyond the length: %x, %d", b, e)
	}
	if r := fields(51); !field.May(r[:50]) || !field.Same([]api.Rec{r[:3]}, []api.Rec{fields(3)}) {
		t.Error("fields beyond the length count")
	}
}

func TestListsOfArgumentsStay(t *testing.T) {
	r := append(fields(3), "x", "y")
	l := []api.Rec{r[:3], {"a\n"}, {"z"}}
	field.May(l[0])
	field.Encode(l[:2])
	field.Same(l[:2], l[:1])
	if !slices.Equal(r, api.Rec{"a", "b", "c", "x", "y"}) || !wantSame(l, []api.Rec{fields(3), {"a\n"}, {"z"}}) {
		t.Errorf("the records became %q", l)
	}
	pairs := []api.Pair{{K: "\t", V: "\n"}, {K: "k", V: "v"}}
	field.Lines(pairs[:1])
	if !slices.Equal(pairs, []api.Pair{{K: "\t", V: "\n"}, {K: "k", V: "v"}}) {
		t.Errorf("the pairs became %q", pairs)
	}
}

func TestResultsShareNoMemory(t *testing.T) {
	// Writing to a result, its spare capacity included, changes no other one.
	l := []api.Rec{{"a", "b"}, {"c"}, {}, {"d"}}
	b, _ := field.Encode(l)
	whole := b[:cap(b)]
	for i := range whole {
		whole[i] = 0x55
	}
	again, _ := field.Encode(l)
	back, e := field.Decode(again)
	if !field.Same(back, l) || e != api.OK {
		t.Fatalf("%q, %d", back, e)
	}
	for i := range back {
		own := back[i][:cap(back[i])]
		for k := range own {
			own[k] = "changed"
		}
		if !field.Same(back[i+1:], l[i+1:]) {
			t.Errorf("writing to record %d changed another one: %q", i, back)
		}
		back[i] = append(back[i], "more")
		if !field.Same(back[i+1:], l[i+1:]) {
			t.Errorf("appending to record %d changed another one: %q", i, back)
		}
	}
	pairs := []api.Pair{{K: "a", V: "b"}}
	lines := field.Lines(pairs)
	clear(lines[:cap(lines)])
	if s := string(field.Lines(pairs)); s != "a\tb\n" {
		t.Errorf("the same pairs give other lines the second time: %q", s)
	}
	words := field.Words("a b c")
	clear(words[:cap(words)])
	if w := field.Words("a b c"); !slices.Equal(w, []string{"a", "b", "c"}) {
		t.Errorf("the same string has other words the second time: %q", w)
	}
}

func FuzzField(f *testing.F) {
	f.Add([]byte("\x02\x02\x01a\x00\x00"))
	f.Add([]byte("\x01\x33"))
	f.Add([]byte("a\\\\\tb\\n\\t\n"))
	f.Add([]byte("\\x\t\n"))
	f.Add([]byte(" a  bc "))
	f.Fuzz(func(t *testing.T, b []byte) {
		// Beyond some size the plain functions of this test take too long.
		b = b[:min(len(b), 3000)]
		checkDecode(t, b)
		checkPairs(t, string(b))
		checkText(t, string(b))
		checkRecords(t, []api.Rec{{string(b), ""}, {}})
		checkLines(t, []api.Pair{{K: string(b), V: "x"}, {V: string(b)}})
	})
}
