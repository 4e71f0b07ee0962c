package value_test

import (
	"hash/fnv"
	"math"
	"math/big"
	"math/rand"
	"regexp"
	"slices"
	"strings"
	"testing"

	"threshing/api"
	"threshing/value"
)

const (
	least    = math.MinInt64
	greatest = math.MaxInt64
)

// signatures has for each operation the kinds of its arguments (n: a number, t:
// a string, s: a value of the same kind as the others) and that of its result.
var signatures = map[int][2]string{
	4: {"nn", "n"}, 5: {"nn", "n"}, 6: {"nn", "n"}, 7: {"nn", "n"}, 8: {"nn", "n"},
	9: {"tt", "t"}, 10: {"t", "n"}, 11: {"tnn", "t"}, 12: {"t", "t"}, 13: {"t", "t"},
	14: {"ss", "n"}, 15: {"ss", "n"}, 16: {"n", "n"}, 17: {"nss", "s"},
	18: {"t", "n"}, 19: {"n", "t"}, 20: {"t", "n"}, 21: {"tt", "n"},
}

// notOperations are numbers of which there is no operation.
var notOperations = []int{least, -1 << 32, -4, -1, 0, 1, 2, 3, 22, 23, 24, 255, 256 + 4, 1<<32 + 4, greatest}

// numbers are numbers of all sizes.
var numbers = []int{
	0, 1, -1, 2, -2, 3, -3, 7, -7, 10, 97, 999, 1000, 1001, 1 << 31, -1 << 31, 1 << 32, 1<<32 + 1, 1<<62 + 3,
	-1 << 62, 999999999999999999, 1000000000000000000, -999999999999999999, greatest, greatest - 1, least, least + 1,
}

// texts are strings of all sizes.
var texts = []string{
	"", "a", "b", "ab", "ba", "abab", "aab", "A", "aZ{", "z`@[", "\x00", "\xff", "a\x00", "\u00e9\u00c9\u00df", "\u212a\u0130\u0131", "\xe9\x80",
	"0", "-0", "00", "7", "-7", "-012", "+1", "--1", "-", "1-", " 1", "1 ", "1x", "1_0", "0x1", "1e3", "1.0", "\u0661", "1\n",
	"123456789012345678", "-123456789012345678", "1234567890123456789", "-1234567890123456789", "000000000000000001", "0000000000000000001",
	"-000000000000000009", "999999999999999999", "-999999999999999999", "9223372036854775808",
	long(63), long(64), long(999), long(1000), strings.Repeat("Zz", 500), strings.Repeat("\u00e9", 500), strings.Repeat("1", 1000),
}

// notValues are not values.
var notValues = []api.Val{
	{IsText: true, N: 1}, {IsText: true, N: -1, S: "a"}, {IsText: true, N: least, S: long(1000)}, {IsText: true, N: 1, S: long(1001)},
	{IsText: true, S: long(1001)}, {IsText: true, S: long(5000)},
	{S: "a"}, {N: 1, S: "a"}, {S: "\x00"}, {N: -1, S: "1"}, {S: long(1000)}, {N: 2, S: long(1001)},
}

// num returns a number as a value.
func num(n int) api.Val { return api.Val{N: n} }

// text returns a string as a value.
func text(s string) api.Val { return api.Val{IsText: true, S: s} }

// long returns a string of n bytes, the last of which differs from the others.
func long(n int) string { return strings.Repeat("x", n-1) + "y" }

// samples returns numbers and strings as values.
func samples() []api.Val {
	var l []api.Val
	for _, n := range numbers {
		l = append(l, num(n))
	}
	for _, s := range texts {
		l = append(l, text(s))
	}
	return l
}

// listed calls check with all lists of n of the elements.
func listed[T any](elements []T, n int, check func(l []T)) {
	if n == 0 {
		check(nil)
		return
	}
	listed(elements, n-1, func(l []T) {
		for _, x := range elements {
			check(append(slices.Clone(l), x))
		}
	})
}

// eachString calls check with all strings of at most most of the letters.
func eachString(letters []string, most int, check func(s string)) {
	for n := range most + 1 {
		listed(letters, n, func(l []string) { check(strings.Join(l, "")) })
	}
}

// letters returns for each kind n for a number and t for a string.
func letters(kinds []bool) string {
	var out []byte
	for _, isText := range kinds {
		if isText {
			out = append(out, 't')
		} else {
			out = append(out, 'n')
		}
	}
	return string(out)
}

// kindsOf tells of each value whether it is a string.
func kindsOf(l []api.Val) []bool {
	var kinds []bool
	for _, v := range l {
		kinds = append(kinds, v.IsText)
	}
	return kinds
}

// wantMay tells by the words of the document whether v is a value.
func wantMay(v api.Val) bool {
	return v.IsText && v.N == 0 && len(v.S) <= 1000 || !v.IsText && len(v.S) == 0
}

// wantResult tells what Result returns, by the signatures. It tries both kinds
// as the one that is the same for several values.
func wantResult(op int, args []bool) (bool, api.Errno) {
	x, ok := signatures[op]
	if !ok {
		return false, api.ErrArg
	}
	for _, same := range []string{"n", "t"} {
		if letters(args) == strings.ReplaceAll(x[0], "s", same) {
			return strings.ReplaceAll(x[1], "s", same) == "t", api.OK
		}
	}
	return false, api.ErrType
}

// wrapped returns x modulo 2^64 as an int.
func wrapped(x *big.Int) api.Val {
	mask := new(big.Int).SetUint64(math.MaxUint64)
	return num(int(new(big.Int).And(x, mask).Uint64()))
}

// wantArithmetic returns what the operations 4 to 8 return, by numbers of any
// size.
func wantArithmetic(op, n, m int) api.Val {
	a, b, x := big.NewInt(int64(n)), big.NewInt(int64(m)), new(big.Int)
	switch {
	case op == 4:
		return wrapped(x.Add(a, b))
	case op == 5:
		return wrapped(x.Sub(a, b))
	case op == 6:
		return wrapped(x.Mul(a, b))
	case m == 0:
		return num(0)
	case op == 7:
		return wrapped(x.Quo(a, b))
	}
	return wrapped(x.Rem(a, b))
}

// cut returns s without the bytes behind the first 1000.
func cut(s string) api.Val {
	if len(s) > 1000 {
		s = s[:1000]
	}
	return text(s)
}

// truth returns 1 or 0.
func truth(b bool) api.Val {
	if b {
		return num(1)
	}
	return num(0)
}

// wantSlice takes byte after byte.
func wantSlice(s string, from, n int) string {
	from, n = max(from, 0), max(n, 0)
	out := ""
	for i := range len(s) {
		if i >= from && len(out) < n {
			out += s[i : i+1]
		}
	}
	return out
}

// wantCase replaces the letters of one alphabet by those of the other.
func wantCase(s, from, to string) string {
	out := make([]byte, len(s))
	for i := range len(s) {
		out[i] = s[i]
		if k := strings.IndexByte(from, s[i]); k >= 0 {
			out[i] = to[k]
		}
	}
	return string(out)
}

// wantLess compares the bytes of strings and the numbers.
func wantLess(a, b api.Val) bool {
	if a.IsText != b.IsText {
		return b.IsText
	}
	return a.N < b.N || slices.Compare([]byte(a.S), []byte(b.S)) < 0
}

// numeral is a string that represents a number.
var numeral = regexp.MustCompile(`\A-?[0-9]{1,18}\z`)

// wantNum returns the number that s represents.
func wantNum(s string) int {
	if !numeral.MatchString(s) {
		return 0
	}
	x, _ := new(big.Int).SetString(s, 10)
	return int(x.Int64())
}

// wantHash returns the hash by that of the library.
func wantHash(s string) int {
	h := fnv.New32a()
	h.Write([]byte(s))
	return int(h.Sum32() % (1 << 31))
}

// wantFind looks at each offset.
func wantFind(s, part string) int {
	for i := 0; i+len(part) <= len(s); i++ {
		if s[i:i+len(part)] == part {
			return i
		}
	}
	return -1
}

// wantDo tells what Do returns, by the words of the document.
func wantDo(op int, l []api.Val) (api.Val, api.Errno) {
	for _, v := range l {
		if !wantMay(v) {
			return api.Val{}, api.ErrArg
		}
	}
	if _, e := wantResult(op, kindsOf(l)); e != api.OK {
		return api.Val{}, e
	}
	const small, capital = "abcdefghijklmnopqrstuvwxyz", "ABCDEFGHIJKLMNOPQRSTUVWXYZ"
	switch op {
	case 9:
		return cut(l[0].S + l[1].S), api.OK
	case 10:
		return num(len(l[0].S)), api.OK
	case 11:
		return text(wantSlice(l[0].S, l[1].N, l[2].N)), api.OK
	case 12:
		return text(wantCase(l[0].S, small, capital)), api.OK
	case 13:
		return text(wantCase(l[0].S, capital, small)), api.OK
	case 14:
		return truth(!wantLess(l[0], l[1]) && !wantLess(l[1], l[0])), api.OK
	case 15:
		return truth(wantLess(l[0], l[1])), api.OK
	case 16:
		return truth(l[0].N == 0), api.OK
	case 17:
		if l[0].N == 0 {
			return l[2], api.OK
		}
		return l[1], api.OK
	case 18:
		return num(wantNum(l[0].S)), api.OK
	case 19:
		return text(big.NewInt(int64(l[0].N)).String()), api.OK
	case 20:
		return num(wantHash(l[0].S)), api.OK
	case 21:
		return num(wantFind(l[0].S, l[1].S)), api.OK
	}
	return wantArithmetic(op, l[0].N, l[1].N), api.OK
}

// checkDo compares Do, and what it returns with what Result reports.
func checkDo(t *testing.T, op int, l ...api.Val) {
	t.Helper()
	got, e := value.Do(op, l)
	if want, wantE := wantDo(op, l); got != want || e != wantE {
		t.Errorf("Do(%d, %.60v): %.60v, %d instead of %.60v, %d", op, l, got, e, want, wantE)
	}
	if !wantMay(got) {
		t.Errorf("Do(%d, %.60v) is not a value: %.60v", op, l, got)
	}
	if e != api.OK {
		return
	}
	if isText, e := value.Result(op, kindsOf(l)); e != api.OK || got.IsText != isText {
		t.Errorf("Do(%d, %.60v): %.60v, but Result: %v, %d", op, l, got, isText, e)
	}
}

// checkResult compares Result.
func checkResult(t *testing.T, op int, args []bool) {
	t.Helper()
	got, e := value.Result(op, args)
	if want, wantE := wantResult(op, args); got != want || e != wantE {
		t.Errorf("Result(%d, %.60v): %v, %d instead of %v, %d", op, args, got, e, want, wantE)
	}
}

// checkCompare compares Compare, both ways.
func checkCompare(t *testing.T, a, b api.Val) {
	t.Helper()
	want := 0
	if wantLess(a, b) {
		want = -1
	} else if wantLess(b, a) {
		want = 1
	}
	if got, back := value.Compare(a, b), value.Compare(b, a); got != want || back != -want {
		t.Errorf("Compare of %.60v and %.60v: %d, and the other way %d, instead of %d", a, b, got, back, want)
	}
}

func TestArity(t *testing.T) {
	for op := 4; op <= 21; op++ {
		if got, want := value.Arity(op), len(signatures[op][0]); got != want {
			t.Errorf("Arity(%d): %d instead of %d", op, got, want)
		}
	}
	for _, op := range notOperations {
		if got := value.Arity(op); got != 0 {
			t.Errorf("Arity(%d): %d", op, got)
		}
	}
}

func TestResult(t *testing.T) {
	for _, x := range []struct {
		op   int
		args []bool
		want bool
		e    api.Errno
	}{
		{4, []bool{false, false}, false, api.OK},
		{9, []bool{true, true}, true, api.OK},
		{10, []bool{true}, false, api.OK},
		{11, []bool{true, false, false}, true, api.OK},
		{14, []bool{true, true}, false, api.OK},
		{15, []bool{false, false}, false, api.OK},
		{17, []bool{false, true, true}, true, api.OK},
		{17, []bool{false, false, false}, false, api.OK},
		{19, []bool{false}, true, api.OK},
		{4, []bool{false, true}, false, api.ErrType},
		{9, []bool{true, false}, false, api.ErrType},
		{14, []bool{true, false}, false, api.ErrType},
		{15, []bool{false, true}, false, api.ErrType},
		{16, []bool{true}, false, api.ErrType},
		{17, []bool{false, true, false}, false, api.ErrType},
		{17, []bool{false, false, true}, false, api.ErrType},
		{17, []bool{true, true, true}, false, api.ErrType},
		{9, nil, false, api.ErrType},
		{9, []bool{true}, false, api.ErrType},
		{9, []bool{true, true, true}, false, api.ErrType},
		{3, []bool{true, true}, false, api.ErrArg},
		{22, nil, false, api.ErrArg},
	} {
		if got, e := value.Result(x.op, x.args); got != x.want || e != x.e {
			t.Errorf("Result(%d, %v): %v, %d instead of %v, %d", x.op, x.args, got, e, x.want, x.e)
		}
	}
}

func TestResultOfAllKinds(t *testing.T) {
	for n := range 6 {
		listed([]bool{false, true}, n, func(args []bool) {
			for op := -2; op <= 25; op++ {
				checkResult(t, op, args)
			}
			for _, op := range notOperations {
				checkResult(t, op, args)
			}
		})
	}
	for op := range 25 {
		checkResult(t, op, make([]bool, 100000))
	}
}

func TestNumbers(t *testing.T) {
	for _, x := range []struct{ op, a, b, want int }{
		{4, 2, 3, 5}, {4, greatest, 1, least}, {4, least, -1, greatest}, {4, least, least, 0},
		{5, 2, 3, -1}, {5, least, 1, greatest}, {5, 0, least, least},
		{6, -2, 3, -6}, {6, 1 << 32, 1 << 32, 0}, {6, least, -1, least}, {6, greatest, greatest, 1}, {6, 1<<32 + 1, 1<<32 + 1, 1<<33 + 1},
		{7, 7, 2, 3}, {7, -7, 2, -3}, {7, 7, -2, -3}, {7, -7, -2, 3}, {7, 1, 2, 0}, {7, -1, 2, 0},
		{7, 7, 0, 0}, {7, 0, 0, 0}, {7, least, 0, 0}, {7, least, -1, least}, {7, greatest, -1, -greatest}, {7, least, 1, least}, {7, least, least, 1},
		{8, 7, 2, 1}, {8, -7, 2, -1}, {8, 7, -2, 1}, {8, -7, -2, -1}, {8, 3, 5, 3}, {8, -3, 5, -3},
		{8, 7, 0, 0}, {8, least, 0, 0}, {8, least, -1, 0}, {8, 7, -1, 0}, {8, -7, -1, 0}, {8, 7, 1, 0}, {8, greatest, least, greatest}, {8, least, greatest, -1},
	} {
		if got, e := value.Do(x.op, []api.Val{num(x.a), num(x.b)}); got != num(x.want) || e != api.OK {
			t.Errorf("Do(%d) of %d and %d: %v, %d instead of %d", x.op, x.a, x.b, got, e, x.want)
		}
	}
}

func TestRandomNumbers(t *testing.T) {
	r := rand.New(rand.NewSource(1))
	random := func() api.Val { return num(int(r.Uint64()) >> r.Intn(64)) }
	for range 20000 {
		for op := 4; op <= 8; op++ {
			checkDo(t, op, random(), random())
		}
		checkDo(t, 14, random(), random())
		checkDo(t, 15, random(), random())
		checkDo(t, 16, random())
		checkDo(t, 17, random(), random(), random())
		checkDo(t, 19, random())
	}
}

func TestSmallNumbers(t *testing.T) {
	for n := -20; n <= 20; n++ {
		for m := -20; m <= 20; m++ {
			for op := 4; op <= 21; op++ {
				checkDo(t, op, num(n), num(m))
			}
		}
	}
}

func TestStrings(t *testing.T) {
	for _, x := range []struct {
		op   int
		args []api.Val
		want api.Val
	}{
		{9, []api.Val{text("a"), text("bc")}, text("abc")},
		{9, []api.Val{text(""), text("")}, text("")},
		{10, []api.Val{text("")}, num(0)},
		{10, []api.Val{text("\u00e9a")}, num(3)},
		{10, []api.Val{text(long(1000))}, num(1000)},
		{11, []api.Val{text("abc"), num(1), num(5)}, text("bc")},
		{11, []api.Val{text("abc"), num(1), num(1)}, text("b")},
		{11, []api.Val{text("abc"), num(-5), num(2)}, text("ab")},
		{11, []api.Val{text("abc"), num(3), num(1)}, text("")},
		{11, []api.Val{text("abc"), num(9), num(2)}, text("")},
		{11, []api.Val{text("abc"), num(1), num(-1)}, text("")},
		{11, []api.Val{text("abc"), num(1), num(greatest)}, text("bc")},
		{11, []api.Val{text("abc"), num(greatest), num(greatest)}, text("")},
		{11, []api.Val{text("abc"), num(least), num(greatest)}, text("abc")},
		{11, []api.Val{text("abc"), num(0), num(least)}, text("")},
		{11, []api.Val{text("abc"), num(1 << 32), num(1)}, text("")},
		{11, []api.Val{text("abc"), num(0), num(1 << 32)}, text("abc")},
		{11, []api.Val{text("\u00e9"), num(1), num(1)}, text("\xa9")},
		{12, []api.Val{text("azAZ`{@[09")}, text("AZAZ`{@[09")},
		{13, []api.Val{text("azAZ`{@[09")}, text("azaz`{@[09")},
		{12, []api.Val{text("\u00e9\xff\x00")}, text("\u00e9\xff\x00")},
		{13, []api.Val{text("\u00c9\u212a\xff\xc1")}, text("\u00c9\u212a\xff\xc1")},
		{14, []api.Val{text("a"), text("a")}, num(1)},
		{14, []api.Val{text("a"), text("A")}, num(0)},
		{14, []api.Val{text(""), text("\x00")}, num(0)},
		{14, []api.Val{num(5), num(5)}, num(1)},
		{14, []api.Val{num(5), num(-5)}, num(0)},
		{15, []api.Val{text("a"), text("b")}, num(1)},
		{15, []api.Val{text("b"), text("a")}, num(0)},
		{15, []api.Val{text("a"), text("a")}, num(0)},
		{15, []api.Val{text("a"), text("ab")}, num(1)},
		{15, []api.Val{text("B"), text("a")}, num(1)},
		{15, []api.Val{text("z"), text("\xff")}, num(1)},
		{15, []api.Val{text("10"), text("9")}, num(1)},
		{15, []api.Val{num(10), num(9)}, num(0)},
		{15, []api.Val{num(least), num(greatest)}, num(1)},
		{15, []api.Val{num(9), num(9)}, num(0)},
		{16, []api.Val{num(0)}, num(1)},
		{16, []api.Val{num(1)}, num(0)},
		{16, []api.Val{num(-1)}, num(0)},
		{16, []api.Val{num(least)}, num(0)},
		{17, []api.Val{num(1), text("a"), text("b")}, text("a")},
		{17, []api.Val{num(0), text("a"), text("b")}, text("b")},
		{17, []api.Val{num(-1), num(5), num(6)}, num(5)},
		{17, []api.Val{num(1 << 32), num(5), num(6)}, num(5)},
		{17, []api.Val{num(0), num(5), num(6)}, num(6)},
		{19, []api.Val{num(0)}, text("0")},
		{19, []api.Val{num(-5)}, text("-5")},
		{19, []api.Val{num(greatest)}, text("9223372036854775807")},
		{19, []api.Val{num(least)}, text("-9223372036854775808")},
		{21, []api.Val{text("abab"), text("b")}, num(1)},
		{21, []api.Val{text("abab"), text("abab")}, num(0)},
		{21, []api.Val{text("aab"), text("ab")}, num(1)},
		{21, []api.Val{text("ab"), text("c")}, num(-1)},
		{21, []api.Val{text("ab"), text("abc")}, num(-1)},
		{21, []api.Val{text("ab"), text("")}, num(0)},
		{21, []api.Val{text(""), text("")}, num(0)},
		{21, []api.Val{text(""), text("a")}, num(-1)},
		{21, []api.Val{text("\u00e9b"), text("b")}, num(2)},
		{21, []api.Val{text("\u00e9"), text("\xa9")}, num(1)},
		{21, []api.Val{text(long(1000)), text("y")}, num(999)},
	} {
		if got, e := value.Do(x.op, x.args); got != x.want || e != api.OK {
			t.Errorf("Do(%d, %.60v): %.60v, %d instead of %.60v", x.op, x.args, got, e, x.want)
		}
	}
}

func TestJoinIsTruncated(t *testing.T) {
	for _, n := range []int{1, 500, 999, 1000} {
		for _, m := range []int{1, 2, 499, 500, 501, 999, 1000} {
			a, b := strings.Repeat("a", n), long(m)
			want := a + b
			want = want[:min(n+m, 1000)]
			if got, e := value.Do(9, []api.Val{text(a), text(b)}); got != text(want) || e != api.OK {
				t.Errorf("Join of %d and %d bytes: %d bytes, %d", n, m, len(got.S), e)
			}
		}
	}
	// Bytes are counted, not runes: the last one is half of one.
	got, e := value.Do(9, []api.Val{text(strings.Repeat("\u00e9", 499) + "a"), text("\u00e9")})
	if e != api.OK || len(got.S) != 1000 || got.S[998:] != "a\xc3" {
		t.Errorf("Join that ends within a rune: %d bytes, %d", len(got.S), e)
	}
}

func TestSlicesOfShortStrings(t *testing.T) {
	bounds := []int{least, -2, -1, 0, 1, 2, 3, 4, 5, 6, greatest - 1, greatest}
	for _, s := range []string{"", "a", "ab", "abc", "abcd", "\u00e9\u00e9"} {
		for _, from := range bounds {
			for _, n := range bounds {
				checkDo(t, 11, text(s), num(from), num(n))
			}
		}
	}
}

func TestCaseOfAllBytes(t *testing.T) {
	for c := range 256 {
		for d := range 256 {
			s := string([]byte{byte(c), byte(d)})
			checkDo(t, 12, text(s))
			checkDo(t, 13, text(s))
		}
	}
}

func TestShortStrings(t *testing.T) {
	// All pairs of strings of at most 4 bytes, with occurrences that overlap.
	var l []string
	eachString([]string{"a", "B", "\xff"}, 4, func(s string) { l = append(l, s) })
	for _, s := range l {
		for op := 4; op <= 21; op++ {
			checkDo(t, op, text(s))
		}
		for _, part := range l {
			for _, op := range []int{9, 14, 15, 21} {
				checkDo(t, op, text(s), text(part))
			}
			checkCompare(t, text(s), text(part))
		}
	}
}

func TestNumOfStrings(t *testing.T) {
	for _, x := range []struct {
		s    string
		want int
	}{
		{"0", 0}, {"7", 7}, {"-7", -7}, {"-0", 0}, {"000", 0}, {"-012", -12}, {"007", 7},
		{"123456789012345678", 123456789012345678}, {"-123456789012345678", -123456789012345678},
		{"999999999999999999", 999999999999999999}, {"-999999999999999999", -999999999999999999},
		{"000000000000000001", 1}, {"-000000000000000001", -1},
		{"", 0}, {"-", 0}, {"--1", 0}, {"+1", 0}, {"-+1", 0}, {"1-", 0}, {"1-1", 0}, {" 1", 0}, {"1 ", 0}, {"- 1", 0}, {"1x", 0}, {"x1", 0},
		{"1_000", 0}, {"0x10", 0}, {"1e1", 0}, {"1.0", 0}, {"1\n", 0}, {"1\x00", 0}, {"1/", 0}, {"1:", 0}, {"\u0661", 0}, {"\u22121", 0},
		{"1234567890123456789", 0}, {"-1234567890123456789", 0}, {"0000000000000000001", 0}, {"-0000000000000000001", 0}, {strings.Repeat("1", 1000), 0},
	} {
		if got, e := value.Do(18, []api.Val{text(x.s)}); got != num(x.want) || e != api.OK {
			t.Errorf("Num of %.60q: %v, %d instead of %d", x.s, got, e, x.want)
		}
	}
}

func TestNumOfShortStrings(t *testing.T) {
	eachString([]string{"-", "+", "0", "1", "9", "/", ":", " ", "a"}, 4, func(s string) { checkDo(t, 18, text(s)) })
	for c := range 256 {
		for _, s := range []string{"", "-", "1"} {
			checkDo(t, 18, text(s+string([]byte{byte(c)})))
			checkDo(t, 18, text(s+string([]byte{byte(c)})+"2"))
		}
	}
	for n := range 25 {
		for _, sign := range []string{"", "-", "--", "+"} {
			for _, digit := range []string{"0", "1", "9"} {
				checkDo(t, 18, text(sign+strings.Repeat(digit, n)))
				checkDo(t, 18, text(sign+strings.Repeat("0", n)+"5"+digit))
			}
		}
	}
}

func TestTextIsReadByNum(t *testing.T) {
	for _, n := range numbers {
		s, _ := value.Do(19, []api.Val{num(n)})
		want := n
		if n > 999999999999999999 || n < -999999999999999999 {
			want = 0 // more than 18 digits
		}
		if got, e := value.Do(18, []api.Val{s}); got != num(want) || e != api.OK {
			t.Errorf("Num of Text of %d: %v, %d", n, got, e)
		}
	}
}

func TestHash(t *testing.T) {
	for s, want := range map[string]int{"": 0x011c9dc5, "a": 0x640c292c, "b": 0x670c2de5, "foobar": 0x3f9cf968} {
		if got := value.Hash(s); got != want {
			t.Errorf("Hash(%q): %#x instead of %#x", s, got, want)
		}
	}
	for _, s := range texts {
		got, e := value.Do(20, []api.Val{text(s)})
		if got != num(value.Hash(s)) || value.Hash(s) != wantHash(s) || e != api.OK {
			t.Errorf("hash of %.60q: %v, %d, and by Hash %d, instead of %d", s, got, e, value.Hash(s), wantHash(s))
		}
	}
	for c := range 256 {
		s := string([]byte{byte(c), 'a', byte(c)})
		if got := value.Hash(s); got != wantHash(s) {
			t.Errorf("Hash(%q): %d instead of %d", s, got, wantHash(s))
		}
	}
	// A string that is too long for a value has a hash of all its bytes.
	if got := value.Hash(long(1001)); got != wantHash(long(1001)) {
		t.Errorf("Hash of 1001 bytes: %d", got)
	}
}

func TestValues(t *testing.T) {
	for _, n := range numbers {
		if got := value.Num(n); got != num(n) {
			t.Errorf("Num(%d): %v", n, got)
		}
	}
	for _, s := range texts {
		if got := value.Text(s); got != text(s) {
			t.Errorf("Text(%.60q): %.60v", s, got)
		}
	}
	for _, n := range []int{1001, 1002, 2000, 100000} {
		s := strings.Repeat("a", 999) + "b" + strings.Repeat("c", n-1000)
		if got := value.Text(s); got != text(s[:1000]) {
			t.Errorf("Text of %d bytes: %d", n, len(got.S))
		}
	}
	if got := value.Text(strings.Repeat("a", 999) + "\u00e9"); got != text(strings.Repeat("a", 999)+"\xc3") {
		t.Errorf("Text that ends within a rune: %d bytes", len(got.S))
	}
}

func TestCompare(t *testing.T) {
	for _, x := range []struct {
		a, b api.Val
		want int
	}{
		{num(1), num(2), -1}, {num(2), num(2), 0}, {num(3), num(2), 1}, {num(least), num(greatest), -1}, {num(greatest), num(least), 1}, {num(-1), num(0), -1},
		{text("a"), text("b"), -1}, {text("a"), text("a"), 0}, {text("b"), text("a"), 1}, {text(""), text("a"), -1}, {text("aa"), text("b"), -1}, {text("a"), text("a\x00"), -1},
		{text("Z"), text("a"), -1}, {text("\xff"), text("\u00e9"), 1}, {text("10"), text("9"), -1},
		{num(9), text(""), -1}, {text(""), num(9), 1}, {num(greatest), text("\x00"), -1}, {text("0"), num(0), 1}, {num(0), text("0"), -1}, {text(""), num(0), 1},
	} {
		if got := value.Compare(x.a, x.b); got != x.want {
			t.Errorf("Compare(%v, %v): %d", x.a, x.b, got)
		}
	}
	l := samples()
	for _, a := range l {
		for _, b := range l {
			checkCompare(t, a, b)
		}
	}
	// A sorted list has the numbers first, and its order is that of Less.
	slices.SortFunc(l, value.Compare)
	for i := range len(l) - 1 {
		if l[i].IsText && !l[i+1].IsText || wantLess(l[i+1], l[i]) {
			t.Errorf("sorted: %.60v before %.60v", l[i], l[i+1])
		}
	}
}

func TestOperationsOnSamples(t *testing.T) {
	// All values of the samples in all places, of the kinds of the operation or not.
	l := samples()
	for op := 3; op <= 22; op++ {
		for n := range 3 {
			listed(l, n, func(args []api.Val) { checkDo(t, op, args...) })
		}
	}
}

func TestThreeSamples(t *testing.T) {
	// What takes three values takes a string and two numbers, or a number and two values.
	l := samples()
	numerals, strs := l[:len(numbers)], l[len(numbers):]
	for _, n := range numerals {
		for _, m := range numerals {
			for _, s := range strs {
				checkDo(t, 11, s, n, m)
				checkDo(t, 17, n, m, s)
				checkDo(t, 17, n, s, m)
			}
			for _, k := range numerals {
				checkDo(t, 11, n, m, k)
				checkDo(t, 17, n, m, k)
			}
		}
		for _, s := range strs {
			for _, other := range strs {
				checkDo(t, 17, n, s, other)
				checkDo(t, 17, s, s, other)
				checkDo(t, 11, s, other, n)
				checkDo(t, 11, s, n, other)
			}
		}
	}
}

func TestOtherNumbersOfArguments(t *testing.T) {
	for op := 4; op <= 21; op++ {
		for _, v := range []api.Val{num(1), text("a")} {
			for n := range 6 {
				checkDo(t, op, slices.Repeat([]api.Val{v}, n)...)
			}
			many := slices.Repeat([]api.Val{v}, 10000)
			if got, e := value.Do(op, many); got != (api.Val{}) || e != api.ErrType {
				t.Errorf("Do(%d) of many arguments: %v, %d", op, got, e)
			}
		}
	}
}

func TestNotOperations(t *testing.T) {
	for _, op := range notOperations {
		for n := range 4 {
			listed([]api.Val{num(1), text("a")}, n, func(l []api.Val) {
				if got, e := value.Do(op, l); got != (api.Val{}) || e != api.ErrArg {
					t.Errorf("Do(%d, %v): %v, %d", op, l, got, e)
				}
			})
		}
	}
}

func TestNotValues(t *testing.T) {
	// Whatever the other arguments are, and before their kinds and number.
	for _, x := range notValues {
		for op := 2; op <= 23; op++ {
			for n := range 4 {
				listed([]api.Val{num(0), num(1), text("a"), text("1")}, n, func(l []api.Val) {
					for i := range n + 1 {
						args := slices.Insert(slices.Clone(l), i, x)
						if got, e := value.Do(op, args); got != (api.Val{}) || e != api.ErrArg {
							t.Fatalf("Do(%d, %.60v): %.60v, %d", op, args, got, e)
						}
					}
				})
			}
		}
	}
	many := append(slices.Repeat([]api.Val{num(1)}, 10000), notValues[0])
	if got, e := value.Do(4, many); got != (api.Val{}) || e != api.ErrArg {
		t.Errorf("Do of many arguments, the last of which is not a value: %v, %d", got, e)
	}
}

func TestLongestValues(t *testing.T) {
	// Strings of 1000 bytes are values, of 1001 bytes are not.
	if got, e := value.Do(10, []api.Val{text(long(1000))}); got != num(1000) || e != api.OK {
		t.Errorf("Len of 1000 bytes: %v, %d", got, e)
	}
	if got, e := value.Do(10, []api.Val{text(long(1001))}); got != (api.Val{}) || e != api.ErrArg {
		t.Errorf("Len of 1001 bytes: %v, %d", got, e)
	}
}

func TestArgumentsStay(t *testing.T) {
	for op := 3; op <= 22; op++ {
		for n := range 5 {
			listed([]api.Val{num(5), text("aB")}, n, func(l []api.Val) {
				args := append(slices.Clone(l), text("beyond"), num(1))
				value.Do(op, args[:n])
				if !slices.Equal(args[:n], l) || args[n] != text("beyond") || args[n+1] != num(1) {
					t.Errorf("Do(%d) changed its arguments %v: %v", op, l, args)
				}
				kinds := append(kindsOf(l), true, false)
				value.Result(op, kinds[:n])
				if !slices.Equal(kinds[:n], kindsOf(l)) || !kinds[n] || kinds[n+1] {
					t.Errorf("Result(%d) changed its arguments %v: %v", op, l, kinds)
				}
			})
		}
	}
}

func TestMemoryBeyondLengthIsIgnored(t *testing.T) {
	args := []api.Val{text("a"), text("b"), notValues[0]}
	if got, e := value.Do(9, args[:2]); got != text("ab") || e != api.OK {
		t.Errorf("Do of arguments that go on beyond the length: %v, %d", got, e)
	}
	if got, e := value.Do(9, args[:1]); got != (api.Val{}) || e != api.ErrType {
		t.Errorf("Do of one argument that goes on beyond the length: %v, %d", got, e)
	}
	if got, e := value.Result(9, []bool{true, true, true}[:2]); !got || e != api.OK {
		t.Errorf("Result of kinds that go on beyond the length: %v, %d", got, e)
	}
}

func TestLastingResults(t *testing.T) {
	// A call has no effect on the next ones.
	first, _ := value.Do(9, []api.Val{text("ab"), text("cd")})
	for op := 3; op <= 22; op++ {
		value.Do(op, []api.Val{first, first})
		value.Do(op, []api.Val{num(op), num(op)})
	}
	again, e := value.Do(9, []api.Val{text("ab"), text("cd")})
	if first != text("abcd") || again != first || e != api.OK {
		t.Errorf("Join twice: %v, then %v, %d", first, again, e)
	}
}

func FuzzValue(f *testing.F) {
	f.Add(9, 0, 0, 0, "ab", "c")
	f.Add(7, least, -1, 0, "-12", "")
	f.Add(11, 1, 5, 1, "abc", "b")
	f.Add(18, 0, greatest, -1, "123456789012345678", long(1001))
	f.Add(22, 1, 2, 3, "\xff", "Zz")
	f.Fuzz(func(t *testing.T, op, n, m, k int, a, b string) {
		l := []api.Val{num(n), num(m), num(k), text(a), text(b), value.Text(a), value.Text(b), {IsText: true, N: n, S: a}, {N: n, S: b}}
		for count := range 4 {
			listed(l, count, func(args []api.Val) {
				checkDo(t, op, args...)
				checkResult(t, op, kindsOf(args))
			})
		}
		for o := 4; o <= 21; o++ {
			checkDo(t, o, l[5])
			checkDo(t, o, l[0])
			checkDo(t, o, l[5], l[6])
			checkDo(t, o, l[0], l[1])
			checkDo(t, o, l[5], l[1], l[2])
			checkDo(t, o, l[0], l[5], l[6])
		}
		checkCompare(t, value.Text(a), value.Text(b))
		checkCompare(t, num(n), num(m))
		checkCompare(t, num(n), value.Text(a))
		if value.Hash(a) != wantHash(a) {
			t.Errorf("Hash(%.60q): %d", a, value.Hash(a))
		}
		if value.Text(a) != cut(a) || value.Num(n) != num(n) {
			t.Errorf("Text(%.60q): %.60v, Num(%d): %v", a, value.Text(a), n, value.Num(n))
		}
	})
}
