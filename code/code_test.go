package code_test

import (
	"fmt"
	"math"
	"math/big"
	"math/rand"
	"regexp"
	"slices"
	"strconv"
	"strings"
	"testing"

	"threshing/api"
	"threshing/code"
	"threshing/value"
)

const (
	least    = math.MinInt64
	greatest = math.MaxInt64
)

// wantNames are the names of all instructions, from number 0 on.
var wantNames = strings.Split("num, text, field, count, add, sub, mul, div, mod, join, len, slice, upper, lower, eq, less, not, if, tonum, totext, hash, find, acc, item", ", ")

// notOps are numbers that no instructions have.
var notOps = []int{least, -1 << 32, -256, -24, -2, -1, 24, 25, 100, 255, 256, 256 + 4, 1 << 32, 1<<32 + 1, 1<<32 + 4, greatest}

// numbers are numbers of all sizes.
var numbers = []int{
	0, 1, -1, 2, 9, 10, -10, 48, 49, 50, 51, 99, 100, 256, -255, 1000, 1 << 31, -1 << 31, 1 << 32, 1<<32 + 49,
	999999999999999999, 1000000000000000000, -1000000000000000000, greatest - 1, greatest, least, least + 1,
}

// texts are strings of all kinds and sizes.
var texts = []string{
	"", "a", "abc", " ", "a b", `"`, `\`, "\n", `""`, `\\`, "\n\n", `\"`, `"\`, `\n`, "\\\n", "n", `\\n`, `\\\n`, `a"b\c` + "\nd",
	"\x00", "\r", "\r\n", "\t", `\t`, "\x7f", "\x80", "\xff\xfe", "\u00e9\u2028\u20ac", "\xe2\x80", "num 1", "'", "`", `\x41`, `\u0041`, `\'`,
	strings.Repeat("x", 999), strings.Repeat("x", 1000), strings.Repeat(`"`, 1000), strings.Repeat(`\`, 1000), strings.Repeat("\n", 1000),
	strings.Repeat(`n\`, 500), strings.Repeat("\u00e9", 500),
}

// tooLong are strings that no instruction has.
var tooLong = []string{strings.Repeat("x", 1001), strings.Repeat(`"`, 1001), strings.Repeat("\n", 5000), strings.Repeat("\u20ac", 334)}

// wantMay reports whether x is valid, by the words of the chapter.
func wantMay(x api.Ins) bool {
	known := x.Op == 0 || x.Op == 1 || x.Op == 2 || x.Op == 3 || 4 <= x.Op && x.Op <= 21 || x.Op == 22 || x.Op == 23
	return known &&
		(x.N == 0 || x.Op == 0 || x.Op == 2 && 0 <= x.N && x.N <= 49) &&
		(x.S == "" || x.Op == 1 && len(x.S) <= 1000)
}

// wantLine returns the line of the valid instruction x.
func wantLine(x api.Ins) string {
	line := wantNames[x.Op]
	switch x.Op {
	case 0, 2:
		line += " " + big.NewInt(int64(x.N)).String()
	case 1:
		line += ` "`
		for i := range len(x.S) {
			switch c := x.S[i]; c {
			case '"', '\\':
				line += `\` + string([]byte{c})
			case 10:
				line += `\n`
			default:
				line += string([]byte{c})
			}
		}
		line += `"`
	}
	return line
}

// lineForm is the form of a line, without the limits of its operand.
var lineForm = regexp.MustCompile(`(?s)\A(?:(num|field) (0|-?[1-9][0-9]*)|(text) "((?:[^"\\\n]|\\["\\n])*)"|([a-z]+))\z`)

// wantParse returns the valid instruction with the line s, and whether there
// is one.
func wantParse(s string) (api.Ins, bool) {
	m := lineForm.FindStringSubmatch(s)
	if m == nil {
		return api.Ins{}, false
	}
	x := api.Ins{Op: slices.Index(wantNames, m[1]+m[3]+m[5])}
	if x.Op < 0 || m[5] != "" && x.Op < 3 {
		return api.Ins{}, false
	}
	if m[2] != "" {
		n, err := strconv.ParseInt(m[2], 10, 64)
		if err != nil {
			return api.Ins{}, false
		}
		x.N = int(n)
	}
	for i := 0; i < len(m[4]); i++ {
		c := m[4][i]
		if c == '\\' {
			i++
			c = m[4][i]
			if c == 'n' {
				c = 10
			}
		}
		x.S += string([]byte{c})
	}
	return x, wantMay(x)
}

// valid returns valid instructions of all kinds.
func valid() []api.Ins {
	var l []api.Ins
	for _, n := range numbers {
		l = append(l, api.Ins{N: n})
	}
	for _, s := range texts {
		l = append(l, api.Ins{Op: 1, S: s})
	}
	for n := range 50 {
		l = append(l, api.Ins{Op: 2, N: n})
	}
	for op := 3; op <= 23; op++ {
		l = append(l, api.Ins{Op: op})
	}
	return l
}

// candidates returns all instructions with the given numbers and strings.
func candidates() []api.Ins {
	var l []api.Ins
	for op := -3; op < 30; op++ {
		l = append(l, withOp(op)...)
	}
	for _, op := range notOps {
		l = append(l, withOp(op)...)
	}
	return l
}

// withOp returns all instructions with the number op.
func withOp(op int) []api.Ins {
	var l []api.Ins
	for _, n := range numbers {
		for _, s := range []string{"", "a", "\x00", "0", "\n", texts[len(texts)-1], strings.Repeat("x", 1000), tooLong[0]} {
			l = append(l, api.Ins{Op: op, N: n, S: s})
		}
	}
	for _, s := range append(slices.Clone(texts), tooLong...) {
		l = append(l, api.Ins{Op: op, S: s}, api.Ins{Op: op, N: 1, S: s})
	}
	return l
}

// short returns s, or only the beginning of it if it is long.
func short(s string) string {
	if len(s) > 60 {
		return fmt.Sprintf("%q... (%d bytes)", s[:60], len(s))
	}
	return fmt.Sprintf("%q", s)
}

// shown returns how an instruction is shown in a message.
func shown(x api.Ins) string {
	return fmt.Sprintf("{%d %d %s}", x.Op, x.N, short(x.S))
}

// checkLine checks May and Line for one instruction, and Parse for its line.
func checkLine(t *testing.T, x api.Ins) {
	t.Helper()
	good := wantMay(x)
	if got := code.May(x); got != good {
		t.Errorf("May(%s) = %t", shown(x), got)
	}
	line, e := code.Line(x)
	if !good {
		if line != "" || e != api.ErrArg {
			t.Errorf("Line(%s) = %s, %d; want no line and ErrArg", shown(x), short(line), e)
		}
		return
	}
	if want := wantLine(x); line != want || e != api.OK {
		t.Errorf("Line(%s) = %s, %d; want %s", shown(x), short(line), e, short(want))
	}
	if y, e := code.Parse(line); y != x || e != api.OK {
		t.Errorf("Parse(%s) = %s, %d; want %s", short(line), shown(y), e, shown(x))
	}
}

// checkParse checks Parse for one string, and Line for what it returns.
func checkParse(t *testing.T, s string) {
	t.Helper()
	want, ok := wantParse(s)
	x, e := code.Parse(s)
	if !ok {
		if x != (api.Ins{}) || e != api.ErrForm {
			t.Errorf("Parse(%s) = %s, %d; want ErrForm", short(s), shown(x), e)
		}
		return
	}
	if x != want || e != api.OK {
		t.Errorf("Parse(%s) = %s, %d; want %s", short(s), shown(x), e, shown(want))
	}
	if line, e := code.Line(x); line != s || e != api.OK {
		t.Errorf("Line(%s) = %s, %d; want %s", shown(x), short(line), e, short(s))
	}
}

// wantPrint returns what Print returns.
func wantPrint(p []api.Ins) (string, api.Errno) {
	if len(p) > 200 {
		return "", api.ErrLarge
	}
	var b strings.Builder
	for _, x := range p {
		if !wantMay(x) {
			return "", api.ErrArg
		}
		b.WriteString(wantLine(x) + "\n")
	}
	return b.String(), api.OK
}

// wantRead returns what Read returns.
func wantRead(s string) ([]api.Ins, api.Errno) {
	if s == "" {
		return nil, api.OK
	}
	lines := strings.Split(s, "\n")
	last := len(lines) - 1
	if last > 200 {
		return nil, api.ErrLarge
	}
	if lines[last] != "" {
		return nil, api.ErrForm
	}
	var p []api.Ins
	for _, line := range lines[:last] {
		x, ok := wantParse(line)
		if !ok {
			return nil, api.ErrForm
		}
		p = append(p, x)
	}
	return p, api.OK
}

// checkPrint checks Print for one list, and Read for its lines.
func checkPrint(t *testing.T, p []api.Ins) {
	t.Helper()
	before := slices.Clone(p)
	want, f := wantPrint(p)
	s, e := code.Print(p)
	if s != want || e != f {
		t.Errorf("Print of %d instructions = %s, %d; want %s, %d", len(p), short(s), e, short(want), f)
	}
	if !slices.Equal(p, before) {
		t.Errorf("Print changed its argument")
	}
	if f != api.OK {
		return
	}
	if q, e := code.Read(s); !slices.Equal(q, p) || !code.Same(q, p) || e != api.OK {
		t.Errorf("Read(%s) = %v, %d; want %v", short(s), q, e, p)
	}
}

// checkRead checks Read for one string, and Print for the program it returns.
func checkRead(t *testing.T, s string) {
	t.Helper()
	want, f := wantRead(s)
	p, e := code.Read(s)
	if !slices.Equal(p, want) || e != f {
		t.Errorf("Read(%s) = %v, %d; want %v, %d", short(s), p, e, want, f)
	}
	if f != api.OK {
		return
	}
	if got, e := code.Print(p); got != s || e != api.OK {
		t.Errorf("Print of what Read returns for %s = %s, %d", short(s), short(got), e)
	}
}

func TestNames(t *testing.T) {
	if len(wantNames) != 24 {
		t.Fatalf("%d names", len(wantNames))
	}
	for op, want := range wantNames {
		if got := code.Name(op); got != want {
			t.Errorf("Name(%d) = %q, want %q", op, got, want)
		}
	}
	for _, op := range notOps {
		if got := code.Name(op); got != "" {
			t.Errorf("Name(%d) = %q", op, got)
		}
	}
	for op := -300; op < 300; op++ {
		if known := 0 <= op && op < 24; (code.Name(op) != "") != known {
			t.Errorf("Name(%d) = %q", op, code.Name(op))
		}
		if isOperation := op >= 4 && op <= 21; (value.Arity(op) > 0) != isOperation {
			t.Errorf("Arity(%d) = %d", op, value.Arity(op))
		}
	}
}

func TestLineExamples(t *testing.T) {
	for _, c := range []struct {
		x    api.Ins
		line string
	}{
		{api.Ins{Op: 2}, `field 0`}, {api.Ins{Op: 1, S: "a"}, `text "a"`}, {api.Ins{Op: 9}, `join`},
		{api.Ins{}, `num 0`}, {api.Ins{N: 7}, `num 7`}, {api.Ins{N: -12}, `num -12`},
		{api.Ins{N: greatest}, `num 9223372036854775807`}, {api.Ins{N: least}, `num -9223372036854775808`},
		{api.Ins{Op: 2, N: 49}, `field 49`}, {api.Ins{Op: 3}, `count`}, {api.Ins{Op: 4}, `add`}, {api.Ins{Op: 21}, `find`},
		{api.Ins{Op: 22}, `acc`}, {api.Ins{Op: 23}, `item`},
		{api.Ins{Op: 1}, `text ""`}, {api.Ins{Op: 1, S: `"`}, `text "\""`}, {api.Ins{Op: 1, S: `\`}, `text "\\"`},
		{api.Ins{Op: 1, S: "\n"}, `text "\n"`}, {api.Ins{Op: 1, S: `\n`}, `text "\\n"`}, {api.Ins{Op: 1, S: `\"`}, `text "\\\""`},
		{api.Ins{Op: 1, S: "\r\t\x00\xff"}, "text \"\r\t\x00\xff\""}, {api.Ins{Op: 1, S: "a b"}, `text "a b"`},
	} {
		if line, e := code.Line(c.x); line != c.line || e != api.OK {
			t.Errorf("Line(%s) = %q, %d; want %q", shown(c.x), line, e, c.line)
		}
		if x, e := code.Parse(c.line); x != c.x || e != api.OK {
			t.Errorf("Parse(%q) = %s, %d; want %s", c.line, shown(x), e, shown(c.x))
		}
	}
}

func TestValidInstructions(t *testing.T) {
	for _, x := range valid() {
		if !code.May(x) {
			t.Errorf("May(%s) = false", shown(x))
		}
		checkLine(t, x)
	}
	for c := range 256 {
		checkLine(t, api.Ins{Op: 1, S: string([]byte{byte(c)})})
		checkLine(t, api.Ins{Op: 1, S: string([]byte{'a', byte(c), 'b', byte(c)})})
	}
}

func TestInvalidInstructions(t *testing.T) {
	for _, x := range []api.Ins{
		{Op: -1}, {Op: 24}, {S: "a"}, {N: 5, S: "5"}, {Op: 1, N: 1}, {Op: 1, N: -1, S: "a"}, {Op: 1, S: tooLong[0]},
		{Op: 2, N: -1}, {Op: 2, N: 50}, {Op: 2, S: "a"}, {Op: 3, N: 1}, {Op: 3, S: "a"}, {Op: 4, N: 1}, {Op: 21, N: -1},
		{Op: 21, S: "a"}, {Op: 22, N: 1}, {Op: 22, S: "a"}, {Op: 23, N: 1}, {Op: 23, S: "a"},
	} {
		if code.May(x) {
			t.Errorf("May(%s) = true", shown(x))
		}
		checkLine(t, x)
	}
	for _, x := range candidates() {
		checkLine(t, x)
	}
}

func TestNoLines(t *testing.T) {
	for _, s := range []string{
		"", " ", "\n", "0", "sum", "Num 1", "NUM 1", "num", "num ", "num  1", " num 1", "num 1 ", "num 1\n", "num\t1", "num1",
		"num 01", "num 00", "num -0", "num +1", "num +0", "num -01", "num --1", "num -", "num +", "num 1_0", "num 0x1", "num 1.0", "num 1e3", "num a",
		"num 9223372036854775808", "num -9223372036854775809", "num 18446744073709551616", "num \u0661", `num "1"`, "num 1 2",
		"num 99999999999999999999999999999999999999", "num -99999999999999999999999999999999999999",
		"field", "field ", "field 50", "field -1", "field 00", "field 049", "field +1", "field 9223372036854775807", "field 4294967296", "field a",
		"text", "text ", "text a", `text "`, `text "a`, `text a"`, `text 'a'`, "text `a`", `text "a" `, `text  "a"`, `text "a""`, `text ""a"`, `text """`,
		`text "\"`, `text "\`, `text "\\\"`, `text "\a"`, `text "\x41"`, `text "\t"`, `text "\'"`, `text "\N"`, `text "\0"`, "text \"\n\"", "text \"\\\n\"",
		`text "" ""`, `text "a"b`, "text \"a\"\n", "text \"a\"\x00", `text ""n`, `text \"a\"`, `text \n`,
		"count ", "count 0", "count\n", "add ", "add 0", "add 1", `join ""`, `join "a"`, "acc 0", "item 0", "item ", "4", "3", "add add", "add,", "addsub",
		"num 1\r", "count\r", "count\x00", "\ufeffcount", "coun", "counts", "op", "-1", `"a"`, "tonum 1", "to num", "to_num",
	} {
		if _, ok := wantParse(s); ok {
			t.Errorf("the test takes %q for a line", s)
		}
		checkParse(t, s)
	}
	for _, s := range tooLong {
		checkParse(t, wantLine(api.Ins{Op: 1, S: s}))
	}
	checkParse(t, `num 0`+strings.Repeat("0", 100000))
	checkParse(t, `field `+strings.Repeat("9", 100000))
	checkParse(t, `text "`+strings.Repeat(`\`, 100001)+`"`)
}

// TestOtherLines checks Parse for each line with one change.
func TestOtherLines(t *testing.T) {
	for _, x := range valid() {
		line := wantLine(x)
		if len(line) > 100 {
			continue
		}
		checkParse(t, line)
		for i := range len(line) + 1 {
			checkParse(t, line[:i])
			checkParse(t, line[i:])
			for _, c := range []string{"0", "-", " ", `"`, `\`, "\n", "n", "a", "\x80"} {
				checkParse(t, line[:i]+c+line[i:])
				if i < len(line) {
					checkParse(t, line[:i]+c+line[i+1:])
				}
			}
			if i < len(line) {
				checkParse(t, line[:i]+line[i+1:])
				checkParse(t, line[:i]+strings.ToUpper(line[i:]))
			}
		}
	}
}

// each calls check with all strings of at most most of the parts.
func each(parts []string, most int, check func(s string)) {
	check("")
	if most == 0 {
		return
	}
	for _, part := range parts {
		each(parts, most-1, func(s string) { check(part + s) })
	}
}

func TestAllOperands(t *testing.T) {
	each([]string{`"`, `\`, "n", "\n", "a", " "}, 5, func(s string) {
		checkParse(t, "text "+s)
		checkParse(t, `text "`+s+`"`)
		checkLine(t, api.Ins{Op: 1, S: s})
	})
	each([]string{"-", "0", "1", "9", "+", "_"}, 4, func(s string) {
		checkParse(t, "num "+s)
		checkParse(t, "field "+s)
	})
	for n := -1200; n < 1200; n++ {
		checkLine(t, api.Ins{N: n})
		checkLine(t, api.Ins{Op: 2, N: n})
		checkParse(t, fmt.Sprintf("num %d", n))
		checkParse(t, fmt.Sprintf("field %d", n))
	}
}

func TestPrograms(t *testing.T) {
	s := "field 0\ntext \"a\\n\\\"\"\njoin\nnum -5\nitem\n"
	p := []api.Ins{{Op: 2}, {Op: 1, S: "a\n\""}, {Op: 9}, {N: -5}, {Op: 23}}
	if got, e := code.Print(p); got != s || e != api.OK {
		t.Errorf("Print = %q, %d", got, e)
	}
	if got, e := code.Read(s); !slices.Equal(got, p) || e != api.OK {
		t.Errorf("Read = %v, %d", got, e)
	}
	for _, none := range [][]api.Ins{nil, {}} {
		if got, e := code.Print(none); got != "" || e != api.OK {
			t.Errorf("Print of no instructions = %q, %d", got, e)
		}
	}
	if got, e := code.Read(""); len(got) != 0 || e != api.OK {
		t.Errorf("Read of no lines = %v, %d", got, e)
	}
	checkPrint(t, valid())
	for _, x := range valid() {
		checkPrint(t, []api.Ins{x})
		checkPrint(t, []api.Ins{x, {Op: 3}, x})
	}
}

func TestPrintErrors(t *testing.T) {
	for _, n := range []int{199, 200, 201, 202, 400, 5000} {
		p := make([]api.Ins, n)
		checkPrint(t, p)
		for _, at := range []int{0, 100, n - 1} {
			q := slices.Clone(p)
			q[at] = api.Ins{Op: 24}
			checkPrint(t, q)
			if s, e := code.Print(q); s != "" || e == api.OK {
				t.Errorf("%d instructions, not valid at %d: %s, %d", n, at, short(s), e)
			}
		}
	}
	for i, x := range candidates() {
		if i%7 == 0 {
			checkPrint(t, []api.Ins{{Op: 3}, x, {Op: 3}})
		}
		if i%7 == 1 {
			checkPrint(t, []api.Ins{x})
		}
	}
}

func TestReadErrors(t *testing.T) {
	for _, s := range []string{
		"\n", "\n\n", "len", "len\nlen", "len\n\n", "\nlen\n", "len\n ", "len\r\n", " len\n", "len \n", "sum\n", "len\nsum\n", "sum\nlen\n", "len\nsum\nlen\n",
		"num 01\n", "text \"\n\"\n", "text \"a\n", "text \"\\\n\"\n", "field 50\n", "num\n1\n", "len\x00\n", "\x00", "\xff\n", "len,len\n", "len;\n", "# a\nlen\n",
	} {
		if _, e := wantRead(s); e != api.ErrForm {
			t.Errorf("the test takes %q for a program", s)
		}
		checkRead(t, s)
	}
	for _, n := range []int{1, 2, 199, 200, 201, 202, 1000} {
		for _, line := range []string{"len\n", "sum\n", "\n", "text \"\n", "text \"\\n\\n\\n\"\n", "num 01\n"} {
			s := strings.Repeat(line, n)
			for _, u := range []string{s, s + "len", s + " ", s + "sum", "x" + s, s[:len(s)-1], s + "len\n", "sum\n" + s} {
				checkRead(t, u)
			}
		}
	}
	long := strings.Repeat(wantLine(api.Ins{Op: 1, S: strings.Repeat("\n", 1000)})+"\n", 200)
	checkRead(t, long)
	checkRead(t, strings.Replace(long, `\n"`, `\n\n"`, 1))
	checkRead(t, strings.Repeat("\n", 1<<20))
	checkRead(t, strings.Repeat("x", 1<<20))
}

// TestCutLines checks Read for the lines of a program with one change.
func TestCutLines(t *testing.T) {
	s := "field 0\ntext \"a\\n\\\\\\\"\"\njoin\nnum -50\ncount\n"
	for i := range len(s) + 1 {
		checkRead(t, s[:i])
		checkRead(t, s[i:])
		for _, c := range []string{"0", "-", " ", `"`, `\`, "\n", "n", "\x80"} {
			checkRead(t, s[:i]+c+s[i:])
			if i < len(s) {
				checkRead(t, s[:i]+c+s[i+1:])
			}
		}
	}
	each([]string{"len\n", "sum\n", "\n", "len", "num 1\n", `text "`, `"`}, 5, func(s string) { checkRead(t, s) })
}

func TestSame(t *testing.T) {
	l := append(valid(), api.Ins{Op: 24}, api.Ins{S: "a"}, api.Ins{Op: 1, S: tooLong[0]}, api.Ins{Op: 4, N: 1})
	for _, x := range l {
		for _, y := range l {
			equal := x.Op == y.Op && x.N == y.N && x.S == y.S
			for _, c := range []struct {
				a, b []api.Ins
				want bool
			}{
				{[]api.Ins{x}, []api.Ins{y}, equal}, {[]api.Ins{x, x}, []api.Ins{x, y}, equal}, {[]api.Ins{x, y}, []api.Ins{y, x}, equal},
				{[]api.Ins{x}, []api.Ins{x, y}, false}, {[]api.Ins{x, y}, []api.Ins{x}, false}, {[]api.Ins{y}, nil, false}, {nil, []api.Ins{y}, false},
			} {
				if got := code.Same(c.a, c.b); got != c.want {
					t.Fatalf("Same(%v, %v) = %t", c.a, c.b, got)
				}
			}
		}
	}
	for _, c := range [][2][]api.Ins{{nil, nil}, {nil, {}}, {{}, nil}, {{}, {}}} {
		if !code.Same(c[0], c[1]) {
			t.Errorf("no instructions are not the same")
		}
	}
	if !code.Same(l, slices.Clone(l)) || !code.Same(make([]api.Ins, 300), make([]api.Ins, 300)) || code.Same(make([]api.Ins, 300), make([]api.Ins, 301)) {
		t.Errorf("Same of long programs")
	}
	p := []api.Ins{{Op: 3}, {Op: 4}, {Op: 5}}
	if !code.Same(p[:2], []api.Ins{{Op: 3}, {Op: 4}}) {
		t.Errorf("Same looks beyond the length")
	}
}

// TestResultsAreNew checks that a program that was read shares no memory with
// another one.
func TestResultsAreNew(t *testing.T) {
	p, _ := code.Read("len\ncount\n")
	q, _ := code.Read("len\ncount\n")
	p[0] = api.Ins{Op: 5}
	_ = append(p[:1], api.Ins{Op: 6})
	if !code.Same(q, []api.Ins{{Op: 10}, {Op: 3}}) {
		t.Errorf("%v", q)
	}
	if again, _ := code.Read("len\ncount\n"); !code.Same(again, q) {
		t.Errorf("%v", again)
	}
}

// random returns a random instruction, which is valid if it shall be.
func random(r *rand.Rand, good bool) api.Ins {
	l := valid()
	x := l[r.Intn(len(l))]
	if x.Op == 0 && r.Intn(2) == 0 {
		x.N = int(r.Uint64()) >> r.Intn(64)
	}
	if x.Op == 1 && r.Intn(2) == 0 {
		b := make([]byte, r.Intn(30))
		for i := range b {
			b[i] = "\"\\\nnab \xff"[r.Intn(8)]
		}
		x.S = string(b)
	}
	if good {
		return x
	}
	switch r.Intn(4) {
	case 0:
		x.Op = r.Intn(40) - 8
	case 1:
		x.N = r.Intn(60) - 5
	case 2:
		x.S += "a"
	}
	return x
}

func TestRandomPrograms(t *testing.T) {
	r := rand.New(rand.NewSource(14))
	for range 1500 {
		p := make([]api.Ins, r.Intn(12))
		for i := range p {
			p[i] = random(r, true)
		}
		checkPrint(t, p)
		s, _ := wantPrint(p)
		checkRead(t, s)
		if len(s) > 0 && len(s) < 500 {
			i := r.Intn(len(s))
			checkRead(t, s[:i]+"0\"\\\nn a1-"[r.Intn(8):][:1]+s[i+r.Intn(2):])
		}
		for i := range p {
			p[i] = random(r, r.Intn(10) > 0)
		}
		checkPrint(t, p)
	}
	for _, n := range []int{198, 199, 200, 201, 202} {
		p := make([]api.Ins, n)
		for i := range p {
			p[i] = random(r, true)
		}
		checkPrint(t, p)
		var b strings.Builder
		for _, x := range p {
			b.WriteString(wantLine(x) + "\n")
		}
		checkRead(t, b.String())
	}
}

func FuzzCode(f *testing.F) {
	for _, x := range valid()[:60] {
		f.Add(wantLine(x), x.Op, x.N, x.S)
	}
	f.Add("field 0\ntext \"a\\n\\\\\\\"\"\njoin\n", 24, 1, "a")
	f.Fuzz(func(t *testing.T, s string, op, n int, text string) {
		checkParse(t, s)
		checkRead(t, s)
		checkRead(t, s+"\n")
		x := api.Ins{Op: op, N: n, S: text}
		checkLine(t, x)
		checkPrint(t, []api.Ins{{Op: 1, S: s[:min(len(s), 1000)]}, x})
		if code.Name(op) != "" && (op < 0 || op > 23 || code.Name(op) != wantNames[op]) {
			t.Errorf("Name(%d) = %q", op, code.Name(op))
		}
	})
}
