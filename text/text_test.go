package text_test

import (
	"bytes"
	"math"
	"math/rand"
	"slices"
	"strings"
	"testing"

	"threshing/api"
	"threshing/text"
)

// long returns a string of n bytes, the last of which differs from the others.
func long(n int) string {
	if n == 0 {
		return ""
	}
	return strings.Repeat("x", n-1) + "y"
}

// begun is a line, and the offset at which it begins.
type begun struct {
	at int
	s  string
}

// wantLines returns the lines of a file by the words of the document: what
// stands between bytes 10, and what is after the last one if it is not empty.
func wantLines(s string) []begun {
	parts := strings.Split(s, "\n")
	if parts[len(parts)-1] == "" {
		parts = parts[:len(parts)-1]
	}
	var l []begun
	at := 0
	for _, p := range parts {
		l = append(l, begun{at, p})
		at += len(p) + 1
	}
	return l
}

// wantRead returns the records of the lines that begin in the split [from, to).
func wantRead(s string, from, to int) ([]api.Rec, api.Errno) {
	if from < 0 || from > to || to > len(s) {
		return nil, api.ErrArg
	}
	var l []api.Rec
	for _, p := range wantLines(s) {
		if p.at >= from && p.at < to {
			l = append(l, api.Rec{p.s})
		}
	}
	return l, api.OK
}

// wantWrite writes records by the words of the document.
func wantWrite(l []api.Rec) (string, api.Errno) {
	s := ""
	for _, r := range l {
		if len(r) != 1 || strings.Contains(r[0], "\n") || len(r[0]) > 1000 {
			return "", api.ErrDomain
		}
		s += r[0] + "\n"
	}
	return s, api.OK
}

// short reports whether each record is one that Write accepts.
func short(l []api.Rec) bool {
	_, e := wantWrite(l)
	return e == api.OK
}

// same reports whether two lists of records are equal.
func same(a, b []api.Rec) bool {
	return slices.EqualFunc(a, b, func(r, s api.Rec) bool { return slices.Equal(r, s) })
}

// checkScan compares the pieces of a file, and whether it is canonical.
func checkScan(t *testing.T, s string) {
	t.Helper()
	l, n, e := text.Scan([]byte(s))
	if n != len(s) || e != api.OK {
		t.Errorf("Scan(%.60q) = %d, %d", s, n, e)
	}
	want := wantLines(s)
	if len(l) != len(want) {
		t.Fatalf("Scan(%.60q) has %d pieces; want %d", s, len(l), len(want))
	}
	for i, p := range l {
		if p.At != want[i].at || !same(p.R, []api.Rec{{want[i].s}}) {
			t.Errorf("Scan(%.60q): piece %d is %d, %.60q; want %.60v", s, i, p.At, p.R, want[i])
		}
	}
	if canonical := s == "" || s[len(s)-1] == 10; text.Canon([]byte(s)) != canonical {
		t.Errorf("Canon(%.60q) is not %t", s, canonical)
	}
}

// checkStarts compares Starts for each offset, and for some that are none.
func checkStarts(t *testing.T, s string) {
	t.Helper()
	b := []byte(s)
	begins := map[int]int{}
	for _, p := range wantLines(s) {
		begins[p.at]++
	}
	for at := -2; at <= len(s)+2; at++ {
		if want := begins[at] > 0; text.Starts(b, at) != want {
			t.Errorf("Starts(%.60q, %d) is not %t", s, at, want)
		}
	}
}

// checkRead compares Read for one split.
func checkRead(t *testing.T, s string, from, to int) {
	t.Helper()
	l, e := text.Read([]byte(s), from, to)
	want, wantE := wantRead(s, from, to)
	if !same(l, want) || e != wantE {
		t.Errorf("Read(%.60q, %d, %d) = %.60q, %d; want %.60q, %d", s, from, to, l, e, want, wantE)
	}
}

// checkSplits compares what is read from the splits between the cuts with what
// is read from the whole file. The cuts ascend from 0 to the end.
func checkSplits(t *testing.T, b []byte, cuts []int) {
	t.Helper()
	whole, e := text.Read(b, 0, len(b))
	if e != api.OK {
		t.Fatalf("Read of all of %.60q: %d", b, e)
	}
	var l []api.Rec
	for i := 1; i < len(cuts); i++ {
		r, e := text.Read(b, cuts[i-1], cuts[i])
		if e != api.OK {
			t.Fatalf("Read(%.60q, %d, %d): %d", b, cuts[i-1], cuts[i], e)
		}
		l = append(l, r...)
	}
	if !same(l, whole) {
		t.Errorf("%.60q split at %d gives %.60q; want %.60q", b, cuts, l, whole)
	}
}

// checkWrite compares Write, and reads what it returns.
func checkWrite(t *testing.T, l []api.Rec) {
	t.Helper()
	b, e := text.Write(l)
	want, wantE := wantWrite(l)
	if string(b) != want || e != wantE {
		t.Fatalf("Write(%.60q) = %.60q, %d; want %.60q, %d", l, b, e, want, wantE)
	}
	if e != api.OK {
		return
	}
	if back, e := text.Read(b, 0, len(b)); !same(back, l) || e != api.OK {
		t.Errorf("Read(Write(%.60q)) = %.60q, %d", l, back, e)
	}
	pieces, _, _ := text.Scan(b)
	var back []api.Rec
	for _, p := range pieces {
		back = append(back, p.R...)
	}
	if !same(back, l) {
		t.Errorf("Scan(Write(%.60q)) = %.60q", l, back)
	}
	if !text.Canon(b) {
		t.Errorf("Write(%.60q) is not canonical", l)
	}
}

// checkRewrite writes what is read from a file.
func checkRewrite(t *testing.T, s string) {
	t.Helper()
	l, e := text.Read([]byte(s), 0, len(s))
	if e != api.OK {
		t.Fatalf("Read of all of %.60q: %d", s, e)
	}
	b, e := text.Write(l)
	if !short(l) {
		if len(b) != 0 || e != api.ErrDomain {
			t.Errorf("Write(Read(%.60q)) = %.60q, %d", s, b, e)
		}
		return
	}
	want := s
	if s != "" && s[len(s)-1] != 10 {
		want += "\n"
	}
	if string(b) != want || e != api.OK {
		t.Errorf("Write(Read(%.60q)) = %.60q, %d; want %.60q", s, b, e, want)
	}
}

// strung calls check with every string of at most most of the bytes of kinds.
func strung(kinds string, most int, check func(s string)) {
	level := []string{""}
	for range most + 1 {
		var next []string
		for _, s := range level {
			check(s)
			for i := range len(kinds) {
				next = append(next, s+kinds[i:i+1])
			}
		}
		level = next
	}
}

// eachCuts calls check with all ascending cuts from 0 to n, each offset
// between them being in the cuts or not.
func eachCuts(n int, check func(cuts []int)) {
	for set := range 1 << max(n-1, 0) {
		cuts := []int{0}
		for at := 1; at < n; at++ {
			if set>>(at-1)&1 == 1 {
				cuts = append(cuts, at)
			}
		}
		check(append(cuts, n))
	}
}

// randomFile returns a file of n bytes, of which one in every is a byte 10.
func randomFile(r *rand.Rand, n, every int) []byte {
	b := make([]byte, n)
	for i := range b {
		b[i] = byte(r.Intn(256))
		if r.Intn(every) == 0 {
			b[i] = 10
		}
	}
	return b
}

// randomCuts returns k ascending offsets between 0 and n, some of them equal.
func randomCuts(r *rand.Rand, n, k int) []int {
	cuts := []int{0, n}
	for range k {
		cuts = append(cuts, r.Intn(n+1))
	}
	slices.Sort(cuts)
	return cuts
}

// P5.1: E1

func TestScan(t *testing.T) {
	for _, x := range []struct {
		s    string
		want []begun
	}{
		{"", nil},
		{"\n", []begun{{0, ""}}},
		{"\n\n", []begun{{0, ""}, {1, ""}}},
		{"a", []begun{{0, "a"}}},
		{"a\n", []begun{{0, "a"}}},
		{"a\nb", []begun{{0, "a"}, {2, "b"}}},
		{"a\nb\n", []begun{{0, "a"}, {2, "b"}}},
		{"a\n\nb", []begun{{0, "a"}, {2, ""}, {3, "b"}}},
		{"a\n\n", []begun{{0, "a"}, {2, ""}}},
		{"\na", []begun{{0, ""}, {1, "a"}}},
		// No other byte ends a line.
		{"a\rb\r\nc\x00\v\f\x85\u2028d", []begun{{0, "a\rb\r"}, {5, "c\x00\v\f\x85\u2028d"}}},
		{"\r\n\r", []begun{{0, "\r"}, {2, "\r"}}},
		{" a\t,\"b\" \n \n", []begun{{0, " a\t,\"b\" "}, {9, " "}}},
		{"\xef\xbb\xbf\n\xff\xfe\x80", []begun{{0, "\xef\xbb\xbf"}, {4, "\xff\xfe\x80"}}},
	} {
		l, n, e := text.Scan([]byte(x.s))
		var got []begun
		for _, p := range l {
			if len(p.R) != 1 || len(p.R[0]) != 1 {
				t.Fatalf("Scan(%q): the piece at %d is %q", x.s, p.At, p.R)
			}
			got = append(got, begun{p.At, p.R[0][0]})
		}
		if !slices.Equal(got, x.want) || n != len(x.s) || e != api.OK {
			t.Errorf("Scan(%q) = %v, %d, %d; want %v", x.s, got, n, e, x.want)
		}
	}
	if l, n, e := text.Scan(nil); len(l) != 0 || n != 0 || e != api.OK {
		t.Errorf("Scan(nil) = %v, %d, %d", l, n, e)
	}
}

func TestScanOfAllBytes(t *testing.T) {
	// Every byte but 10 belongs to the line.
	for c := range 256 {
		s := "a" + string([]byte{byte(c)}) + "b"
		checkScan(t, s)
		if l, _, _ := text.Scan([]byte(s)); c != 10 && len(l) != 1 {
			t.Errorf("the byte %d ends a line", c)
		}
	}
}

func TestLongLinesAreRead(t *testing.T) {
	// The limit is one of Write only: every byte sequence is a text file.
	s := long(1001) + "\n" + long(200000) + "\n\n" + long(1000)
	checkScan(t, s)
	checkRead(t, s, 0, len(s))
	checkRead(t, s, 1, len(s))
	checkRead(t, s, 1002, 1003)
	checkRead(t, s, 1003, len(s))
	checkRewrite(t, s)
}

func TestWriteBytes(t *testing.T) {
	for _, x := range []struct {
		l []api.Rec
		b string
	}{
		{nil, ""},
		{[]api.Rec{}, ""},
		{[]api.Rec{{""}}, "\n"},
		{[]api.Rec{{""}, {""}}, "\n\n"},
		{[]api.Rec{{"a"}}, "a\n"},
		{[]api.Rec{{"a"}, {""}, {"bc"}}, "a\n\nbc\n"},
		{[]api.Rec{{"\r"}, {"\x00\xff\t\\\", é"}}, "\r\n\x00\xff\t\\\", é\n"},
		{[]api.Rec{{long(999)}, {long(1000)}}, long(999) + "\n" + long(1000) + "\n"},
		// It is bytes that count, not characters.
		{[]api.Rec{{strings.Repeat("é", 500)}}, strings.Repeat("é", 500) + "\n"},
		{slices.Repeat([]api.Rec{{"ab"}}, 100000), strings.Repeat("ab\n", 100000)},
	} {
		b, e := text.Write(x.l)
		if string(b) != x.b || e != api.OK {
			t.Errorf("Write(%.60q) = %.60q, %d; want %.60q", x.l, b, e, x.b)
		}
	}
}

func TestWriteErrors(t *testing.T) {
	for _, r := range []api.Rec{
		nil,
		{},
		{"a", "b"},
		{"", ""},
		{"a", "b", "c"},
		make(api.Rec, 51),
		{"\n"},
		{"a\n"},
		{"\na"},
		{"a\nb"},
		{"a\r\n"},
		{long(1001)},
		{long(1000) + "\n"},
		{strings.Repeat("é", 501)},
		{long(100000)},
	} {
		for _, l := range [][]api.Rec{
			{r},
			{{"a"}, r},
			{r, {"a"}},
			{{"a"}, r, {"b"}},
			append(slices.Repeat([]api.Rec{{"ab"}}, 5000), r),
		} {
			if b, e := text.Write(l); len(b) != 0 || e != api.ErrDomain {
				t.Errorf("Write(%.60q) = %.60q, %d", l, b, e)
			}
		}
	}
}

func TestCanon(t *testing.T) {
	for _, x := range []struct {
		s    string
		want bool
	}{
		{"", true},
		{"\n", true},
		{"\n\n", true},
		{"a\n", true},
		{"a\nb\n", true},
		{"a\r\n", true},
		{"a", false},
		{"a\nb", false},
		{"\na", false},
		{"a\n\r", false},
		{"a\n\x00", false},
		{"\r", false},
		// A file with a long line is canonical, though Write does not return it.
		{long(1001) + "\n", true},
		{long(1001), false},
	} {
		if text.Canon([]byte(x.s)) != x.want {
			t.Errorf("Canon(%.60q) is not %t", x.s, x.want)
		}
	}
	if !text.Canon(nil) {
		t.Error("nil is not canonical")
	}
}

// P5.1: E2

func TestRead(t *testing.T) {
	s := "ab\n\nc\nde"
	for _, x := range []struct {
		from, to int
		want     []string
	}{
		{0, 8, []string{"ab", "", "c", "de"}},
		{0, 0, nil},
		{0, 1, []string{"ab"}},
		{0, 2, []string{"ab"}},
		{0, 3, []string{"ab"}},
		{0, 4, []string{"ab", ""}},
		{0, 5, []string{"ab", "", "c"}},
		{1, 1, nil},
		{1, 2, nil},
		// The byte 10 belongs to the line that it ends: none begins at it.
		{2, 3, nil},
		{1, 3, nil},
		{1, 4, []string{""}},
		{3, 3, nil},
		{3, 4, []string{""}},
		{4, 5, []string{"c"}},
		{5, 6, nil},
		{5, 7, []string{"de"}},
		{6, 7, []string{"de"}},
		{6, 6, nil},
		{7, 8, nil},
		{8, 8, nil},
	} {
		var want []api.Rec
		for _, f := range x.want {
			want = append(want, api.Rec{f})
		}
		if l, e := text.Read([]byte(s), x.from, x.to); !same(l, want) || e != api.OK {
			t.Errorf("Read(%d, %d) = %q, %d; want %q", x.from, x.to, l, e, want)
		}
	}
	if l, e := text.Read(nil, 0, 0); len(l) != 0 || e != api.OK {
		t.Errorf("Read of an empty file: %q, %d", l, e)
	}
	if l, e := text.Read([]byte("a\n"), 2, 2); len(l) != 0 || e != api.OK {
		t.Errorf("Read at the end of a canonical file: %q, %d", l, e)
	}
}

func TestReadErrors(t *testing.T) {
	for _, s := range []string{"", "\n", "ab\ncd\n", "ab\ncd"} {
		n := len(s)
		for _, x := range [][2]int{
			{-1, 0}, {-1, n}, {-1, -1}, {-2, -1}, {0, -1}, {1, 0}, {n, n - 1}, {n + 1, n},
			{0, n + 1}, {n, n + 1}, {n + 1, n + 1}, {n + 1, n + 2}, {-1, n + 1},
			{math.MinInt, 0}, {0, math.MinInt}, {math.MinInt, math.MinInt}, {math.MinInt, math.MaxInt},
			{0, math.MaxInt}, {math.MaxInt, 0}, {math.MaxInt, math.MaxInt}, {math.MaxInt, math.MinInt},
		} {
			if l, e := text.Read([]byte(s), x[0], x[1]); len(l) != 0 || e != api.ErrArg {
				t.Errorf("Read(%q, %d, %d) = %q, %d", s, x[0], x[1], l, e)
			}
		}
	}
}

func TestStarts(t *testing.T) {
	for _, x := range []struct {
		s    string
		want []int
	}{
		{"", nil},
		{"a", []int{0}},
		{"a\n", []int{0}},
		{"a\nb", []int{0, 2}},
		{"\n", []int{0}},
		{"\n\n", []int{0, 1}},
		{"\n\n\na", []int{0, 1, 2, 3}},
		{"a\r\rb", []int{0}},
	} {
		for at := -3; at <= len(x.s)+3; at++ {
			if got := text.Starts([]byte(x.s), at); got != slices.Contains(x.want, at) {
				t.Errorf("Starts(%q, %d) = %t", x.s, at, got)
			}
		}
		if text.Starts([]byte(x.s), math.MinInt) || text.Starts([]byte(x.s), math.MaxInt) {
			t.Errorf("a line of %q starts far outside", x.s)
		}
	}
	if text.Starts(nil, 0) {
		t.Error("a line starts in nil")
	}
}

func TestAllShortFiles(t *testing.T) {
	strung("a\n\r", 6, func(s string) {
		checkScan(t, s)
		checkStarts(t, s)
		checkRewrite(t, s)
		for from := -1; from <= len(s)+1; from++ {
			for to := -1; to <= len(s)+1; to++ {
				checkRead(t, s, from, to)
			}
		}
	})
}

// P5.2

func TestAllSplitsOfShortFiles(t *testing.T) {
	strung("a\n", 8, func(s string) {
		eachCuts(len(s), func(cuts []int) { checkSplits(t, []byte(s), cuts) })
	})
}

func TestEqualCuts(t *testing.T) {
	// Splits without a byte have no lines, wherever they are.
	strung("a\n", 5, func(s string) {
		for at := range len(s) + 1 {
			checkSplits(t, []byte(s), []int{0, 0, at, at, at, len(s), len(s)})
		}
	})
}

func TestSplitsOfRandomFiles(t *testing.T) {
	r := rand.New(rand.NewSource(5))
	for range 300 {
		b := randomFile(r, r.Intn(3000), 1+r.Intn(400))
		checkScan(t, string(b))
		for range 5 {
			checkSplits(t, b, randomCuts(r, len(b), r.Intn(60)))
		}
	}
}

func TestSplitsOfEachByte(t *testing.T) {
	// Many splits within one line: only the first one has it.
	s := "a\n" + long(100000) + "\n\nb"
	var cuts []int
	for at := range len(s) + 1 {
		cuts = append(cuts, at)
	}
	checkSplits(t, []byte(s), cuts)
}

// P5.3

func TestRoundTripOfRecords(t *testing.T) {
	strung("a\n\r", 5, func(s string) {
		checkWrite(t, []api.Rec{{s}})
		checkWrite(t, []api.Rec{{s}, {s}})
		checkWrite(t, []api.Rec{{}, {s}})
		checkWrite(t, []api.Rec{{s, s}})
	})
	var l []api.Rec
	for n := range 1001 {
		l = append(l, api.Rec{long(n)})
	}
	checkWrite(t, l)
	checkWrite(t, append(l, api.Rec{long(1001)}))
	r := rand.New(rand.NewSource(6))
	for range 200 {
		var l []api.Rec
		for range r.Intn(50) {
			b := randomFile(r, r.Intn(1100), 5000)
			l = append(l, api.Rec{string(b)})
		}
		checkWrite(t, l)
	}
}

func TestRoundTripOfFiles(t *testing.T) {
	for _, s := range []string{
		"", "\n", "\n\n\n", "a\n", "a\nb\n", "\r\n", "\x00\xff\n",
		long(1000) + "\n", "\n" + long(1000) + "\n" + long(999) + "\n",
		// What Write adds to a file that is not canonical is a byte 10.
		"a", "\na", "a\r", long(1000),
		// What is read from a file with a long line cannot be written.
		long(1001) + "\n", "a\n" + long(1001), "a\n" + long(1001) + "\nb\n",
	} {
		checkRewrite(t, s)
	}
	r := rand.New(rand.NewSource(7))
	for range 300 {
		checkRewrite(t, string(append(randomFile(r, r.Intn(3000), 1+r.Intn(100)), 10)))
	}
}

// The document's rules for all layers

// roomy returns the bytes of s with memory beyond their length, and all of that memory.
func roomy(s string) ([]byte, []byte) {
	all := append([]byte(s), bytes.Repeat([]byte{0xee}, 40)...)
	return all[:len(s)], all
}

// records returns the records of pieces.
func records(l []api.Piece) []api.Rec {
	var all []api.Rec
	for _, p := range l {
		all = append(all, p.R...)
	}
	return all
}

func TestArgumentsStay(t *testing.T) {
	b, all := roomy("a\n\nbc")
	before := bytes.Clone(all)
	pieces, _, _ := text.Scan(b)
	l, _ := text.Read(b, 0, 5)
	text.Canon(b)
	text.Starts(b, 2)
	if !bytes.Equal(all, before) {
		t.Errorf("the file, or the memory beyond it, became %q", all)
	}
	clear(all)
	want := []api.Rec{{"a"}, {""}, {"bc"}}
	if !same(l, want) || !same(records(pieces), want) {
		t.Errorf("writing to the file changed the results: %q, %v", l, pieces)
	}
	r := api.Rec{"a", "x", "y"}
	given := []api.Rec{r[:1], {"b"}, {"z"}}
	out, _ := text.Write(given[:2])
	clear(out[:cap(out)])
	if !slices.Equal(r, api.Rec{"a", "x", "y"}) || !same(given, []api.Rec{{"a"}, {"b"}, {"z"}}) {
		t.Errorf("Write changed its argument: %q", given)
	}
	if again, e := text.Write(given[:2]); string(again) != "a\nb\n" || e != api.OK {
		t.Errorf("the same records give another file the second time: %q, %d", again, e)
	}
}

func TestMemoryBeyondLengthIsIgnored(t *testing.T) {
	all := []byte("a\nbc\nd\n")
	if l, n, e := text.Scan(all[:3]); len(l) != 2 || l[1].R[0][0] != "b" || n != 3 || e != api.OK {
		t.Errorf("Scan of a line that goes on beyond the length: %v, %d, %d", l, n, e)
	}
	if l, e := text.Read(all[:3], 1, 3); !same(l, []api.Rec{{"b"}}) || e != api.OK {
		t.Errorf("Read of a line that goes on beyond the length: %q, %d", l, e)
	}
	if l, e := text.Read(all[:3], 0, 4); len(l) != 0 || e != api.ErrArg {
		t.Errorf("Read of a split that goes on beyond the length: %q, %d", l, e)
	}
	if text.Canon(all[:4]) || text.Starts(all[:2], 2) {
		t.Error("bytes beyond the length count")
	}
	l := []api.Rec{{"a"}, {"b", "c"}}
	l[0] = append(l[0], "more")[:1]
	if b, e := text.Write(l[:1]); string(b) != "a\n" || e != api.OK {
		t.Errorf("Write of records that go on beyond the length: %q, %d", b, e)
	}
}

func TestResultsShareNoMemory(t *testing.T) {
	// Writing to one record of a result, its spare capacity included, changes no other one.
	b := []byte("a\nb\n\nc")
	l, _ := text.Read(b, 0, len(b))
	pieces, _, _ := text.Scan(b)
	want := []api.Rec{{"a"}, {"b"}, {""}, {"c"}}
	for i := range want {
		own := l[i][:cap(l[i])]
		lists := pieces[i].R[:cap(pieces[i].R)]
		for k := range own {
			own[k] = "changed"
		}
		for k := range lists {
			lists[k] = api.Rec{"changed"}
		}
		if !same(l[i+1:], want[i+1:]) || !same(records(pieces[i+1:]), want[i+1:]) {
			t.Errorf("writing to record %d changed another one: %q, %v", i, l, pieces)
		}
	}
	if again, _ := text.Read(b, 0, len(b)); !same(again, want) {
		t.Errorf("the same file has other records the second time: %q", again)
	}
}

func FuzzText(f *testing.F) {
	f.Add([]byte("ab\n\nc"), 2, 4)
	f.Add([]byte("a\r\n"), 0, 3)
	f.Add([]byte("\n"), -1, 7)
	f.Add([]byte(long(1001)+"\n"), 1, 1002)
	f.Fuzz(func(t *testing.T, b []byte, from, to int) {
		// Beyond some size the plain functions of this test take too long.
		b = b[:min(len(b), 3000)]
		s := string(b)
		checkScan(t, s)
		checkStarts(t, s)
		checkRead(t, s, from, to)
		checkRewrite(t, s)
		checkWrite(t, []api.Rec{{s}, {""}})
		if _, e := text.Read(b, from, to); e == api.OK {
			checkSplits(t, b, []int{0, from, to, len(b)})
		}
	})
}
