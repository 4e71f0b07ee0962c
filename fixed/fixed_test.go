package fixed_test

import (
	"bytes"
	"math"
	"math/rand"
	"slices"
	"strings"
	"testing"

	"threshing/api"
	"threshing/fixed"
)

// begun is a record, and the offset at which it begins.
type begun struct {
	at int
	s  string
}

// long returns a string of n bytes, no two neighbours of which are equal.
func long(n int) string {
	b := make([]byte, n)
	for i := range b {
		b[i] = byte(i%251 + i/251)
	}
	return string(b)
}

// notWidths returns widths that no file can have.
func notWidths() []int {
	return []int{0, -1, -3, -1000, 1001, 1002, 2000, 1 << 32, 1<<32 + 3, math.MinInt, math.MinInt + 3, math.MaxInt}
}

// wantCut cuts one record after the other off a file, and returns them with
// what is left.
func wantCut(s string, width int) ([]begun, string) {
	var l []begun
	at := 0
	for len(s) >= width {
		l = append(l, begun{at, s[:width]})
		s = s[width:]
		at += width
	}
	return l, s
}

// wantRead returns the records that begin in the split [from, to), and its error.
func wantRead(s string, from, to, width int) ([]api.Rec, api.Errno) {
	if width < 1 || width > 1000 || from < 0 || from > to || to > len(s) {
		return nil, api.ErrArg
	}
	all, left := wantCut(s, width)
	var l []api.Rec
	for _, p := range all {
		if p.at >= from && p.at < to {
			l = append(l, api.Rec{p.s})
		}
	}
	if len(s)-len(left) < to {
		return l, api.ErrShort
	}
	return l, api.OK
}

// wantWrite writes records by the words of the document.
func wantWrite(l []api.Rec, width int) (string, api.Errno) {
	if width < 1 || width > 1000 {
		return "", api.ErrArg
	}
	s := ""
	for _, r := range l {
		if len(r) != 1 || len(r[0]) != width {
			return "", api.ErrDomain
		}
		s += r[0]
	}
	return s, api.OK
}

// wantWidths reports whether the fields of a record can have the widths.
func wantWidths(widths []int) bool {
	return len(widths) >= 1 && len(widths) <= 50 && slices.Min(widths) >= 0 && slices.Max(widths) <= 1000
}

// wantCells cuts a string by the words of the document.
func wantCells(s string, widths []int) (api.Rec, api.Errno) {
	if !wantWidths(widths) {
		return nil, api.ErrArg
	}
	var r api.Rec
	for _, w := range widths {
		if len(s) < w {
			return nil, api.ErrShort
		}
		r = append(r, s[:w])
		s = s[w:]
	}
	if s != "" {
		return nil, api.ErrLarge
	}
	return r, api.OK
}

// wantWhole concatenates fields by the words of the document.
func wantWhole(r api.Rec, widths []int) (string, api.Errno) {
	if !wantWidths(widths) {
		return "", api.ErrArg
	}
	var sizes []int
	s := ""
	for _, f := range r {
		sizes = append(sizes, len(f))
		s += f
	}
	if !slices.Equal(sizes, widths) {
		return "", api.ErrDomain
	}
	return s, api.OK
}

// same reports whether two lists of records are equal.
func same(a, b []api.Rec) bool {
	return slices.EqualFunc(a, b, func(r, s api.Rec) bool { return slices.Equal(r, s) })
}

// records returns the records of pieces.
func records(l []api.Piece) []api.Rec {
	var r []api.Rec
	for _, p := range l {
		r = append(r, p.R...)
	}
	return r
}

// samePieces reports whether pieces are those of a list.
func samePieces(l []api.Piece, want []begun) bool {
	return slices.EqualFunc(l, want, func(p api.Piece, w begun) bool {
		return p.At == w.at && same(p.R, []api.Rec{{w.s}})
	})
}

// checkScan compares the pieces of a file, and whether it is canonical.
func checkScan(t *testing.T, s string, width int) {
	t.Helper()
	l, n, e := fixed.Scan([]byte(s), width)
	want, left := wantCut(s, width)
	wantE := api.OK
	if left != "" {
		wantE = api.ErrShort
	}
	if !samePieces(l, want) || n != len(s)-len(left) || e != wantE {
		t.Errorf("Scan(%.60q, %d) = %.60v, %d, %d; want %.60v, %d, %d", s, width, l, n, e, want, len(s)-len(left), wantE)
	}
	if canonical := left == ""; fixed.Canon([]byte(s), width) != canonical {
		t.Errorf("Canon(%.60q, %d) is not %t", s, width, canonical)
	}
}

// checkRead compares Read for one split.
func checkRead(t *testing.T, s string, from, to, width int) {
	t.Helper()
	l, e := fixed.Read([]byte(s), from, to, width)
	want, wantE := wantRead(s, from, to, width)
	if !same(l, want) || e != wantE {
		t.Errorf("Read(%.60q, %d, %d, %d) = %.60q, %d; want %.60q, %d", s, from, to, width, l, e, want, wantE)
	}
}

// checkSplits compares what is read from the splits between the cuts with the
// valid part. The cuts ascend from 0 to the end.
func checkSplits(t *testing.T, b []byte, width int, cuts []int) {
	t.Helper()
	pieces, _, wantE := fixed.Scan(b, width)
	var l []api.Rec
	failed := false
	for i := 1; i < len(cuts); i++ {
		r, e := fixed.Read(b, cuts[i-1], cuts[i], width)
		if e != api.OK && e != api.ErrShort {
			t.Fatalf("Read(%.60q, %d, %d, %d): %d", b, cuts[i-1], cuts[i], width, e)
		}
		l = append(l, r...)
		failed = failed || e != api.OK
	}
	if want := records(pieces); !same(l, want) {
		t.Errorf("%.60q of width %d split at %d gives %.60q; want %.60q", b, width, cuts, l, want)
	}
	if failed != (wantE != api.OK) {
		t.Errorf("%.60q of width %d split at %d reports an error: %t; that of the file is %d", b, width, cuts, failed, wantE)
	}
}

// checkWrite compares Write, and reads what it returns.
func checkWrite(t *testing.T, l []api.Rec, width int) {
	t.Helper()
	b, e := fixed.Write(l, width)
	want, wantE := wantWrite(l, width)
	if string(b) != want || e != wantE {
		t.Fatalf("Write(%.60q, %d) = %.60q, %d; want %.60q, %d", l, width, b, e, want, wantE)
	}
	if e != api.OK {
		return
	}
	if back, e := fixed.Read(b, 0, len(b), width); !same(back, l) || e != api.OK {
		t.Errorf("Read(Write(%.60q, %d)) = %.60q, %d", l, width, back, e)
	}
	if pieces, n, e := fixed.Scan(b, width); !same(records(pieces), l) || n != len(b) || e != api.OK {
		t.Errorf("Scan(Write(%.60q, %d)) = %.60v, %d, %d", l, width, pieces, n, e)
	}
	if !fixed.Canon(b, width) {
		t.Errorf("Write(%.60q, %d) is not canonical", l, width)
	}
}

// checkRewrite writes what is read from a file, which gives its valid part, and
// so the file if it is canonical.
func checkRewrite(t *testing.T, s string, width int) {
	t.Helper()
	l, _ := fixed.Read([]byte(s), 0, len(s), width)
	b, e := fixed.Write(l, width)
	_, left := wantCut(s, width)
	if string(b) != strings.TrimSuffix(s, left) || e != api.OK {
		t.Errorf("Write(Read(%.60q), %d) = %.60q, %d", s, width, b, e)
	}
	if canonical := string(b) == s; fixed.Canon([]byte(s), width) != canonical {
		t.Errorf("Canon(%.60q, %d) is not %t", s, width, canonical)
	}
}

// checkCells compares Cells, and puts together what it returns.
func checkCells(t *testing.T, s string, widths []int) {
	t.Helper()
	r, e := fixed.Cells(s, widths)
	want, wantE := wantCells(s, widths)
	if !slices.Equal(r, want) || e != wantE {
		t.Fatalf("Cells(%.60q, %v) = %.60q, %d; want %.60q, %d", s, widths, r, e, want, wantE)
	}
	if e != api.OK {
		return
	}
	if back, e := fixed.Whole(r, widths); back != s || e != api.OK {
		t.Errorf("Whole(Cells(%.60q, %v)) = %.60q, %d", s, widths, back, e)
	}
}

// checkWhole compares Whole, and cuts what it returns.
func checkWhole(t *testing.T, r api.Rec, widths []int) {
	t.Helper()
	s, e := fixed.Whole(r, widths)
	want, wantE := wantWhole(r, widths)
	if s != want || e != wantE {
		t.Fatalf("Whole(%.60q, %v) = %.60q, %d; want %.60q, %d", r, widths, s, e, want, wantE)
	}
	if e != api.OK {
		return
	}
	if back, e := fixed.Cells(s, widths); !slices.Equal(back, r) || e != api.OK {
		t.Errorf("Cells(Whole(%.60q, %v)) = %.60q, %d", r, widths, back, e)
	}
}

// listed calls check with every list of at most most of the parts.
func listed[T any](parts []T, most int, check func(l []T)) {
	level := [][]T{nil}
	for range most + 1 {
		var next [][]T
		for _, l := range level {
			check(l)
			for _, p := range parts {
				next = append(next, append(slices.Clone(l), p))
			}
		}
		level = next
	}
}

// eachCuts calls check with all ascending cuts from 0 to n, each offset
// between them being in the cuts or not.
func eachCuts(n int, check func(cuts []int)) {
	for set := range 1 << max(n-1, 0) {
		cuts := []int{0}
		for at := 1; at < n; at++ {
			if set>>(at-1)&1 == 1 {
				cuts = append(cuts, at)
			}
		}
		check(append(cuts, n))
	}
}

// randomCuts returns k ascending offsets between 0 and n, some of them equal,
// after 0 and before n.
func randomCuts(r *rand.Rand, n, k int) []int {
	cuts := []int{0, n}
	for range k {
		cuts = append(cuts, r.Intn(n+1))
	}
	slices.Sort(cuts)
	return cuts
}

// randomBytes returns n bytes of any kind.
func randomBytes(r *rand.Rand, n int) []byte {
	b := make([]byte, n)
	r.Read(b)
	return b
}

// randomWidth returns a width, which is often small.
func randomWidth(r *rand.Rand) int {
	if r.Intn(2) == 0 {
		return 1 + r.Intn(10)
	}
	return 1 + r.Intn(1000)
}

// P9.1: I1

func TestScan(t *testing.T) {
	for _, x := range []struct {
		s     string
		width int
		want  []begun
		n     int
		e     api.Errno
	}{
		{"abcdefg", 3, []begun{{0, "abc"}, {3, "def"}}, 6, api.ErrShort},
		{"abcdef", 3, []begun{{0, "abc"}, {3, "def"}}, 6, api.OK},
		{"abcdefgh", 3, []begun{{0, "abc"}, {3, "def"}}, 6, api.ErrShort},
		{"", 1, nil, 0, api.OK},
		{"", 1000, nil, 0, api.OK},
		{"a", 1, []begun{{0, "a"}}, 1, api.OK},
		{"ab", 1, []begun{{0, "a"}, {1, "b"}}, 2, api.OK},
		{"a", 2, nil, 0, api.ErrShort},
		{"a", 1000, nil, 0, api.ErrShort},
		{"ab", 2, []begun{{0, "ab"}}, 2, api.OK},
		{"abc", 2, []begun{{0, "ab"}}, 2, api.ErrShort},
		// No byte ends a record before its width.
		{"a\nb\n", 4, []begun{{0, "a\nb\n"}}, 4, api.OK},
		{"\n\n\x00", 1, []begun{{0, "\n"}, {1, "\n"}, {2, "\x00"}}, 3, api.OK},
		{"\xff\xfe\x80\r \t", 3, []begun{{0, "\xff\xfe\x80"}, {3, "\r \t"}}, 6, api.OK},
		// It is bytes that count, not characters.
		{"éé", 1, []begun{{0, "\xc3"}, {1, "\xa9"}, {2, "\xc3"}, {3, "\xa9"}}, 4, api.OK},
		{"éa", 2, []begun{{0, "é"}}, 2, api.ErrShort},
		{long(999), 1000, nil, 0, api.ErrShort},
		{long(1000), 1000, []begun{{0, long(1000)}}, 1000, api.OK},
		{long(1001), 1000, []begun{{0, long(1000)}}, 1000, api.ErrShort},
		{long(1000), 999, []begun{{0, long(999)}}, 999, api.ErrShort},
	} {
		l, n, e := fixed.Scan([]byte(x.s), x.width)
		if !samePieces(l, x.want) || n != x.n || e != x.e {
			t.Errorf("Scan(%.60q, %d) = %.60v, %d, %d; want %.60v, %d, %d", x.s, x.width, l, n, e, x.want, x.n, x.e)
		}
	}
	if l, n, e := fixed.Scan(nil, 3); len(l) != 0 || n != 0 || e != api.OK {
		t.Errorf("Scan(nil, 3) = %v, %d, %d", l, n, e)
	}
}

func TestScanOfAllBytes(t *testing.T) {
	for c := range 256 {
		s := string([]byte{'a', byte(c), byte(c), 'b'})
		for width := 1; width <= 5; width++ {
			checkScan(t, s, width)
		}
	}
}

func TestScanErrors(t *testing.T) {
	for _, s := range []string{"", "a", "abc", "abcdef", "abcdefg", long(1000), long(2001)} {
		for _, width := range notWidths() {
			if l, n, e := fixed.Scan([]byte(s), width); len(l) != 0 || n != 0 || e != api.ErrArg {
				t.Errorf("Scan(%.60q, %d) = %v, %d, %d", s, width, l, n, e)
			}
		}
	}
}

func TestEachWidth(t *testing.T) {
	for width := 1; width <= 1000; width++ {
		for _, n := range []int{0, 1, width - 1, width, width + 1, 2*width - 1, 2 * width, 2*width + 1} {
			s := long(n)
			checkScan(t, s, width)
			checkRead(t, s, 0, n, width)
			checkRead(t, s, min(1, n), n, width)
			checkRewrite(t, s, width)
		}
		checkWrite(t, []api.Rec{{long(width)}, {long(width)}}, width)
		checkWrite(t, []api.Rec{{long(width)}, {long(width - 1)}}, width)
		checkWrite(t, []api.Rec{{long(width + 1)}, {long(width)}}, width)
	}
}

func TestWriteBytes(t *testing.T) {
	for _, x := range []struct {
		l     []api.Rec
		width int
		b     string
	}{
		{nil, 1, ""},
		{[]api.Rec{}, 1000, ""},
		{[]api.Rec{{"a"}}, 1, "a"},
		{[]api.Rec{{"abc"}, {"def"}}, 3, "abcdef"},
		{[]api.Rec{{"\n"}, {"\x00"}, {"\xff"}}, 1, "\n\x00\xff"},
		{[]api.Rec{{"a\n"}, {"\r\n"}, {"é"}}, 2, "a\n\r\né"},
		{[]api.Rec{{long(1000)}, {strings.Repeat("é", 500)}}, 1000, long(1000) + strings.Repeat("é", 500)},
		{slices.Repeat([]api.Rec{{"ab"}}, 100000), 2, strings.Repeat("ab", 100000)},
	} {
		b, e := fixed.Write(x.l, x.width)
		if string(b) != x.b || e != api.OK {
			t.Errorf("Write(%.60q, %d) = %.60q, %d; want %.60q", x.l, x.width, b, e, x.b)
		}
	}
}

func TestWriteErrors(t *testing.T) {
	good := api.Rec{"abc"}
	for _, r := range []api.Rec{
		nil,
		{},
		{""},
		{"a"},
		{"ab"},
		{"abcd"},
		{"abcdef"},
		{"abc", ""},
		{"", "abc"},
		{"abc", "abc"},
		{"a", "bc"},
		{"a", "b", "c"},
		make(api.Rec, 51),
		{"ééé"},
		{long(1000)},
		{long(100000)},
	} {
		for _, l := range [][]api.Rec{
			{r},
			{good, r},
			{r, good},
			{good, r, good},
			append(slices.Repeat([]api.Rec{good}, 5000), r),
		} {
			if b, e := fixed.Write(l, 3); len(b) != 0 || e != api.ErrDomain {
				t.Errorf("Write(%.60q, 3) = %.60q, %d", l, b, e)
			}
		}
	}
	// The width comes first, whatever the records are.
	for _, width := range notWidths() {
		for _, l := range [][]api.Rec{nil, {}, {{""}}, {{"a"}}, {{}}, {nil}, {{"a", "b"}}, {{long(1001)}}, {{long(2000)}, {"a"}}} {
			if b, e := fixed.Write(l, width); len(b) != 0 || e != api.ErrArg {
				t.Errorf("Write(%.60q, %d) = %.60q, %d", l, width, b, e)
			}
		}
	}
}

func TestCanon(t *testing.T) {
	for _, x := range []struct {
		s     string
		width int
		want  bool
	}{
		{"", 1, true},
		{"", 3, true},
		{"", 1000, true},
		{"a", 1, true},
		{"abc", 1, true},
		{"abc", 3, true},
		{"abcdef", 3, true},
		{"\n\x00\xff", 3, true},
		{long(1000), 1000, true},
		{long(3000), 1000, true},
		{"a", 2, false},
		{"ab", 3, false},
		{"abcd", 3, false},
		{"abcdefg", 3, false},
		{long(999), 1000, false},
		{long(1001), 1000, false},
	} {
		if fixed.Canon([]byte(x.s), x.width) != x.want {
			t.Errorf("Canon(%.60q, %d) is not %t", x.s, x.width, x.want)
		}
	}
	if !fixed.Canon(nil, 3) {
		t.Error("nil is not canonical")
	}
	for _, width := range notWidths() {
		for _, s := range []string{"", "a", "abc", long(1000), long(1001), long(2000), long(2002)} {
			if fixed.Canon([]byte(s), width) {
				t.Errorf("Canon(%.60q, %d)", s, width)
			}
		}
	}
}

// P9.1: I2

func TestRead(t *testing.T) {
	s := "abcdefghij"
	for _, x := range []struct {
		from, to int
		want     []string
		e        api.Errno
	}{
		{0, 0, nil, api.OK},
		{0, 1, []string{"abc"}, api.OK},
		{0, 3, []string{"abc"}, api.OK},
		{0, 4, []string{"abc", "def"}, api.OK},
		{0, 9, []string{"abc", "def", "ghi"}, api.OK},
		{0, 10, []string{"abc", "def", "ghi"}, api.ErrShort},
		{1, 1, nil, api.OK},
		{1, 3, nil, api.OK},
		{1, 4, []string{"def"}, api.OK},
		{2, 3, nil, api.OK},
		{3, 3, nil, api.OK},
		{3, 4, []string{"def"}, api.OK},
		{3, 6, []string{"def"}, api.OK},
		{3, 7, []string{"def", "ghi"}, api.OK},
		{4, 10, []string{"ghi"}, api.ErrShort},
		{6, 7, []string{"ghi"}, api.OK},
		{7, 9, nil, api.OK},
		{7, 10, nil, api.ErrShort},
		{9, 9, nil, api.OK},
		{9, 10, nil, api.ErrShort},
		// Even a split without a byte is beyond the valid part.
		{10, 10, nil, api.ErrShort},
	} {
		var want []api.Rec
		for _, f := range x.want {
			want = append(want, api.Rec{f})
		}
		if l, e := fixed.Read([]byte(s), x.from, x.to, 3); !same(l, want) || e != x.e {
			t.Errorf("Read(%d, %d) = %q, %d; want %q, %d", x.from, x.to, l, e, want, x.e)
		}
	}
	for _, b := range [][]byte{nil, {}} {
		if l, e := fixed.Read(b, 0, 0, 3); len(l) != 0 || e != api.OK {
			t.Errorf("Read of an empty file: %q, %d", l, e)
		}
	}
	if l, e := fixed.Read([]byte("abc"), 3, 3, 3); len(l) != 0 || e != api.OK {
		t.Errorf("Read at the end of a canonical file: %q, %d", l, e)
	}
	if l, e := fixed.Read([]byte("ab"), 0, 0, 3); len(l) != 0 || e != api.OK {
		t.Errorf("Read before a record that is not complete: %q, %d", l, e)
	}
}

func TestReadErrors(t *testing.T) {
	for _, s := range []string{"", "a", "abc", "abcd", "abcdef", "abcdefg"} {
		n := len(s)
		for _, x := range [][2]int{
			{-1, 0}, {-1, n}, {-1, -1}, {-2, -1}, {-3, 0}, {0, -1}, {1, 0}, {n, n - 1}, {n + 1, n},
			{0, n + 1}, {n, n + 1}, {n + 1, n + 1}, {n + 1, n + 2}, {-1, n + 1}, {n + 3, n + 6},
			{math.MinInt, 0}, {0, math.MinInt}, {math.MinInt, math.MinInt}, {math.MinInt, math.MaxInt},
			{0, math.MaxInt}, {math.MaxInt, 0}, {math.MaxInt, math.MaxInt}, {math.MaxInt, math.MinInt},
		} {
			for _, width := range []int{1, 2, 3, 1000} {
				if l, e := fixed.Read([]byte(s), x[0], x[1], width); len(l) != 0 || e != api.ErrArg {
					t.Errorf("Read(%q, %d, %d, %d) = %q, %d", s, x[0], x[1], width, l, e)
				}
			}
		}
		for _, width := range notWidths() {
			for _, x := range [][2]int{{0, 0}, {0, n}, {n, n}, {-1, n}, {0, n + 1}, {1, 0}} {
				if l, e := fixed.Read([]byte(s), x[0], x[1], width); len(l) != 0 || e != api.ErrArg {
					t.Errorf("Read(%q, %d, %d, %d) = %q, %d", s, x[0], x[1], width, l, e)
				}
			}
		}
	}
}

func TestAllSplitsOfShortFiles(t *testing.T) {
	for n := range 16 {
		s := long(n)
		for width := -1; width <= 17; width++ {
			for from := -2; from <= n+2; from++ {
				for to := -2; to <= n+2; to++ {
					checkRead(t, s, from, to, width)
				}
			}
		}
	}
}

func TestRandomFiles(t *testing.T) {
	r := rand.New(rand.NewSource(14))
	for range 500 {
		s := string(randomBytes(r, r.Intn(5000)))
		width := randomWidth(r)
		checkScan(t, s, width)
		for range 10 {
			cuts := randomCuts(r, len(s), 2)
			checkRead(t, s, cuts[1], cuts[2], width)
		}
	}
}

// P9.1: I3

func TestCells(t *testing.T) {
	for _, x := range []struct {
		s      string
		widths []int
		want   api.Rec
		e      api.Errno
	}{
		{"abc", []int{3}, api.Rec{"abc"}, api.OK},
		{"abc", []int{1, 2}, api.Rec{"a", "bc"}, api.OK},
		{"abc", []int{1, 0, 2}, api.Rec{"a", "", "bc"}, api.OK},
		{"abc", []int{0, 3, 0}, api.Rec{"", "abc", ""}, api.OK},
		{"abc", []int{1, 1, 1}, api.Rec{"a", "b", "c"}, api.OK},
		{"", []int{0}, api.Rec{""}, api.OK},
		{"", []int{0, 0}, api.Rec{"", ""}, api.OK},
		{"", make([]int, 50), make(api.Rec, 50), api.OK},
		{"a\n\x00\xff", []int{2, 2}, api.Rec{"a\n", "\x00\xff"}, api.OK},
		// It is bytes that count, not characters.
		{"éa", []int{1, 2}, api.Rec{"\xc3", "\xa9a"}, api.OK},
		{long(1000), []int{1000}, api.Rec{long(1000)}, api.OK},
		{strings.Repeat(long(1000), 50), slices.Repeat([]int{1000}, 50), slices.Repeat(api.Rec{long(1000)}, 50), api.OK},
		{"", []int{1}, nil, api.ErrShort},
		{"ab", []int{3}, nil, api.ErrShort},
		{"abc", []int{4}, nil, api.ErrShort},
		{"abc", []int{1, 3}, nil, api.ErrShort},
		{"abc", []int{3, 1}, nil, api.ErrShort},
		{"abc", []int{0, 0, 1000}, nil, api.ErrShort},
		{long(999), []int{1000}, nil, api.ErrShort},
		{strings.Repeat(long(1000), 50)[1:], slices.Repeat([]int{1000}, 50), nil, api.ErrShort},
		{"a", []int{0}, nil, api.ErrLarge},
		{"abc", []int{1}, nil, api.ErrLarge},
		{"abc", []int{1, 1}, nil, api.ErrLarge},
		{"abc", []int{0, 2, 0}, nil, api.ErrLarge},
		{"a", make([]int, 50), nil, api.ErrLarge},
		{long(1001), []int{1000}, nil, api.ErrLarge},
		{strings.Repeat(long(1000), 50) + "a", slices.Repeat([]int{1000}, 50), nil, api.ErrLarge},
	} {
		r, e := fixed.Cells(x.s, x.widths)
		if !slices.Equal(r, x.want) || e != x.e {
			t.Errorf("Cells(%.60q, %v) = %.60q, %d; want %.60q, %d", x.s, x.widths, r, e, x.want, x.e)
		}
	}
}

func TestWhole(t *testing.T) {
	for _, x := range []struct {
		r      api.Rec
		widths []int
		want   string
		e      api.Errno
	}{
		{api.Rec{"abc"}, []int{3}, "abc", api.OK},
		{api.Rec{"a", "", "bc"}, []int{1, 0, 2}, "abc", api.OK},
		{api.Rec{""}, []int{0}, "", api.OK},
		{make(api.Rec, 50), make([]int, 50), "", api.OK},
		{api.Rec{"\n", "\x00\xff"}, []int{1, 2}, "\n\x00\xff", api.OK},
		{api.Rec{"é"}, []int{2}, "é", api.OK},
		{api.Rec{long(1000)}, []int{1000}, long(1000), api.OK},
		{slices.Repeat(api.Rec{long(1000)}, 50), slices.Repeat([]int{1000}, 50), strings.Repeat(long(1000), 50), api.OK},
		{nil, []int{0}, "", api.ErrDomain},
		{api.Rec{}, []int{0}, "", api.ErrDomain},
		{api.Rec{""}, []int{0, 0}, "", api.ErrDomain},
		{api.Rec{"", ""}, []int{0}, "", api.ErrDomain},
		{api.Rec{"abc"}, []int{1, 2}, "", api.ErrDomain},
		{api.Rec{"a", "bc"}, []int{3}, "", api.ErrDomain},
		{api.Rec{"abc", ""}, []int{3}, "", api.ErrDomain},
		{make(api.Rec, 51), make([]int, 50), "", api.ErrDomain},
		{make(api.Rec, 100000), []int{0}, "", api.ErrDomain},
		{api.Rec{"ab"}, []int{3}, "", api.ErrDomain},
		{api.Rec{"abcd"}, []int{3}, "", api.ErrDomain},
		{api.Rec{""}, []int{1}, "", api.ErrDomain},
		{api.Rec{"a"}, []int{0}, "", api.ErrDomain},
		{api.Rec{"é"}, []int{1}, "", api.ErrDomain},
		{api.Rec{"a", "bc", "d"}, []int{1, 2, 0}, "", api.ErrDomain},
		{api.Rec{"ab", "bc", "d"}, []int{1, 2, 1}, "", api.ErrDomain},
		// The sum of the widths is right, but not each of them.
		{api.Rec{"ab", "c"}, []int{1, 2}, "", api.ErrDomain},
		{api.Rec{"", "abc"}, []int{3, 0}, "", api.ErrDomain},
		{api.Rec{long(1001)}, []int{1000}, "", api.ErrDomain},
		{api.Rec{long(999)}, []int{1000}, "", api.ErrDomain},
		{append(slices.Repeat(api.Rec{"a"}, 49), ""), slices.Repeat([]int{1}, 50), "", api.ErrDomain},
	} {
		s, e := fixed.Whole(x.r, x.widths)
		if s != x.want || e != x.e {
			t.Errorf("Whole(%.60q, %v) = %.60q, %d; want %.60q, %d", x.r, x.widths, s, e, x.want, x.e)
		}
	}
}

// otherWidths returns widths that the fields of no record can have.
func otherWidths() [][]int {
	l := [][]int{nil, {}, make([]int, 51), slices.Repeat([]int{1}, 51), make([]int, 100000)}
	for _, w := range []int{-1, -3, 1001, 1 << 32, math.MinInt, math.MaxInt} {
		l = append(l, []int{w}, []int{0, w}, []int{w, 3}, []int{1, w, 2}, append(make([]int, 49), w), append(make([]int, 50), w))
	}
	// The sums of some are small, and that of others wraps around to 3.
	return append(l, []int{-1, 4}, []int{1001, -998}, []int{math.MaxInt, math.MaxInt, 5}, []int{math.MinInt, math.MinInt, 3})
}

func TestCellsAndWholeErrors(t *testing.T) {
	// The widths come first, whatever the string or the fields are.
	for _, widths := range otherWidths() {
		for _, s := range []string{"", "a", "abc", "abcd", long(51), long(1001), long(2000)} {
			if r, e := fixed.Cells(s, widths); len(r) != 0 || e != api.ErrArg {
				t.Errorf("Cells(%.60q, %.60v) = %.60q, %d", s, widths, r, e)
			}
		}
		for _, r := range []api.Rec{
			nil, {}, {""}, {"abc"}, {"", "abc"}, {"a", "", "bc"}, {long(1001)}, {"", long(1001)},
			make(api.Rec, len(widths)), slices.Repeat(api.Rec{"a"}, len(widths)),
		} {
			if s, e := fixed.Whole(r, widths); s != "" || e != api.ErrArg {
				t.Errorf("Whole(%.60q, %.60v) = %.60q, %d", r, widths, s, e)
			}
		}
	}
}

func TestAllShortWidths(t *testing.T) {
	listed([]int{-1, 0, 1, 2, 3, 1001}, 4, func(widths []int) {
		for n := range 14 {
			checkCells(t, long(n), widths)
		}
	})
	listed([]int{0, 1, 2}, 3, func(widths []int) {
		listed([]string{"", "a", "bc", "def"}, 4, func(r []string) { checkWhole(t, r, widths) })
	})
}

func TestRandomWidths(t *testing.T) {
	r := rand.New(rand.NewSource(15))
	for range 1000 {
		var widths []int
		var fields api.Rec
		for range r.Intn(53) {
			w := r.Intn(12)
			if r.Intn(5) == 0 {
				w = r.Intn(1001)
			}
			widths = append(widths, w)
			fields = append(fields, string(randomBytes(r, w)))
		}
		s := strings.Join(fields, "")
		checkCells(t, s, widths)
		checkCells(t, s+"a", widths)
		checkCells(t, s[:len(s)-min(len(s), 1)], widths)
		checkWhole(t, fields, widths)
		if len(widths) == 0 {
			continue
		}
		k := r.Intn(len(widths))
		fields[k] += "a"
		checkWhole(t, fields, widths)
		widths[k] += r.Intn(1100)
		checkCells(t, s, widths)
		checkWhole(t, fields, widths)
	}
}

// P9.2

func TestAllCutsOfShortFiles(t *testing.T) {
	for n := range 11 {
		for width := 1; width <= n+1; width++ {
			eachCuts(n, func(cuts []int) { checkSplits(t, []byte(long(n)), width, cuts) })
		}
	}
}

func TestEqualCuts(t *testing.T) {
	// Splits without a byte have no records, wherever they are.
	for n := range 12 {
		for at := range n + 1 {
			for width := 1; width <= n+1; width++ {
				checkSplits(t, []byte(long(n)), width, []int{0, 0, at, at, at, n, n})
			}
		}
	}
}

func TestSplitsOfEachByte(t *testing.T) {
	for _, n := range []int{1000, 9999, 10000, 100000} {
		var cuts []int
		for at := range n + 1 {
			cuts = append(cuts, at)
		}
		for _, width := range []int{1, 2, 3, 7, 999, 1000} {
			checkSplits(t, []byte(long(n)), width, cuts)
		}
	}
}

func TestSplitsOfRandomFiles(t *testing.T) {
	r := rand.New(rand.NewSource(16))
	for range 500 {
		b := randomBytes(r, r.Intn(5000))
		width := randomWidth(r)
		if r.Intn(2) == 0 {
			b = b[:len(b)-len(b)%width]
		}
		for range 5 {
			checkSplits(t, b, width, randomCuts(r, len(b), r.Intn(60)))
		}
	}
}

// P9.3

func TestRoundTripOfRecords(t *testing.T) {
	rows := []api.Rec{{}, {""}, {"a"}, {"\n"}, {"ab"}, {"\xff\x00"}, {"abc"}, {"a", "b"}}
	listed(rows, 4, func(l []api.Rec) {
		for width := range 5 {
			checkWrite(t, l, width)
		}
	})
	r := rand.New(rand.NewSource(17))
	for range 300 {
		width := randomWidth(r)
		var l []api.Rec
		for range r.Intn(50) {
			l = append(l, api.Rec{string(randomBytes(r, width))})
		}
		checkWrite(t, l, width)
		checkWrite(t, l, width+1)
		checkWrite(t, append(l, api.Rec{string(randomBytes(r, r.Intn(1100)))}), width)
	}
}

func TestRoundTripOfFiles(t *testing.T) {
	for n := range 40 {
		for width := 1; width <= 41; width++ {
			checkRewrite(t, long(n), width)
		}
	}
	r := rand.New(rand.NewSource(18))
	for range 500 {
		width := randomWidth(r)
		checkRewrite(t, string(randomBytes(r, r.Intn(5000))), width)
		checkRewrite(t, string(randomBytes(r, r.Intn(6)*width)), width)
	}
}

// The document's rules for all layers

func TestArgumentsStay(t *testing.T) {
	whole := []byte("abcdefghij")
	b := whole[:7]
	pieces, _, _ := fixed.Scan(b, 3)
	l, _ := fixed.Read(b, 0, 7, 3)
	fixed.Canon(b, 3)
	if string(whole) != "abcdefghij" {
		t.Errorf("the file, or the memory beyond it, became %q", whole)
	}
	clear(whole)
	want := []api.Rec{{"abc"}, {"def"}}
	if !same(l, want) || !same(records(pieces), want) {
		t.Errorf("writing to the file changed the results: %q, %v", l, pieces)
	}
}

func TestArgumentsOfWriteStay(t *testing.T) {
	r := api.Rec{"ab", "x", "y"}
	given := []api.Rec{r[:1], {"cd"}, {"z"}}
	out, _ := fixed.Write(given[:2], 2)
	clear(out[:cap(out)])
	if !slices.Equal(r, api.Rec{"ab", "x", "y"}) || !same(given, []api.Rec{{"ab"}, {"cd"}, {"z"}}) {
		t.Errorf("Write changed its argument: %q", given)
	}
	if again, e := fixed.Write(given[:2], 2); string(again) != "abcd" || e != api.OK {
		t.Errorf("the same records give another file the second time: %q, %d", again, e)
	}
}

func TestArgumentsOfCellsAndWholeStay(t *testing.T) {
	widths := []int{1, 2, 7}
	r, _ := fixed.Cells("abc", widths[:2])
	more := append(r, "z")
	s, _ := fixed.Whole(more[:2], widths[:2])
	if !slices.Equal(widths, []int{1, 2, 7}) || !slices.Equal(more, api.Rec{"a", "bc", "z"}) {
		t.Errorf("the arguments became %v, %q", widths, more)
	}
	clear(more)
	clear(r)
	clear(widths)
	if s != "abc" {
		t.Errorf("writing to the fields changed the result: %q", s)
	}
	if again, e := fixed.Cells("abc", []int{1, 2}); !slices.Equal(again, api.Rec{"a", "bc"}) || e != api.OK {
		t.Errorf("the same string has other fields the second time: %q, %d", again, e)
	}
}

func TestMemoryBeyondLengthIsIgnored(t *testing.T) {
	whole := []byte("abcdefghi")
	if l, n, e := fixed.Scan(whole[:5], 3); !same(records(l), []api.Rec{{"abc"}}) || n != 3 || e != api.ErrShort {
		t.Errorf("Scan of a record that goes on beyond the length: %v, %d, %d", l, n, e)
	}
	if l, e := fixed.Read(whole[:5], 0, 5, 3); !same(l, []api.Rec{{"abc"}}) || e != api.ErrShort {
		t.Errorf("Read of a record that goes on beyond the length: %q, %d", l, e)
	}
	if l, e := fixed.Read(whole[:6], 0, 7, 3); len(l) != 0 || e != api.ErrArg {
		t.Errorf("Read of a split that goes on beyond the length: %q, %d", l, e)
	}
	if fixed.Canon(whole[:5], 3) || !fixed.Canon(whole[:6], 3) {
		t.Error("bytes beyond the length count")
	}
	l := []api.Rec{{"abc", "more"}, {"b"}}
	l[0] = l[0][:1]
	if b, e := fixed.Write(l[:1], 3); string(b) != "abc" || e != api.OK {
		t.Errorf("Write of records that go on beyond the length: %q, %d", b, e)
	}
	widths := []int{1, 2, -1}
	if r, e := fixed.Cells("abc", widths[:2]); !slices.Equal(r, api.Rec{"a", "bc"}) || e != api.OK {
		t.Errorf("Cells of widths that go on beyond the length: %q, %d", r, e)
	}
	r := api.Rec{"a", "bc", "more"}
	if s, e := fixed.Whole(r[:2], widths[:2]); s != "abc" || e != api.OK {
		t.Errorf("Whole of fields that go on beyond the length: %q, %d", s, e)
	}
	if s, e := fixed.Whole(r[:1], widths[:2]); s != "" || e != api.ErrDomain {
		t.Errorf("Whole of a field that goes on beyond the length: %q, %d", s, e)
	}
}

func TestResultsShareNoMemory(t *testing.T) {
	// Writing to one record of a result, its spare capacity included, changes no other one.
	b := []byte("abcdefghi")
	l, _ := fixed.Read(b, 0, len(b), 3)
	pieces, _, _ := fixed.Scan(b, 3)
	want := []api.Rec{{"abc"}, {"def"}, {"ghi"}}
	for i := range want {
		own := l[i][:cap(l[i])]
		lists := pieces[i].R[:cap(pieces[i].R)]
		for k := range own {
			own[k] = "changed"
		}
		for k := range lists {
			lists[k] = api.Rec{"changed"}
		}
		if !same(l[i+1:], want[i+1:]) || !same(records(pieces[i+1:]), want[i+1:]) {
			t.Errorf("writing to record %d changed another one: %q, %v", i, l, pieces)
		}
	}
	if again, _ := fixed.Read(b, 0, len(b), 3); !same(again, want) {
		t.Errorf("the same file has other records the second time: %q", again)
	}
	if !bytes.Equal(b, []byte("abcdefghi")) {
		t.Errorf("writing to the results changed the file: %q", b)
	}
}

func FuzzFixed(f *testing.F) {
	f.Add([]byte("abcdefg"), 1, 6, 3, 2)
	f.Add([]byte("ab\n\n"), 0, 3, 2, 0)
	f.Add([]byte(""), -1, 7, 1, 1000)
	f.Add([]byte(long(1001)), 1, 1001, 1000, 1)
	f.Fuzz(func(t *testing.T, b []byte, from, to, width, other int) {
		s := string(b)
		checkRead(t, s, from, to, width)
		checkWrite(t, []api.Rec{{s}, {s}}, width)
		checkWrite(t, []api.Rec{{s}, {s}}, len(s))
		for _, widths := range [][]int{{width}, {width, other}, {other, width, len(s) - width - other}} {
			checkCells(t, s, widths)
			checkWhole(t, api.Rec{s}, widths)
			checkWhole(t, api.Rec{s, ""}, widths)
		}
		if _, e := fixed.Read(b, 0, 0, width); e != api.OK {
			return
		}
		checkScan(t, s, width)
		checkRewrite(t, s, width)
		if 0 <= from && from <= to && to <= len(s) {
			checkSplits(t, b, width, []int{0, from, to, len(s)})
		}
	})
}
