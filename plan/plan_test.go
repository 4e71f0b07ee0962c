package plan_test

import (
	"math"
	"math/rand"
	"slices"
	"strconv"
	"strings"
	"testing"

	"threshing/api"
	"threshing/bundle"
	"threshing/chest"
	"threshing/csv"
	"threshing/field"
	"threshing/fixed"
	"threshing/plan"
	"threshing/seq"
	"threshing/text"
)

// formats are the numbers of all formats.
var formats = []int{api.Text, api.CSV, api.Seq, api.Chest, api.Fixed, api.Bundle}

// file returns a file with the bytes of a string.
func file(format, width int, s string) plan.File {
	return plan.File{Format: format, Width: width, B: []byte(s)}
}

// widthOf returns a width that files of a format can have.
func widthOf(format int) int {
	if format == api.Fixed {
		return 3
	}
	return 0
}

// wantWidth reports whether files of a format can have a width.
func wantWidth(format, width int) bool {
	switch format {
	case 4:
		return 1 <= width && width <= 1000
	case 0, 1, 2, 3, 5:
		return width == 0
	}
	return false
}

// wantMay reports whether a file is valid.
func wantMay(f plan.File) bool {
	return wantWidth(f.Format, f.Width) && len(f.B) <= 100000
}

// wantScan calls the function of the format.
func wantScan(f plan.File) ([]api.Piece, int, api.Errno) {
	if !wantMay(f) {
		return nil, 0, api.ErrArg
	}
	switch f.Format {
	case 0:
		return text.Scan(f.B)
	case 1:
		return csv.Scan(f.B)
	case 2:
		return seq.Scan(f.B)
	case 3:
		return chest.Scan(f.B)
	case 4:
		return fixed.Scan(f.B, f.Width)
	}
	return bundle.Scan(f.B)
}

// wantWrite calls the function of the format.
func wantWrite(l []api.Rec, format, width int) ([]byte, api.Errno) {
	if !wantWidth(format, width) {
		return nil, api.ErrArg
	}
	switch format {
	case 0:
		return text.Write(l)
	case 1:
		return csv.Write(l)
	case 2:
		return seq.Write(l)
	case 3:
		return chest.Write(l)
	case 4:
		return fixed.Write(l, width)
	}
	return bundle.Write(l)
}

// wantSizes picks the offsets that are cuts.
func wantSizes(n, size int) ([]int, api.Errno) {
	if n < 0 || n > 100000 || size < 1 {
		return nil, api.ErrArg
	}
	var l []int
	for at := range n + 1 {
		if at == 0 || at == n || at%size == 0 {
			l = append(l, at)
		}
	}
	return l, api.OK
}

// wantCuts reports whether the file is valid and the cuts are cuts of it: those
// offsets from 0 to its end that are among them, with the first and the last.
func wantCuts(f plan.File, cuts []int) bool {
	if !wantMay(f) || !slices.Contains(cuts, 0) || !slices.Contains(cuts, len(f.B)) {
		return false
	}
	among := map[int]struct{}{}
	for _, at := range cuts {
		among[at] = struct{}{}
	}
	var l []int
	for at := range len(f.B) + 1 {
		if _, ok := among[at]; ok {
			l = append(l, at)
		}
	}
	return slices.Equal(cuts, l)
}

// wantMake returns the plan by the words of the document.
func wantMake(f plan.File, cuts []int) (plan.Plan, api.Errno) {
	if !wantCuts(f, cuts) {
		return plan.Plan{}, api.ErrArg
	}
	_, good, _ := wantScan(f)
	odd := make([]bool, len(f.B)+1)
	for at, c := range f.B {
		odd[at+1] = odd[at] != (c == '"')
	}
	inside := make([]bool, len(cuts))
	for i, at := range cuts {
		inside[i] = f.Format == 1 && odd[at]
	}
	return plan.Plan{Cuts: cuts, Inside: inside, Good: good}, api.OK
}

// starts reports for each offset of a file whether a piece begins there.
func starts(f plan.File) []bool {
	l := make([]bool, len(f.B))
	pieces, _, _ := wantScan(f)
	for _, p := range pieces {
		l[p.At] = true
	}
	return l
}

// wantAlign moves each cut up, offset by offset.
func wantAlign(f plan.File, cuts []int) ([]int, api.Errno) {
	if !wantCuts(f, cuts) {
		return nil, api.ErrArg
	}
	if len(f.B) == 0 {
		return []int{0}, api.OK
	}
	begins := starts(f)
	next := make([]int, len(f.B)+1)
	next[len(f.B)] = len(f.B)
	for at := len(f.B) - 1; at >= 0; at-- {
		next[at] = next[at+1]
		if begins[at] {
			next[at] = at
		}
	}
	l := []int{0}
	for _, at := range cuts[1 : len(cuts)-1] {
		if at = next[at]; at < len(f.B) && !slices.Contains(l[len(l)-1:], at) {
			l = append(l, at)
		}
	}
	return append(l, len(f.B)), api.OK
}

// wantPack puts the greatest size that is left into a bin, again and again.
func wantPack(sizes []int, most int) ([][]int, api.Errno) {
	if len(sizes) > 500 {
		return nil, api.ErrArg
	}
	left := map[int]int{}
	for i, n := range sizes {
		if n < 0 || n > most {
			return nil, api.ErrArg
		}
		left[i] = n
	}
	var bins [][]int
	for range sizes {
		next := -1
		for i := range sizes {
			if _, ok := left[i]; ok && (next < 0 || sizes[i] > sizes[next]) {
				next = i
			}
		}
		delete(left, next)
		bins = wantPut(bins, sizes, next, most)
	}
	for _, l := range bins {
		slices.Sort(l)
	}
	return bins, api.OK
}

// wantPut puts an index into the first bin that can take its size.
func wantPut(bins [][]int, sizes []int, i, most int) [][]int {
	for k, l := range bins {
		if total(sizes, l)+uint64(sizes[i]) <= uint64(most) {
			bins[k] = append(l, i)
			return bins
		}
	}
	return append(bins, []int{i})
}

// total returns the total of a bin, which twice does not exceed a uint64.
func total(sizes, l []int) uint64 {
	n := uint64(0)
	for _, i := range l {
		n += uint64(sizes[i])
	}
	return n
}

// samePieces reports whether two lists of pieces are equal.
func samePieces(a, b []api.Piece) bool {
	return slices.EqualFunc(a, b, func(p, q api.Piece) bool { return p.At == q.At && field.Same(p.R, q.R) })
}

// checkScan compares May and Scan.
func checkScan(t *testing.T, f plan.File) {
	t.Helper()
	if may := wantMay(f); plan.May(f) != may {
		t.Errorf("May(%d, %d, %.60q) is not %t", f.Format, f.Width, f.B, may)
	}
	l, n, e := plan.Scan(f)
	want, wantN, wantE := wantScan(f)
	if !samePieces(l, want) || n != wantN || e != wantE {
		t.Errorf("Scan(%d, %d, %.60q) = %.60v, %d, %d; want %.60v, %d, %d", f.Format, f.Width, f.B, l, n, e, want, wantN, wantE)
	}
}

// checkWrite compares Write.
func checkWrite(t *testing.T, l []api.Rec, format, width int) {
	t.Helper()
	b, e := plan.Write(l, format, width)
	want, wantE := wantWrite(l, format, width)
	if string(b) != string(want) || e != wantE {
		t.Errorf("Write(%.60q, %d, %d) = %.60q, %d; want %.60q, %d", l, format, width, b, e, want, wantE)
	}
}

// checkSizes compares Sizes.
func checkSizes(t *testing.T, n, size int) {
	t.Helper()
	l, e := plan.Sizes(n, size)
	if want, wantE := wantSizes(n, size); !slices.Equal(l, want) || e != wantE {
		t.Errorf("Sizes(%d, %d) = %.60v, %d; want %.60v, %d", n, size, l, e, want, wantE)
	}
}

// checkMake compares Make, without Same.
func checkMake(t *testing.T, f plan.File, cuts []int) {
	t.Helper()
	p, e := plan.Make(f, cuts)
	want, wantE := wantMake(f, cuts)
	if !slices.Equal(p.Cuts, want.Cuts) || !slices.Equal(p.Inside, want.Inside) || p.Good != want.Good || e != wantE {
		t.Errorf("Make(%d, %d, %.60q, %.60v) = %.60v, %d; want %.60v, %d", f.Format, f.Width, f.B, cuts, p, e, want, wantE)
	}
}

// checkAlign compares Align, and looks at where the splits between the aligned
// cuts begin.
func checkAlign(t *testing.T, f plan.File, cuts []int) {
	t.Helper()
	l, e := plan.Align(f, cuts)
	if want, wantE := wantAlign(f, cuts); !slices.Equal(l, want) || e != wantE {
		t.Errorf("Align(%d, %d, %.60q, %.60v) = %.60v, %d; want %.60v, %d", f.Format, f.Width, f.B, cuts, l, e, want, wantE)
	}
	if e == api.OK {
		checkAligned(t, f, l)
	}
}

// checkAligned checks that cuts are aligned. The first split begins at 0, even
// if the first piece begins behind it.
func checkAligned(t *testing.T, f plan.File, cuts []int) {
	t.Helper()
	if _, e := plan.Make(f, cuts); e != api.OK {
		t.Errorf("the aligned cuts %.60v of %d, %d, %.60q are no cuts: %d", cuts, f.Format, f.Width, f.B, e)
		return
	}
	begins := starts(f)
	for i := 1; i < len(cuts)-1; i++ {
		if !begins[cuts[i]] {
			t.Errorf("no piece of %d, %d, %.60q begins at the aligned cut %d", f.Format, f.Width, f.B, cuts[i])
		}
	}
	if again, e := plan.Align(f, cuts); !slices.Equal(again, cuts) || e != api.OK {
		t.Errorf("Align of the aligned cuts %.60v of %d, %d, %.60q = %.60v, %d", cuts, f.Format, f.Width, f.B, again, e)
	}
}

// checkCuts compares all that is told of a file with cuts.
func checkCuts(t *testing.T, f plan.File, cuts []int) {
	t.Helper()
	checkMake(t, f, cuts)
	checkAlign(t, f, cuts)
}

// checkPack compares Pack, and looks at the bins.
func checkPack(t *testing.T, sizes []int, most int) {
	t.Helper()
	bins, e := plan.Pack(sizes, most)
	want, wantE := wantPack(sizes, most)
	if !slices.EqualFunc(bins, want, slices.Equal) || e != wantE {
		t.Errorf("Pack(%.60v, %d) = %.60v, %d; want %.60v, %d", sizes, most, bins, e, want, wantE)
	}
	if e == api.OK {
		checkBins(t, sizes, most, bins)
	}
}

// checkBins checks that each index is in exactly one bin, that no bin has more
// than it can take, and that no two have so little that one would do.
func checkBins(t *testing.T, sizes []int, most int, bins [][]int) {
	t.Helper()
	seen := make([]int, len(sizes))
	for k, l := range bins {
		for _, i := range l {
			seen[i]++
		}
		if len(l) == 0 || !slices.IsSorted(l) || total(sizes, l) > uint64(most) {
			t.Errorf("bin %d of Pack(%.60v, %d) is %.60v", k, sizes, most, l)
		}
		for _, other := range bins[:k] {
			if total(sizes, l)+total(sizes, other) <= uint64(most) {
				t.Errorf("the bins %.60v and %.60v of Pack(%.60v, %d) have too little", other, l, sizes, most)
				return
			}
		}
	}
	for i, n := range seen {
		if n != 1 {
			t.Errorf("index %d is %d times in the bins of Pack(%.60v, %d)", i, n, sizes, most)
		}
	}
}

// listed calls check with every list of at most most of the elements.
func listed[T any](elements []T, most int, check func(l []T)) {
	level := [][]T{nil}
	for range most + 1 {
		var next [][]T
		for _, l := range level {
			check(l)
			for _, x := range elements {
				next = append(next, append(slices.Clone(l), x))
			}
		}
		level = next
	}
}

// eachCuts calls check with all cuts of a file of n bytes.
func eachCuts(n int, check func(cuts []int)) {
	if n == 0 {
		check([]int{0})
		return
	}
	for set := range 1 << (n - 1) {
		cuts := []int{0}
		for at := 1; at < n; at++ {
			if set>>(at-1)&1 == 1 {
				cuts = append(cuts, at)
			}
		}
		check(append(cuts, n))
	}
}

// allCuts returns the cuts of a file of n bytes at every offset.
func allCuts(n int) []int {
	var l []int
	for at := range n + 1 {
		l = append(l, at)
	}
	return l
}

// randomCuts returns cuts of a file of n bytes, at most k of them between 0 and n.
func randomCuts(r *rand.Rand, n, k int) []int {
	cuts := []int{0, n}
	for range k {
		cuts = append(cuts, r.Intn(n+1))
	}
	slices.Sort(cuts)
	return slices.Compact(cuts)
}

// recordsFor returns n records that can be written in a format.
func recordsFor(format, n int) []api.Rec {
	var l []api.Rec
	for i := range n {
		s := strconv.Itoa(i)
		switch format {
		case api.Text:
			l = append(l, api.Rec{strings.Repeat("\"x", i%4)})
		case api.CSV:
			l = append(l, api.Rec{"a\n" + s, strings.Repeat(`"`, i%3), "b"})
		case api.Seq:
			l = append(l, api.Rec{"\xff" + s, strings.Repeat("S", i%5)})
		case api.Chest:
			l = append(l, slices.Repeat(api.Rec{"\"" + s}, i%3))
		case api.Fixed:
			l = append(l, api.Rec{strconv.Itoa(100 + i%900)})
		default:
			l = append(l, api.Rec{strconv.Itoa(10000 + i), strings.Repeat("\"", i%4)})
		}
	}
	return l
}

// written returns the file of n records of a format.
func written(t testing.TB, format, n int) plan.File {
	t.Helper()
	b, e := plan.Write(recordsFor(format, n), format, widthOf(format))
	if e != api.OK {
		t.Fatalf("%d records of format %d: %d", n, format, e)
	}
	return plan.File{Format: format, Width: widthOf(format), B: b}
}

// faulty returns files that are like f, but with a fault.
func faulty(f plan.File) []plan.File {
	n := len(f.B)
	var l []plan.File
	for _, at := range []int{0, 1, n / 3, n / 2, n - 1} {
		if at < 0 || at >= n {
			continue
		}
		changed := slices.Clone(f.B)
		changed[at] ^= 1
		for _, b := range [][]byte{changed, f.B[:at], slices.Insert(slices.Clone(f.B), at, '"'), append(slices.Clone(f.B), f.B[at:]...)} {
			l = append(l, plan.File{Format: f.Format, Width: f.Width, B: b})
		}
	}
	return l
}

// samples returns files of all formats, empty, with and without faults.
func samples(t testing.TB) []plan.File {
	t.Helper()
	var l []plan.File
	for _, format := range formats {
		l = append(l, file(format, widthOf(format), ""))
		for _, n := range []int{0, 1, 2, 3, 4, 5, 8, 13, 40} {
			f := written(t, format, n)
			l = append(l, f)
			l = append(l, faulty(f)...)
		}
	}
	return l
}

// notFiles returns files that are not valid.
func notFiles() []plan.File {
	large := strings.Repeat("ab\n", 33333) + "cd"
	var l []plan.File
	for _, s := range []string{"", "a", "abc"} {
		for _, format := range []int{-1, -4, 6, 7, 10, 256, 260, 1 << 32, 1<<32 + 4, math.MinInt, math.MaxInt} {
			for _, width := range []int{0, 1, 3, 1000} {
				l = append(l, file(format, width, s))
			}
		}
		for _, width := range []int{1, 3, -1, 1000, 1 << 32, math.MinInt, math.MaxInt} {
			for _, format := range []int{api.Text, api.CSV, api.Seq, api.Chest, api.Bundle} {
				l = append(l, file(format, width, s))
			}
		}
		for _, width := range []int{0, -1, -3, -1000, 1001, 2000, 1 << 32, 1<<32 + 3, math.MinInt, math.MinInt + 3, math.MaxInt} {
			l = append(l, file(api.Fixed, width, s))
		}
	}
	for _, format := range formats {
		l = append(l, file(format, widthOf(format), large))
	}
	return l
}

// P11.1: K1

func TestMay(t *testing.T) {
	for _, format := range formats {
		for width := -3; width <= 1003; width++ {
			if may := wantWidth(format, width); plan.May(file(format, width, "a")) != may || plan.May(file(format, width, "")) != may {
				t.Errorf("May of format %d and width %d is not %t", format, width, may)
			}
		}
		for n, may := range map[int]bool{0: true, 1: true, 99999: true, 100000: true, 100001: false, 200000: false} {
			if plan.May(file(format, widthOf(format), strings.Repeat("a", n))) != may {
				t.Errorf("May of format %d and %d bytes is not %t", format, n, may)
			}
		}
	}
	for _, f := range notFiles() {
		if plan.May(f) {
			t.Errorf("May(%d, %d, %.60q)", f.Format, f.Width, f.B)
		}
	}
	if !plan.May(plan.File{}) || plan.May(plan.File{Format: api.Fixed}) || plan.May(plan.File{Width: 1}) {
		t.Error("May of a file of nil")
	}
}

func TestScan(t *testing.T) {
	for _, x := range []struct {
		f  plan.File
		at []int
		r  []api.Rec
		n  int
		e  api.Errno
	}{
		{file(api.Text, 0, "a\nb,c"), []int{0, 2}, []api.Rec{{"a"}, {"b,c"}}, 5, api.OK},
		{file(api.CSV, 0, "a\nb,c"), []int{0, 2}, []api.Rec{{"a"}, {"b", "c"}}, 5, api.OK},
		{file(api.CSV, 0, "a\n\"b,c"), []int{0}, []api.Rec{{"a"}}, 2, api.ErrForm},
		{file(api.CSV, 0, strings.Repeat(",", 50)), nil, nil, 0, api.ErrLarge},
		{file(api.Seq, 0, "TSQ1"), nil, nil, 4, api.OK},
		{file(api.Seq, 0, "a\nb,c"), nil, nil, 0, api.ErrForm},
		{file(api.Chest, 0, "a\nb,c"), nil, nil, 0, api.ErrForm},
		{file(api.Fixed, 2, "a\nb,c"), []int{0, 2}, []api.Rec{{"a\n"}, {"b,"}}, 4, api.ErrShort},
		{file(api.Fixed, 5, "a\nb,c"), []int{0}, []api.Rec{{"a\nb,c"}}, 5, api.OK},
		{file(api.Fixed, 1000, "a\nb,c"), nil, nil, 0, api.ErrShort},
		{file(api.Bundle, 0, "\x05\x00\x8d\xef\x02\xd2"), nil, nil, 6, api.OK},
		{file(api.Bundle, 0, "a\nb,c"), nil, nil, 0, api.ErrForm},
	} {
		var want []api.Piece
		for i, r := range x.r {
			want = append(want, api.Piece{At: x.at[i], R: []api.Rec{r}})
		}
		if l, n, e := plan.Scan(x.f); !samePieces(l, want) || n != x.n || e != x.e {
			t.Errorf("Scan(%d, %d, %q) = %v, %d, %d; want %v, %d, %d", x.f.Format, x.f.Width, x.f.B, l, n, e, want, x.n, x.e)
		}
	}
	for _, f := range samples(t) {
		checkScan(t, f)
	}
}

func TestScanErrors(t *testing.T) {
	for _, f := range notFiles() {
		if l, n, e := plan.Scan(f); len(l) != 0 || n != 0 || e != api.ErrArg {
			t.Errorf("Scan(%d, %d, %.60q) = %.60v, %d, %d", f.Format, f.Width, f.B, l, n, e)
		}
	}
}

func TestScanOfLargeFiles(t *testing.T) {
	for _, format := range formats {
		for _, n := range []int{99999, 100000, 100001} {
			checkScan(t, file(format, widthOf(format), strings.Repeat("abc,defgh\n", 10001)[:n]))
		}
	}
}

func TestWrite(t *testing.T) {
	for _, x := range []struct {
		l             []api.Rec
		format, width int
		want          string
		e             api.Errno
	}{
		{[]api.Rec{{"ab"}, {"c,"}}, api.Text, 0, "ab\nc,\n", api.OK},
		{[]api.Rec{{"ab"}, {"c,"}}, api.CSV, 0, "ab\n\"c,\"\n", api.OK},
		{[]api.Rec{{"ab"}, {"c,"}}, api.Fixed, 2, "abc,", api.OK},
		{[]api.Rec{{"ab"}, {"c,"}}, api.Fixed, 3, "", api.ErrDomain},
		{[]api.Rec{{"ab"}, {"c,"}}, api.Seq, 0, "", api.ErrDomain},
		{[]api.Rec{{"ab"}, {"c,"}}, api.Bundle, 0, "", api.ErrDomain},
		{[]api.Rec{{"ab\n"}}, api.Text, 0, "", api.ErrDomain},
		{[]api.Rec{{}}, api.CSV, 0, "", api.ErrDomain},
		{[]api.Rec{make(api.Rec, 51)}, api.Chest, 0, "", api.ErrDomain},
		{nil, api.Text, 0, "", api.OK},
		{nil, api.CSV, 0, "", api.OK},
		{nil, api.Seq, 0, "TSQ1", api.OK},
		{nil, api.Chest, 0, "\x00\x8d\xef\x02\xd2\x05\x00\x00\x00CHST", api.OK},
		{nil, api.Fixed, 1, "", api.OK},
		{nil, api.Bundle, 0, "\x05\x00\x8d\xef\x02\xd2", api.OK},
	} {
		if b, e := plan.Write(x.l, x.format, x.width); string(b) != x.want || e != x.e {
			t.Errorf("Write(%.60q, %d, %d) = %q, %d; want %q, %d", x.l, x.format, x.width, b, e, x.want, x.e)
		}
	}
	for _, format := range formats {
		for _, n := range []int{0, 1, 3, 4, 5, 100, 1000, 1001, 4001} {
			checkWrite(t, recordsFor(format, n), format, widthOf(format))
			for _, other := range formats {
				checkWrite(t, recordsFor(format, n), other, widthOf(other))
			}
		}
	}
}

func TestWriteErrors(t *testing.T) {
	// The format and the width come first, whatever the records are. Those of
	// the large files are valid.
	for _, f := range notFiles() {
		if len(f.B) > api.MaxFile {
			continue
		}
		for _, l := range [][]api.Rec{nil, {}, {{"a"}}, {{"abc"}}, {{"a", "b"}}, {{}}, {{"\n"}}, {make(api.Rec, 51)}} {
			if b, e := plan.Write(l, f.Format, f.Width); len(b) != 0 || e != api.ErrArg {
				t.Errorf("Write(%.60q, %d, %d) = %.60q, %d", l, f.Format, f.Width, b, e)
			}
		}
	}
	for format := -2; format <= 7; format++ {
		for width := -2; width <= 1002; width++ {
			checkWrite(t, []api.Rec{{"abc"}}, format, width)
		}
	}
}

func TestSizes(t *testing.T) {
	for _, x := range []struct {
		n, size int
		want    []int
	}{
		{10, 4, []int{0, 4, 8, 10}},
		{8, 4, []int{0, 4, 8}},
		{9, 4, []int{0, 4, 8, 9}},
		{4, 4, []int{0, 4}},
		{3, 4, []int{0, 3}},
		{5, 4, []int{0, 4, 5}},
		{1, 1, []int{0, 1}},
		{3, 1, []int{0, 1, 2, 3}},
		{1, math.MaxInt, []int{0, 1}},
		{0, 1, []int{0}},
		{0, 4, []int{0}},
		{0, math.MaxInt, []int{0}},
		{100000, 50000, []int{0, 50000, 100000}},
		{100000, 99999, []int{0, 99999, 100000}},
		{100000, 100000, []int{0, 100000}},
		{100000, math.MaxInt, []int{0, 100000}},
		{100000, math.MaxInt - 50000, []int{0, 100000}},
	} {
		if l, e := plan.Sizes(x.n, x.size); !slices.Equal(l, x.want) || e != api.OK {
			t.Errorf("Sizes(%d, %d) = %v, %d; want %v", x.n, x.size, l, e, x.want)
		}
	}
	for n := -2; n < 70; n++ {
		for size := -2; size < 72; size++ {
			checkSizes(t, n, size)
		}
	}
	for _, n := range []int{99998, 99999, 100000, 100001} {
		for _, size := range []int{0, 1, 2, 3, 1000, 99998, 99999, 100000, 100001, math.MaxInt} {
			checkSizes(t, n, size)
		}
	}
}

func TestSizesErrors(t *testing.T) {
	for _, x := range [][2]int{
		{-1, 1}, {-4, 4}, {100001, 1}, {100001, 100001}, {math.MinInt, 1}, {math.MaxInt, 1}, {1 << 32, 1},
		{0, 0}, {1, 0}, {100000, 0}, {0, -1}, {10, -1}, {10, -4}, {10, math.MinInt}, {-1, 0}, {math.MaxInt, math.MinInt},
		{math.MaxInt, math.MaxInt}, {math.MinInt, math.MinInt},
	} {
		if l, e := plan.Sizes(x[0], x[1]); len(l) != 0 || e != api.ErrArg {
			t.Errorf("Sizes(%d, %d) = %.60v, %d", x[0], x[1], l, e)
		}
	}
}

func TestSizesAreCuts(t *testing.T) {
	for n := range 40 {
		for size := 1; size < 42; size++ {
			cuts, _ := plan.Sizes(n, size)
			if _, e := plan.Make(file(api.Text, 0, strings.Repeat("a", n)), cuts); e != api.OK {
				t.Errorf("Sizes(%d, %d) = %v, which are no cuts", n, size, cuts)
			}
		}
	}
}

func TestMake(t *testing.T) {
	quoted := "a\n\"b\n\"\nc\"\n"
	for _, x := range []struct {
		f      plan.File
		cuts   []int
		inside []bool
		good   int
	}{
		{file(api.CSV, 0, quoted), []int{0, 4, 7, 10}, []bool{false, true, false, true}, 7},
		{file(api.CSV, 0, quoted), []int{0, 2, 3, 5, 6, 8, 9, 10}, []bool{false, false, true, true, false, false, true, true}, 7},
		{file(api.CSV, 0, quoted), []int{0, 10}, []bool{false, true}, 7},
		{file(api.CSV, 0, `"`), []int{0, 1}, []bool{false, true}, 0},
		{file(api.CSV, 0, `""`), []int{0, 1, 2}, []bool{false, true, false}, 2},
		{file(api.CSV, 0, "\"\"\"\"\n"), []int{0, 2, 3, 5}, []bool{false, false, true, false}, 5},
		// No other format has quotes.
		{file(api.Text, 0, quoted), []int{0, 4, 7, 10}, make([]bool, 4), 10},
		{file(api.Fixed, 3, quoted), []int{0, 4, 7, 10}, make([]bool, 4), 9},
		{file(api.Seq, 0, quoted), []int{0, 4, 7, 10}, make([]bool, 4), 0},
		{file(api.Seq, 0, `TSQ1"`), []int{0, 4, 5}, make([]bool, 3), 4},
		{file(api.Chest, 0, quoted), []int{0, 4, 7, 10}, make([]bool, 4), 0},
		{file(api.Bundle, 0, quoted), []int{0, 4, 7, 10}, make([]bool, 4), 0},
		{file(api.Bundle, 0, "\x05\x00\x8d\xef\x02\xd2\""), []int{0, 7}, make([]bool, 2), 6},
	} {
		p, e := plan.Make(x.f, x.cuts)
		if !slices.Equal(p.Cuts, x.cuts) || !slices.Equal(p.Inside, x.inside) || p.Good != x.good || e != api.OK {
			t.Errorf("Make(%d, %d, %q, %v) = %v, %d; want %v, %d", x.f.Format, x.f.Width, x.f.B, x.cuts, p, e, x.inside, x.good)
		}
	}
}

func TestMakeOfEmptyFiles(t *testing.T) {
	for _, format := range formats {
		f := plan.File{Format: format, Width: widthOf(format)}
		p, e := plan.Make(f, []int{0})
		if !slices.Equal(p.Cuts, []int{0}) || !slices.Equal(p.Inside, []bool{false}) || p.Good != 0 || e != api.OK {
			t.Errorf("Make of an empty file of format %d = %v, %d", format, p, e)
		}
		for _, cuts := range [][]int{nil, {}, {0, 0}, {1}, {-1}, {0, 1}, {-1, 0}, {0, 0, 0}} {
			if p, e := plan.Make(f, cuts); len(p.Cuts) != 0 || len(p.Inside) != 0 || p.Good != 0 || e != api.ErrArg {
				t.Errorf("Make of an empty file of format %d with the cuts %v = %v, %d", format, cuts, p, e)
			}
		}
	}
}

func TestMakeErrors(t *testing.T) {
	for _, format := range formats {
		f := written(t, format, 7)
		n := len(f.B)
		for _, cuts := range [][]int{
			nil, {}, {0}, {n}, {0, n - 1}, {0, n + 1}, {1, n}, {-1, n}, {-1, 0, n}, {0, n, n + 1}, {0, 0, n}, {0, n, n},
			{0, 4, 4, n}, {0, 4, 3, n}, {n, 0}, {0, n, 0}, {0, n, 4, n}, {0, 4, 0, n}, {0, n + 1, n}, {0, -1, n}, {1, 2},
			{0, 1 << 32, n}, {0, math.MaxInt, n}, {0, math.MinInt, n}, {math.MinInt, n}, {0, math.MaxInt}, {1 << 32, n},
		} {
			if p, e := plan.Make(f, cuts); len(p.Cuts) != 0 || len(p.Inside) != 0 || p.Good != 0 || e != api.ErrArg {
				t.Errorf("Make of %d bytes of format %d with the cuts %v = %v, %d", n, format, cuts, p, e)
			}
			if l, e := plan.Align(f, cuts); len(l) != 0 || e != api.ErrArg {
				t.Errorf("Align of %d bytes of format %d with the cuts %v = %v, %d", n, format, cuts, l, e)
			}
		}
	}
	for _, f := range notFiles() {
		for _, cuts := range [][]int{{0}, {0, len(f.B)}, {0, 1, len(f.B)}, nil} {
			if p, e := plan.Make(f, cuts); len(p.Cuts) != 0 || len(p.Inside) != 0 || p.Good != 0 || e != api.ErrArg {
				t.Errorf("Make(%d, %d, %.60q, %v) = %.60v, %d", f.Format, f.Width, f.B, cuts, p, e)
			}
			if l, e := plan.Align(f, cuts); len(l) != 0 || e != api.ErrArg {
				t.Errorf("Align(%d, %d, %.60q, %v) = %.60v, %d", f.Format, f.Width, f.B, cuts, l, e)
			}
		}
	}
}

func TestAllListsOfCuts(t *testing.T) {
	for _, s := range []string{"", "a", "\"\n", "\"\n\"", "a\n\"\""} {
		for _, f := range []plan.File{file(api.Text, 0, s), file(api.CSV, 0, s), file(api.Fixed, 2, s)} {
			offsets := []int{-1}
			for at := range len(s) + 2 {
				offsets = append(offsets, at)
			}
			listed(offsets, 5, func(cuts []int) { checkCuts(t, f, cuts) })
		}
	}
}

func TestAllCutsOfShortFiles(t *testing.T) {
	listed([]string{"a", "\"", "\n", ","}, 5, func(l []string) {
		s := strings.Join(l, "")
		for _, f := range []plan.File{file(api.Text, 0, s), file(api.CSV, 0, s), file(api.Fixed, 2, s)} {
			checkScan(t, f)
			eachCuts(len(s), func(cuts []int) { checkCuts(t, f, cuts) })
		}
	})
}

func TestSame(t *testing.T) {
	// All of these differ.
	plans := []plan.Plan{
		{},
		{Good: 1},
		{Good: -1},
		{Cuts: []int{0}},
		{Inside: []bool{false}},
		{Inside: []bool{true}},
		{Cuts: []int{0}, Inside: []bool{false}},
		{Cuts: []int{0}, Inside: []bool{true}},
		{Cuts: []int{1}, Inside: []bool{false}},
		{Cuts: []int{0}, Inside: []bool{false}, Good: 1},
		{Cuts: []int{0, 1}, Inside: []bool{false}},
		{Cuts: []int{0, 1}, Inside: []bool{false, false}},
		{Cuts: []int{0, 1}, Inside: []bool{false, true}},
		{Cuts: []int{0, 2}, Inside: []bool{false, true}},
		{Cuts: []int{0, 1, 2}, Inside: []bool{false, true, false}, Good: 2},
		{Cuts: []int{0, 1, 2}, Inside: []bool{false, true, false}, Good: 1},
		{Cuts: []int{0, 1, 2}, Inside: []bool{false, false, true}, Good: 2},
		{Cuts: []int{0, 2, 1}, Inside: []bool{false, true, false}, Good: 2},
		{Cuts: []int{0, 1, 2}, Inside: []bool{false, true}, Good: 2},
	}
	for i, a := range plans {
		for k, b := range plans {
			b = plan.Plan{Cuts: slices.Clone(b.Cuts), Inside: slices.Clone(b.Inside), Good: b.Good}
			if same := plan.Same(a, b); same != (i == k) {
				t.Errorf("Same(%v, %v) is %t", a, b, same)
			}
		}
	}
	if !plan.Same(plan.Plan{}, plan.Plan{Cuts: []int{}, Inside: []bool{}}) || !plan.Same(plan.Plan{Cuts: []int{}, Inside: []bool{}}, plan.Plan{}) {
		t.Error("nil and empty slices differ")
	}
	f := file(api.CSV, 0, "\"\n\"")
	a, _ := plan.Make(f, []int{0, 1, 3})
	b, _ := plan.Make(f, []int{0, 1, 3})
	c, _ := plan.Make(f, []int{0, 2, 3})
	if !plan.Same(a, b) || plan.Same(a, c) || plan.Same(a, plan.Plan{}) {
		t.Error("plans of one file")
	}
}

func TestSamples(t *testing.T) {
	r := rand.New(rand.NewSource(21))
	for _, f := range samples(t) {
		n := len(f.B)
		checkCuts(t, f, allCuts(n))
		checkCuts(t, f, slices.Compact([]int{0, n}))
		for range 20 {
			checkCuts(t, f, randomCuts(r, n, r.Intn(8)))
		}
		for _, size := range []int{1, 2, 3, 5, 10, 100} {
			cuts, _ := plan.Sizes(n, size)
			checkCuts(t, f, cuts)
		}
		for _, format := range formats {
			// What is written in one format is a file of each other one.
			checkCuts(t, plan.File{Format: format, Width: widthOf(format), B: f.B}, randomCuts(r, n, 5))
		}
	}
}

func TestManyCuts(t *testing.T) {
	for _, format := range formats {
		for _, s := range []string{strings.Repeat("\"a\nb", 25000), strings.Repeat("ab,cd\nef,\"\"", 10000)[:100000]} {
			f := file(format, widthOf(format), s)
			checkCuts(t, f, allCuts(len(s)))
			checkCuts(t, f, []int{0, 49999, 50000, 50001, 99999, 100000})
		}
	}
}

// P11.1: K2, and P11.2

func TestAlign(t *testing.T) {
	quoted := "a\n\"b\n\"\nc\"\n"
	for _, x := range []struct {
		f          plan.File
		cuts, want []int
	}{
		{file(api.CSV, 0, quoted), []int{0, 1, 4, 10}, []int{0, 2, 10}},
		{file(api.CSV, 0, quoted), []int{0, 2, 10}, []int{0, 2, 10}},
		{file(api.CSV, 0, quoted), []int{0, 3, 7, 10}, []int{0, 10}},
		{file(api.CSV, 0, quoted), []int{0, 10}, []int{0, 10}},
		{file(api.Text, 0, quoted), []int{0, 1, 4, 10}, []int{0, 2, 5, 10}},
		{file(api.Text, 0, quoted), []int{0, 1, 2, 3, 8, 9, 10}, []int{0, 2, 5, 10}},
		{file(api.Text, 0, quoted), []int{0, 6, 7, 8, 10}, []int{0, 7, 10}},
		{file(api.Text, 0, "abc"), []int{0, 1, 2, 3}, []int{0, 3}},
		{file(api.Text, 0, "\n\n\n"), []int{0, 1, 2, 3}, []int{0, 1, 2, 3}},
		{file(api.Fixed, 3, "abcdefgh"), []int{0, 1, 2, 3, 4, 8}, []int{0, 3, 8}},
		// No record begins in the bytes that are left.
		{file(api.Fixed, 3, "abcdefgh"), []int{0, 4, 6, 7, 8}, []int{0, 8}},
		{file(api.Fixed, 1, "abc"), []int{0, 1, 3}, []int{0, 1, 3}},
		{file(api.Seq, 0, "TSQ1"), []int{0, 1, 4}, []int{0, 4}},
		{file(api.Chest, 0, "abc"), []int{0, 1, 2, 3}, []int{0, 3}},
		{file(api.Bundle, 0, "\x05\x00\x8d\xef\x02\xd2"), []int{0, 1, 2, 6}, []int{0, 6}},
		{file(api.Text, 0, ""), []int{0}, []int{0}},
		{file(api.CSV, 0, ""), []int{0}, []int{0}},
		{file(api.Seq, 0, ""), []int{0}, []int{0}},
		{file(api.Chest, 0, ""), []int{0}, []int{0}},
		{file(api.Fixed, 1000, ""), []int{0}, []int{0}},
		{file(api.Bundle, 0, ""), []int{0}, []int{0}},
	} {
		if l, e := plan.Align(x.f, x.cuts); !slices.Equal(l, x.want) || e != api.OK {
			t.Errorf("Align(%d, %d, %q, %v) = %v, %d; want %v", x.f.Format, x.f.Width, x.f.B, x.cuts, l, e, x.want)
		}
	}
}

func TestAlignToEachPiece(t *testing.T) {
	for _, format := range formats {
		f := written(t, format, 20)
		pieces, _, _ := wantScan(f)
		n := len(f.B)
		before := 0
		for _, p := range pieces {
			// From each offset after a piece, a cut is moved up to the next one.
			for at := before + 1; at <= p.At && at < n; at++ {
				if l, e := plan.Align(f, []int{0, at, n}); !slices.Equal(l, []int{0, p.At, n}) || e != api.OK {
					t.Errorf("Align of format %d and a cut at %d = %v, %d; want one at %d", format, at, l, e, p.At)
				}
			}
			before = p.At
		}
		for at := before + 1; at < n; at++ {
			if l, e := plan.Align(f, []int{0, at, n}); !slices.Equal(l, []int{0, n}) || e != api.OK {
				t.Errorf("Align of format %d and a cut at %d, after all pieces = %v, %d", format, at, l, e)
			}
		}
	}
}

func TestAlignedSplitsBeginWithPieces(t *testing.T) {
	for _, format := range formats {
		f := written(t, format, 30)
		begins := starts(f)
		want := []int{0}
		for at, ok := range begins {
			if ok && at > 0 {
				want = append(want, at)
			}
		}
		want = append(want, len(f.B))
		// Cuts at every offset become cuts where the pieces begin.
		if l, e := plan.Align(f, allCuts(len(f.B))); !slices.Equal(l, want) || e != api.OK {
			t.Errorf("Align of all cuts of format %d = %v, %d; want %v", format, l, e, want)
		}
	}
}

// P11.1: K3, and P11.3

func TestPack(t *testing.T) {
	for _, x := range []struct {
		sizes []int
		most  int
		want  [][]int
	}{
		{[]int{4, 8, 1, 4, 2, 1}, 10, [][]int{{1, 4}, {0, 2, 3, 5}}},
		{nil, 10, nil},
		{nil, 0, nil},
		{[]int{}, 10, nil},
		{[]int{0}, 0, [][]int{{0}}},
		{[]int{0, 0, 0}, 0, [][]int{{0, 1, 2}}},
		{[]int{0, 0, 0}, 10, [][]int{{0, 1, 2}}},
		{[]int{10}, 10, [][]int{{0}}},
		{[]int{10, 0, 10, 0}, 10, [][]int{{0, 1, 3}, {2}}},
		{[]int{0, 10, 10}, 10, [][]int{{0, 1}, {2}}},
		{[]int{5, 5, 5, 5, 5}, 10, [][]int{{0, 1}, {2, 3}, {4}}},
		{[]int{5, 6, 5, 6}, 10, [][]int{{1}, {3}, {0, 2}}},
		{[]int{1, 2, 3, 4}, 5, [][]int{{0, 3}, {1, 2}}},
		{[]int{4, 3, 2, 1}, 5, [][]int{{0, 3}, {1, 2}}},
		// The first bin that can take it, not the one with the least space left.
		{[]int{5, 6, 4, 3}, 10, [][]int{{1, 2}, {0, 3}}},
		{[]int{6, 7, 3}, 10, [][]int{{1, 2}, {0}}},
		{[]int{6, 7, 1, 4}, 10, [][]int{{1, 2}, {0, 3}}},
		{[]int{5, 7, 2}, 10, [][]int{{1, 2}, {0}}},
		{[]int{8, 8, 8, 1, 2}, 10, [][]int{{0, 4}, {1, 3}, {2}}},
		// Totals that are too great for an int.
		{[]int{math.MaxInt}, math.MaxInt, [][]int{{0}}},
		{[]int{math.MaxInt, math.MaxInt, 0}, math.MaxInt, [][]int{{0, 2}, {1}}},
		{[]int{math.MaxInt - 1, 1, math.MaxInt, 1}, math.MaxInt, [][]int{{2}, {0, 1}, {3}}},
		{[]int{math.MaxInt/2 + 1, math.MaxInt/2 + 1, math.MaxInt / 2}, math.MaxInt, [][]int{{0, 2}, {1}}},
	} {
		l, e := plan.Pack(x.sizes, x.most)
		if !slices.EqualFunc(l, x.want, slices.Equal) || e != api.OK {
			t.Errorf("Pack(%v, %d) = %v, %d; want %v", x.sizes, x.most, l, e, x.want)
		}
		checkPack(t, x.sizes, x.most)
	}
}

func TestPackLimits(t *testing.T) {
	for _, n := range []int{499, 500, 501, 502, 1000, 100000} {
		for _, most := range []int{0, 1, 7, math.MaxInt} {
			for _, size := range []int{0, 1, 7} {
				checkPack(t, slices.Repeat([]int{size}, n), most)
			}
		}
	}
	// Each of the sizes in a bin of its own.
	l, e := plan.Pack(slices.Repeat([]int{2}, 500), 3)
	if len(l) != 500 || e != api.OK || !slices.Equal(l[499], []int{499}) {
		t.Errorf("Pack of 500 sizes: %d bins, %d", len(l), e)
	}
	if l, e := plan.Pack(make([]int, 501), 3); len(l) != 0 || e != api.ErrArg {
		t.Errorf("Pack of 501 sizes: %v, %d", l, e)
	}
}

func TestPackErrors(t *testing.T) {
	for _, x := range []struct {
		sizes []int
		most  int
	}{
		{[]int{11}, 10},
		{[]int{-1}, 10},
		{[]int{1, 2, 11}, 10},
		{[]int{11, 2, 1}, 10},
		{[]int{1, -1, 2}, 10},
		{[]int{1, 2, -1}, 10},
		{[]int{1}, 0},
		{[]int{0}, -1},
		{[]int{-1}, -1},
		{[]int{-1}, 0},
		{[]int{-2}, -1},
		{[]int{0}, math.MinInt},
		{[]int{math.MinInt}, math.MaxInt},
		{[]int{math.MinInt}, math.MinInt},
		{[]int{math.MaxInt}, math.MaxInt - 1},
		{[]int{0, math.MaxInt}, 0},
		{make([]int, 501), 10},
		{append(make([]int, 499), -1), 10},
		{append(make([]int, 499), 11), 10},
		{append(make([]int, 500), 11), 10},
	} {
		if l, e := plan.Pack(x.sizes, x.most); len(l) != 0 || e != api.ErrArg {
			t.Errorf("Pack(%.60v, %d) = %.60v, %d", x.sizes, x.most, l, e)
		}
	}
	// There is no size that is not from 0 to most.
	if l, e := plan.Pack(nil, -1); len(l) != 0 || e != api.OK {
		t.Errorf("Pack(nil, -1) = %v, %d", l, e)
	}
}

func TestPackOfAllShortLists(t *testing.T) {
	listed([]int{0, 1, 2, 3, 4, 5}, 5, func(sizes []int) {
		for most := -1; most <= 8; most++ {
			checkPack(t, sizes, most)
		}
	})
	listed([]int{-1, 0, 1, 2}, 4, func(sizes []int) {
		for most := -2; most <= 3; most++ {
			checkPack(t, sizes, most)
		}
	})
	listed([]int{1, 2, 3}, 8, func(sizes []int) { checkPack(t, sizes, 6) })
}

func TestPackOfRandomSizes(t *testing.T) {
	r := rand.New(rand.NewSource(22))
	for range 200 {
		most := 1 + r.Intn(100)
		if r.Intn(4) == 0 {
			most = math.MaxInt - r.Intn(3)
		}
		sizes := make([]int, r.Intn(150))
		top := 1 + r.Intn(most)
		for i := range sizes {
			sizes[i] = r.Intn(top)
		}
		checkPack(t, sizes, most)
	}
	sizes := make([]int, 500)
	for i := range sizes {
		sizes[i] = r.Intn(1001)
	}
	checkPack(t, sizes, 1000)
}

// The document's rules for all layers

func TestArgumentsStay(t *testing.T) {
	for _, f := range samples(t) {
		whole := append(slices.Clone(f.B), "\"more"...)
		f.B = whole[:len(f.B)]
		given := append(allCuts(len(f.B)), -7)
		cuts := given[:len(given)-1]
		pieces, _, _ := plan.Scan(f)
		p, _ := plan.Make(f, cuts)
		l, _ := plan.Align(f, cuts)
		wantPieces, _, _ := wantScan(f)
		want, _ := wantMake(f, slices.Clone(cuts))
		wantCuts, _ := wantAlign(f, slices.Clone(cuts))
		if string(whole[len(f.B):]) != "\"more" || !slices.Equal(given, append(allCuts(len(f.B)), -7)) {
			t.Fatalf("the arguments became %.60q, %.60v", whole, given)
		}
		clear(whole)
		clear(given)
		if !samePieces(pieces, wantPieces) || !plan.Same(p, want) || !slices.Equal(l, wantCuts) {
			t.Errorf("writing to the arguments changed the results of format %d", f.Format)
		}
	}
}

func TestResultsShareNoMemory(t *testing.T) {
	cuts := []int{0, 1, 2, 4}
	f := file(api.CSV, 0, "\"\"\n\n")
	p, _ := plan.Make(f, cuts)
	l, _ := plan.Align(f, cuts)
	again, _ := plan.Make(f, cuts)
	clear(p.Cuts[:cap(p.Cuts)])
	clear(p.Inside[:cap(p.Inside)])
	if !slices.Equal(cuts, []int{0, 1, 2, 4}) || !slices.Equal(l, []int{0, 3, 4}) {
		t.Errorf("writing to the plan changed %v, %v", cuts, l)
	}
	clear(l[:cap(l)])
	want := plan.Plan{Cuts: []int{0, 1, 2, 4}, Inside: []bool{false, true, false, false}, Good: 4}
	if !plan.Same(again, want) || !slices.Equal(cuts, want.Cuts) {
		t.Errorf("writing to one result changed another one: %v", again)
	}
	for _, most := range []int{1, 2, 5} {
		sizes := []int{1, 1, 1, 1, 1, 0}
		bins, _ := plan.Pack(sizes, most)
		want, _ := wantPack(sizes, most)
		for k, l := range bins {
			clear(l[:cap(l)])
			if !slices.EqualFunc(bins[k+1:], want[k+1:], slices.Equal) {
				t.Errorf("writing to bin %d changed another one: %v", k, bins)
			}
		}
		if !slices.Equal(sizes, []int{1, 1, 1, 1, 1, 0}) {
			t.Errorf("writing to the bins changed the sizes: %v", sizes)
		}
		checkPack(t, sizes, most)
	}
	a, _ := plan.Sizes(10, 4)
	clear(a[:cap(a)])
	checkSizes(t, 10, 4)
}

func TestArgumentsOfPackAndWriteStay(t *testing.T) {
	sizes := []int{2, 5, 3, 99}
	l, _ := plan.Pack(sizes[:3], 5)
	if !slices.Equal(sizes, []int{2, 5, 3, 99}) {
		t.Errorf("Pack changed its argument: %v", sizes)
	}
	clear(sizes)
	if !slices.EqualFunc(l, [][]int{{1}, {0, 2}}, slices.Equal) {
		t.Errorf("writing to the sizes changed the bins: %v", l)
	}
	for _, format := range formats {
		given := append(recordsFor(format, 6), api.Rec{"more"})
		b, _ := plan.Write(given[:6], format, widthOf(format))
		want, _ := wantWrite(recordsFor(format, 6), format, widthOf(format))
		if !field.Same(given, append(recordsFor(format, 6), api.Rec{"more"})) || string(b) != string(want) {
			t.Errorf("Write of format %d changed its argument: %q", format, given)
		}
		clear(b[:cap(b)])
		checkWrite(t, given[:6], format, widthOf(format))
	}
}

func TestMemoryBeyondLengthIsIgnored(t *testing.T) {
	cuts := []int{0, 2, 4, 9}
	whole := []byte("a\n\"\"\"\n")
	f := plan.File{Format: api.CSV, B: whole[:4]}
	checkScan(t, f)
	if p, e := plan.Make(f, cuts[:3]); !plan.Same(p, plan.Plan{Cuts: []int{0, 2, 4}, Inside: make([]bool, 3), Good: 4}) || e != api.OK {
		t.Errorf("Make = %v, %d", p, e)
	}
	if l, e := plan.Align(f, cuts[:3]); !slices.Equal(l, []int{0, 2, 4}) || e != api.OK {
		t.Errorf("Align = %v, %d", l, e)
	}
	if !plan.May(plan.File{B: make([]byte, 100000, 100001)}) {
		t.Error("bytes beyond the length count")
	}
	if l, e := plan.Pack([]int{1, -1}[:1], 1); !slices.EqualFunc(l, [][]int{{0}}, slices.Equal) || e != api.OK {
		t.Errorf("Pack = %v, %d", l, e)
	}
	a := plan.Plan{Cuts: []int{0, 1}[:1], Inside: []bool{false, true}[:1]}
	if !plan.Same(a, plan.Plan{Cuts: []int{0}, Inside: []bool{false}}) {
		t.Error("elements beyond the length count")
	}
}

func FuzzPlan(f *testing.F) {
	for _, x := range samples(f) {
		if len(x.B) < 300 {
			f.Add(x.B, x.Format, x.Width, 1, 2, len(x.B))
		}
	}
	f.Add([]byte("a"), 6, 0, 0, 1, 1)
	f.Add([]byte("abc"), 4, 1001, -1, 1, 3)
	f.Fuzz(func(t *testing.T, b []byte, format, width, first, second, third int) {
		x := plan.File{Format: format, Width: width, B: b}
		checkScan(t, x)
		checkCuts(t, x, []int{0, first, second, third})
		inner := []int{first, second, third}
		for i, at := range inner {
			inner[i] = int(uint(at) % uint(len(b)+1))
		}
		cuts := append(inner, 0, len(b))
		slices.Sort(cuts)
		checkCuts(t, x, slices.Compact(cuts))
		checkSizes(t, first, second)
		checkPack(t, []int{first, second, third, first}, width)
		sizes := make([]int, min(len(b), 300))
		for i := range sizes {
			sizes[i] = int(b[i])
		}
		checkPack(t, sizes, third)
	})
}
