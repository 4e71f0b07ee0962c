package split_test

import (
	"math"
	"math/rand"
	"slices"
	"strconv"
	"strings"
	"testing"

	"threshing/api"
	"threshing/bundle"
	"threshing/field"
	"threshing/plan"
	"threshing/seq"
	"threshing/split"
)

// formats are the numbers of all formats.
var formats = []int{api.Text, api.CSV, api.Seq, api.Chest, api.Fixed, api.Bundle}

// file returns a file with the bytes of a string.
func file(format, width int, s string) plan.File {
	return plan.File{Format: format, Width: width, B: []byte(s)}
}

// widthOf returns a width that files of a format can have.
func widthOf(format int) int {
	if format == api.Fixed {
		return 3
	}
	return 0
}

// recordsFor returns n records that can be written in a format.
func recordsFor(format, n int) []api.Rec {
	var l []api.Rec
	for i := range n {
		s := strconv.Itoa(i)
		switch format {
		case api.Text:
			l = append(l, api.Rec{strings.Repeat("\"x", i%4)})
		case api.CSV:
			l = append(l, api.Rec{"a\n" + s, strings.Repeat(`"`, i%3), "b"})
		case api.Seq:
			l = append(l, api.Rec{"\xff" + s, strings.Repeat("S", i%5)})
		case api.Chest:
			l = append(l, slices.Repeat(api.Rec{"\"" + s}, i%3))
		case api.Fixed:
			l = append(l, api.Rec{strconv.Itoa(100 + i%900)})
		default:
			l = append(l, api.Rec{strconv.Itoa(10000 + i), strings.Repeat("\"", i%4)})
		}
	}
	return l
}

// write returns the file of records of a format.
func write(t testing.TB, format, width int, l []api.Rec) plan.File {
	t.Helper()
	b, e := plan.Write(l, format, width)
	if e != api.OK {
		t.Fatalf("%d records of format %d: %d", len(l), format, e)
	}
	return plan.File{Format: format, Width: width, B: b}
}

// written returns the file of n records of a format.
func written(t testing.TB, format, n int) plan.File {
	t.Helper()
	return write(t, format, widthOf(format), recordsFor(format, n))
}

// faulty returns files like f with a byte changed or inserted, cut off, or with
// a part of it twice.
func faulty(f plan.File) []plan.File {
	n := len(f.B)
	var l []plan.File
	for _, at := range []int{0, 1, n / 3, n / 2, 2 * n / 3, n - 1} {
		if at < 0 || at >= n {
			continue
		}
		changed := slices.Clone(f.B)
		changed[at] ^= 1
		for _, b := range [][]byte{changed, f.B[:at], slices.Insert(slices.Clone(f.B), at, '"'), append(slices.Clone(f.B), f.B[at:]...)} {
			l = append(l, plan.File{Format: f.Format, Width: f.Width, B: b})
		}
	}
	return l
}

// samples returns files of all formats, empty, with and without faults.
func samples(t testing.TB) []plan.File {
	t.Helper()
	var l []plan.File
	for _, format := range formats {
		l = append(l, file(format, widthOf(format), ""))
		for _, n := range []int{0, 1, 2, 3, 4, 5, 8, 13, 25} {
			f := written(t, format, n)
			l = append(l, f)
			l = append(l, faulty(f)...)
		}
	}
	return l
}

// notFiles returns files that are not valid.
func notFiles() []plan.File {
	l := []plan.File{
		file(-1, 0, "a"), file(6, 0, "a"), file(1<<32, 0, "a"), file(math.MinInt, 0, ""), file(math.MaxInt, 0, ""),
		file(api.Text, 1, "a"), file(api.CSV, 3, "a"), file(api.Seq, -1, "TSQ1"), file(api.Chest, 1, ""), file(api.Bundle, 1000, "a"),
		file(api.Fixed, 0, "a"), file(api.Fixed, -1, "a"), file(api.Fixed, 1001, "a"), file(api.Fixed, 1<<32+1, "a"), file(api.Fixed, 0, ""),
	}
	for _, format := range formats {
		l = append(l, file(format, widthOf(format), strings.Repeat("a", 100001)))
	}
	return l
}

// eachCuts calls check with all cuts of a file of n bytes.
func eachCuts(n int, check func(cuts []int)) {
	if n == 0 {
		check([]int{0})
		return
	}
	for set := range 1 << (n - 1) {
		cuts := []int{0}
		for at := 1; at < n; at++ {
			if set>>(at-1)&1 == 1 {
				cuts = append(cuts, at)
			}
		}
		check(append(cuts, n))
	}
}

// eachString calls check with all strings of at most most of the letters.
func eachString(letters []string, most int, check func(s string)) {
	level := []string{""}
	for range most + 1 {
		var next []string
		for _, s := range level {
			check(s)
			for _, x := range letters {
				next = append(next, s+x)
			}
		}
		level = next
	}
}

// allCuts returns the cuts of a file of n bytes at every offset.
func allCuts(n int) []int {
	var l []int
	for at := range n + 1 {
		l = append(l, at)
	}
	return l
}

// randomCuts returns cuts of a file of n bytes, at most k of them between 0 and n.
func randomCuts(r *rand.Rand, n, k int) []int {
	cuts := []int{0, n}
	for range k {
		cuts = append(cuts, r.Intn(n+1))
	}
	slices.Sort(cuts)
	return slices.Compact(cuts)
}

// makePlan returns the plan of a file with cuts.
func makePlan(t testing.TB, f plan.File, cuts []int) plan.Plan {
	t.Helper()
	p, e := plan.Make(f, cuts)
	if e != api.OK {
		t.Fatalf("Make(%d, %d, %.60q, %.60v): %d", f.Format, f.Width, f.B, cuts, e)
	}
	return p
}

// scanned is what Scan of layer 11 returns of a file.
type scanned struct {
	f      plan.File
	pieces []api.Piece
	good   int
	e      api.Errno
}

// scan returns what is scanned of a file.
func scan(f plan.File) scanned {
	l, good, e := plan.Scan(f)
	return scanned{f: f, pieces: l, good: good, e: e}
}

// wantRead returns the records of a split and its error by the words of the
// document: those of the pieces that begin in it, looked at one by one.
func (x scanned) wantRead(from, to int) ([]api.Rec, api.Errno) {
	var l []api.Rec
	for _, p := range x.pieces {
		if from <= p.At && p.At < to {
			l = append(l, p.R...)
		}
	}
	return l, x.wantError(from, to)
}

// wantError returns the error that a split reports. The first split is the one
// that begins at 0.
func (x scanned) wantError(from, to int) api.Errno {
	switch x.f.Format {
	case 0:
		return api.OK
	case 5:
		if from == 0 {
			return x.e
		}
		return api.OK
	case 4:
		if x.good < to {
			return api.ErrShort
		}
		return api.OK
	}
	if x.good < to {
		return api.ErrForm
	}
	return api.OK
}

// wantAll returns the records of all pieces.
func (x scanned) wantAll() []api.Rec {
	var l []api.Rec
	for _, p := range x.pieces {
		l = append(l, p.R...)
	}
	return l
}

// checkAll compares All.
func checkAll(t *testing.T, f plan.File) {
	t.Helper()
	x := scan(f)
	if l, e := split.All(f); !field.Same(l, x.wantAll()) || e != x.e {
		t.Errorf("All(%d, %d, %.60q) = %.60q, %d; want %.60q, %d", f.Format, f.Width, f.B, l, e, x.wantAll(), x.e)
	}
}

// checkRead compares Read of one split.
func checkRead(t *testing.T, x scanned, p plan.Plan, i int) {
	t.Helper()
	l, e := split.Read(x.f, p, i)
	want, wantE := x.wantRead(p.Cuts[i], p.Cuts[i+1])
	if !field.Same(l, want) || e != wantE {
		t.Errorf("Read(%d, %d, %.60q, %.60v, %d) = %.60q, %d; want %.60q, %d", x.f.Format, x.f.Width, x.f.B, p.Cuts, i, l, e, want, wantE)
	}
}

// checkWhole compares Whole, and with All (P12.2).
func checkWhole(t *testing.T, x scanned, p plan.Plan) {
	t.Helper()
	l, e := split.Whole(x.f, p)
	wantE := api.OK
	for i := 1; i < len(p.Cuts) && wantE == api.OK; i++ {
		wantE = x.wantError(p.Cuts[i-1], p.Cuts[i])
	}
	if e != wantE {
		t.Errorf("Whole(%d, %d, %.60q, %.60v): %d; want %d", x.f.Format, x.f.Width, x.f.B, p.Cuts, e, wantE)
	}
	all, allE := split.All(x.f)
	if !field.Same(l, all) {
		t.Errorf("Whole(%d, %d, %.60q, %.60v) = %.60q; All returns %.60q", x.f.Format, x.f.Width, x.f.B, p.Cuts, l, all)
	}
	if len(x.f.B) > 0 && (e == api.OK) != (allE == api.OK) {
		t.Errorf("Whole(%d, %d, %.60q, %.60v): %d; of All: %d", x.f.Format, x.f.Width, x.f.B, p.Cuts, e, allE)
	}
}

// checkCuts compares all that is read of a file with cuts.
func checkCuts(t *testing.T, f plan.File, cuts []int) {
	t.Helper()
	x := scan(f)
	p := makePlan(t, f, cuts)
	if n := split.Count(p); n != len(cuts)-1 {
		t.Errorf("Count of the cuts %.60v = %d", cuts, n)
	}
	for i := range len(cuts) - 1 {
		checkRead(t, x, p, i)
	}
	for _, i := range []int{-1, len(cuts) - 1, len(cuts)} {
		refuses(t, f, p, i)
	}
	checkWhole(t, x, p)
}

// refuses checks that a split is not readable.
func refuses(t *testing.T, f plan.File, p plan.Plan, i int) {
	t.Helper()
	if l, e := split.Read(f, p, i); len(l) != 0 || e != api.ErrArg {
		t.Errorf("Read(%d, %d, %.60q, %.60v, %d) = %.60q, %d", f.Format, f.Width, f.B, p, i, l, e)
	}
}

// refusesPlan checks that no split of a plan is readable.
func refusesPlan(t *testing.T, f plan.File, p plan.Plan) {
	t.Helper()
	for i := -1; i <= len(p.Cuts); i++ {
		refuses(t, f, p, i)
	}
	if l, e := split.Whole(f, p); len(l) != 0 || e != api.ErrArg {
		t.Errorf("Whole(%d, %d, %.60q, %.60v) = %.60q, %d", f.Format, f.Width, f.B, p, l, e)
	}
}

// example is a file with cuts, and what is read of it.
type example struct {
	f      plan.File
	cuts   []int
	splits [][]api.Rec
	errors []api.Errno
	whole  api.Errno
	all    api.Errno
}

// check compares what is read.
func (x example) check(t *testing.T) {
	t.Helper()
	p := makePlan(t, x.f, x.cuts)
	for i := range x.splits {
		if l, e := split.Read(x.f, p, i); !field.Same(l, x.splits[i]) || e != x.errors[i] {
			t.Errorf("Read(%d, %d, %q, %v, %d) = %q, %d; want %q, %d", x.f.Format, x.f.Width, x.f.B, x.cuts, i, l, e, x.splits[i], x.errors[i])
		}
	}
	want := slices.Concat(x.splits...)
	if l, e := split.Whole(x.f, p); !field.Same(l, want) || e != x.whole {
		t.Errorf("Whole(%d, %d, %q, %v) = %q, %d; want %q, %d", x.f.Format, x.f.Width, x.f.B, x.cuts, l, e, want, x.whole)
	}
	if l, e := split.All(x.f); !field.Same(l, want) || e != x.all {
		t.Errorf("All(%d, %d, %q) = %q, %d; want %q, %d", x.f.Format, x.f.Width, x.f.B, l, e, want, x.all)
	}
	if n := split.Count(p); n != len(x.splits) {
		t.Errorf("Count of %v = %d", x.cuts, n)
	}
}

// fine returns errors of n splits that report none.
func fine(n int) []api.Errno { return make([]api.Errno, n) }

// P12.1

func TestText(t *testing.T) {
	for _, x := range []example{
		{file(api.Text, 0, "a\nb\nc\n"), []int{0, 1, 2, 6}, [][]api.Rec{{{"a"}}, nil, {{"b"}, {"c"}}}, fine(3), api.OK, api.OK},
		{file(api.Text, 0, "b a\nb\n"), []int{0, 3, 6}, [][]api.Rec{{{"b a"}}, {{"b"}}}, fine(2), api.OK, api.OK},
		{file(api.Text, 0, "ab"), []int{0, 1, 2}, [][]api.Rec{{{"ab"}}, nil}, fine(2), api.OK, api.OK},
		{file(api.Text, 0, "\n\n"), []int{0, 1, 2}, [][]api.Rec{{{""}}, {{""}}}, fine(2), api.OK, api.OK},
		{file(api.Text, 0, "\"\n\""), []int{0, 1, 2, 3}, [][]api.Rec{{{"\""}}, nil, {{"\""}}}, fine(3), api.OK, api.OK},
	} {
		x.check(t)
	}
}

func TestCSV(t *testing.T) {
	large := "a\n" + strings.Repeat(",", 50)
	quoted := "\"a\nb\"\nc,d\n"
	for _, x := range []example{
		{file(api.CSV, 0, "\"x"), []int{0, 1, 2}, [][]api.Rec{nil, nil}, []api.Errno{api.ErrForm, api.ErrForm}, api.ErrForm, api.ErrForm},
		// The first split ends where the valid part does.
		{file(api.CSV, 0, "a\n\"x"), []int{0, 2, 3, 4}, [][]api.Rec{{{"a"}}, nil, nil}, []api.Errno{api.OK, api.ErrForm, api.ErrForm}, api.ErrForm, api.ErrForm},
		{file(api.CSV, 0, "a\n\"x"), []int{0, 1, 3, 4}, [][]api.Rec{{{"a"}}, nil, nil}, []api.Errno{api.OK, api.ErrForm, api.ErrForm}, api.ErrForm, api.ErrForm},
		{file(api.CSV, 0, "a\n\"x"), []int{0, 3, 4}, [][]api.Rec{{{"a"}}, nil}, []api.Errno{api.ErrForm, api.ErrForm}, api.ErrForm, api.ErrForm},
		// A cut inside quotes does not begin a record, nor does a 10 inside them.
		{file(api.CSV, 0, quoted), []int{0, 2, 3, 6, 10}, [][]api.Rec{{{"a\nb"}}, nil, nil, {{"c", "d"}}}, fine(4), api.OK, api.OK},
		{file(api.CSV, 0, quoted), []int{0, 1, 5, 7, 10}, [][]api.Rec{{{"a\nb"}}, nil, {{"c", "d"}}, nil}, fine(4), api.OK, api.OK},
		// A record after the first error is not valid, however it looks.
		{file(api.CSV, 0, "a\nb\"\nc\n"), []int{0, 2, 5, 7}, [][]api.Rec{{{"a"}}, nil, nil}, []api.Errno{api.OK, api.ErrForm, api.ErrForm}, api.ErrForm, api.ErrForm},
		// A split reports ErrForm, whatever the error of Scan is.
		{file(api.CSV, 0, large), []int{0, 1, 2, 3, 52}, [][]api.Rec{{{"a"}}, nil, nil, nil}, []api.Errno{api.OK, api.OK, api.ErrForm, api.ErrForm}, api.ErrForm, api.ErrLarge},
	} {
		x.check(t)
	}
}

func TestSeq(t *testing.T) {
	l := recordsFor(api.Seq, 4)
	f := write(t, api.Seq, 0, l)
	n := len(f.B)
	second := seq.Marker(f.B, 5)
	damaged := plan.File{Format: api.Seq, B: slices.Clone(f.B)}
	damaged.B[n-1] ^= 1
	for _, x := range []example{
		{f, []int{0, 4, second, n}, [][]api.Rec{nil, l[:3], l[3:]}, fine(3), api.OK, api.OK},
		{f, []int{0, 5, second + 1, n}, [][]api.Rec{l[:3], l[3:], nil}, fine(3), api.OK, api.OK},
		{damaged, []int{0, 4, second, n}, [][]api.Rec{nil, l[:3], nil}, []api.Errno{api.OK, api.OK, api.ErrForm}, api.ErrForm, api.ErrForm},
		{damaged, []int{0, 5, second + 1, n}, [][]api.Rec{l[:3], nil, nil}, []api.Errno{api.OK, api.ErrForm, api.ErrForm}, api.ErrForm, api.ErrForm},
		// Without the head, no block is valid.
		{file(api.Seq, 0, string(f.B[1:])), []int{0, 3, n - 1}, [][]api.Rec{nil, nil}, []api.Errno{api.ErrForm, api.ErrForm}, api.ErrForm, api.ErrForm},
		{file(api.Seq, 0, "TSQ1"), []int{0, 2, 4}, [][]api.Rec{nil, nil}, fine(2), api.OK, api.OK},
		{file(api.Seq, 0, "TSQ1\xffS"), []int{0, 4, 5, 6}, [][]api.Rec{nil, nil, nil}, []api.Errno{api.OK, api.ErrForm, api.ErrForm}, api.ErrForm, api.ErrForm},
	} {
		x.check(t)
	}
}

func TestChest(t *testing.T) {
	l := recordsFor(api.Chest, 9)
	f := write(t, api.Chest, 0, l)
	n := len(f.B)
	p, _, _ := plan.Scan(f)
	second, third := p[1].At, p[2].At
	damaged := plan.File{Format: api.Chest, B: slices.Clone(f.B)}
	damaged.B[second] ^= 1
	for _, x := range []example{
		{f, []int{0, second, third, n}, [][]api.Rec{l[:4], l[4:8], l[8:]}, fine(3), api.OK, api.OK},
		{f, []int{0, 1, second + 1, third, third + 1, n}, [][]api.Rec{l[:4], l[4:8], nil, l[8:], nil}, fine(5), api.OK, api.OK},
		{damaged, []int{0, second, third, n}, [][]api.Rec{l[:4], nil, nil}, []api.Errno{api.OK, api.ErrForm, api.ErrForm}, api.ErrForm, api.ErrForm},
		{damaged, []int{0, second - 1, second + 1, n}, [][]api.Rec{l[:4], nil, nil}, []api.Errno{api.OK, api.ErrForm, api.ErrForm}, api.ErrForm, api.ErrForm},
		// Without the index, no block is valid.
		{file(api.Chest, 0, string(f.B[:n-1])), []int{0, 1, second, n - 1}, [][]api.Rec{nil, nil, nil}, []api.Errno{api.ErrForm, api.ErrForm, api.ErrForm}, api.ErrForm, api.ErrForm},
	} {
		x.check(t)
	}
}

func TestFixed(t *testing.T) {
	for _, x := range []example{
		{file(api.Fixed, 2, "aabbc"), []int{0, 1, 5}, [][]api.Rec{{{"aa"}}, {{"bb"}}}, []api.Errno{api.OK, api.ErrShort}, api.ErrShort, api.ErrShort},
		{file(api.Fixed, 2, "aabbc"), []int{0, 4, 5}, [][]api.Rec{{{"aa"}, {"bb"}}, nil}, []api.Errno{api.OK, api.ErrShort}, api.ErrShort, api.ErrShort},
		{file(api.Fixed, 2, "aabb"), []int{0, 1, 2, 3, 4}, [][]api.Rec{{{"aa"}}, nil, {{"bb"}}, nil}, fine(4), api.OK, api.OK},
		{file(api.Fixed, 3, "aabbccd"), []int{0, 4, 7}, [][]api.Rec{{{"aab"}, {"bcc"}}, nil}, []api.Errno{api.OK, api.ErrShort}, api.ErrShort, api.ErrShort},
		{file(api.Fixed, 1000, "aa"), []int{0, 1, 2}, [][]api.Rec{nil, nil}, []api.Errno{api.ErrShort, api.ErrShort}, api.ErrShort, api.ErrShort},
		{file(api.Fixed, 1, "\"\n"), []int{0, 1, 2}, [][]api.Rec{{{"\""}}, {{"\n"}}}, fine(2), api.OK, api.OK},
	} {
		x.check(t)
	}
}

func TestBundle(t *testing.T) {
	l := []api.Rec{{"a", "xyz"}, {"b", ""}}
	f := write(t, api.Bundle, 0, l)
	n := len(f.B)
	damaged := plan.File{Format: api.Bundle, B: slices.Clone(f.B)}
	damaged.B[n-1] ^= 1
	more := plan.File{Format: api.Bundle, B: append(slices.Clone(f.B), 0)}
	for _, x := range []example{
		// The entries begin at 2 and 5.
		{f, []int{0, 2, 3, 5, n}, [][]api.Rec{nil, l[:1], nil, l[1:]}, fine(4), api.OK, api.OK},
		{f, []int{0, 3, 6, n}, [][]api.Rec{l[:1], l[1:], nil}, fine(3), api.OK, api.OK},
		// Only the first split reports an error, wherever it lies.
		{damaged, []int{0, 2, 3, 5, n}, [][]api.Rec{nil, l[:1], nil, nil}, []api.Errno{api.ErrForm, 0, 0, 0}, api.ErrForm, api.ErrForm},
		{damaged, []int{0, n}, [][]api.Rec{l[:1]}, []api.Errno{api.ErrForm}, api.ErrForm, api.ErrForm},
		{more, []int{0, 1, 3, n, n + 1}, [][]api.Rec{nil, l[:1], l[1:], nil}, []api.Errno{api.ErrForm, 0, 0, 0}, api.ErrForm, api.ErrForm},
		// A file is missing, though all bytes are valid.
		{file(api.Bundle, 0, string(f.B[:n-4])), []int{0, 1, n - 4}, [][]api.Rec{nil, l[:1]}, []api.Errno{api.ErrForm, 0}, api.ErrForm, api.ErrForm},
		{file(api.Bundle, 0, "abc"), []int{0, 1, 3}, [][]api.Rec{nil, nil}, []api.Errno{api.ErrForm, 0}, api.ErrForm, api.ErrForm},
	} {
		x.check(t)
	}
}

func TestEmptyFiles(t *testing.T) {
	for _, format := range formats {
		f := plan.File{Format: format, Width: widthOf(format)}
		p := makePlan(t, f, []int{0})
		if split.Count(p) != 0 {
			t.Errorf("an empty file of format %d has %d splits", format, split.Count(p))
		}
		// Without a split, no error is reported, whatever All returns.
		if l, e := split.Whole(f, p); len(l) != 0 || e != api.OK {
			t.Errorf("Whole of an empty file of format %d = %q, %d", format, l, e)
		}
		for i := -1; i <= 1; i++ {
			refuses(t, f, p, i)
		}
		checkAll(t, f)
		for _, other := range []plan.Plan{{}, {Cuts: []int{0}}, {Cuts: []int{0}, Inside: []bool{true}}, {Cuts: []int{0}, Inside: []bool{false}, Good: 1}} {
			refusesPlan(t, f, other)
		}
	}
}

func TestCount(t *testing.T) {
	for _, x := range []struct {
		p    plan.Plan
		want int
	}{
		{plan.Plan{}, 0},
		{plan.Plan{Cuts: []int{}}, 0},
		{plan.Plan{Inside: []bool{true, true, true}, Good: 5}, 0},
		{plan.Plan{Cuts: []int{0}, Inside: []bool{false}}, 0},
		{plan.Plan{Cuts: []int{0, 3}, Inside: []bool{false, true}, Good: 3}, 1},
		{plan.Plan{Cuts: []int{0, 1, 3}, Inside: []bool{false, true, false}, Good: 3}, 2},
		{plan.Plan{Cuts: make([]int, 100001)}, 100000},
		{plan.Plan{Cuts: []int{0, 1, 3}[:2]}, 1},
	} {
		if n := split.Count(x.p); n != x.want {
			t.Errorf("Count(%.60v) = %d; want %d", x.p, n, x.want)
		}
	}
}

func TestNoSuchSplit(t *testing.T) {
	for _, format := range formats {
		f := written(t, format, 7)
		for _, cuts := range [][]int{{0, len(f.B)}, {0, 1, len(f.B)}, {0, 1, 5, len(f.B)}} {
			p := makePlan(t, f, cuts)
			n := len(cuts) - 1
			for _, i := range []int{-1, -2, -n, n, n + 1, 1000, 1 << 32, -1 << 32, math.MinInt, math.MinInt + 1, math.MaxInt} {
				refuses(t, f, p, i)
			}
		}
	}
}

// otherPlans returns plans that differ from p.
func otherPlans(p plan.Plan) []plan.Plan {
	var l []plan.Plan
	for _, good := range []int{p.Good - 1, p.Good + 1, -1, math.MinInt, math.MaxInt} {
		l = append(l, plan.Plan{Cuts: p.Cuts, Inside: p.Inside, Good: good})
	}
	for i := range p.Inside {
		inside := slices.Clone(p.Inside)
		inside[i] = !inside[i]
		l = append(l, plan.Plan{Cuts: p.Cuts, Inside: inside, Good: p.Good})
	}
	n := len(p.Cuts)
	for _, inside := range [][]bool{nil, {}, p.Inside[:n-1], append(slices.Clone(p.Inside), false)} {
		l = append(l, plan.Plan{Cuts: p.Cuts, Inside: inside, Good: p.Good})
	}
	end := p.Cuts[n-1]
	for _, cuts := range [][]int{
		nil, {}, p.Cuts[:n-1], p.Cuts[1:], append(slices.Clone(p.Cuts), end), append(slices.Clone(p.Cuts), end+1), {0, end}, {end, 0},
		slices.Insert(slices.Clone(p.Cuts), 1, 0), slices.Replace(slices.Clone(p.Cuts), 1, 2, end), slices.Replace(slices.Clone(p.Cuts), 1, 2, -1),
		slices.Replace(slices.Clone(p.Cuts), 0, 1, 1), slices.Replace(slices.Clone(p.Cuts), 0, 1, -1), slices.Replace(slices.Clone(p.Cuts), n-1, n, end+1),
		slices.Replace(slices.Clone(p.Cuts), n-1, n, math.MaxInt), slices.Replace(slices.Clone(p.Cuts), 0, 1, math.MinInt),
	} {
		l = append(l, plan.Plan{Cuts: cuts, Inside: p.Inside, Good: p.Good})
	}
	return l
}

func TestOtherPlans(t *testing.T) {
	for _, format := range formats {
		f := written(t, format, 7)
		for _, f := range append(faulty(f), f) {
			n := len(f.B)
			if n < 7 {
				continue
			}
			for _, cuts := range [][]int{{0, 2, n}, {0, 1, 3, 6, n}} {
				p := makePlan(t, f, cuts)
				checkWhole(t, scan(f), p)
				for _, other := range otherPlans(p) {
					refusesPlan(t, f, other)
				}
			}
		}
	}
}

func TestPlansOfOtherFiles(t *testing.T) {
	cuts := []int{0, 1, 3, 7}
	a := file(api.CSV, 0, "a\n\"b\"\n\"")
	for _, b := range []plan.File{
		// Other valid parts, other quotes, other sizes.
		file(api.CSV, 0, "a\n\"b\"\n\n"), file(api.CSV, 0, "a\nb\"\"\n\""), file(api.CSV, 0, "a\n\"b\"\n"), file(api.CSV, 0, ""),
		file(api.Text, 0, "a\n\"b\"\n\""), file(api.Fixed, 6, "a\n\"b\"\n\""), file(api.Seq, 0, "a\n\"b\"\n\""), file(6, 0, "a\n\"b\"\n\""),
	} {
		refusesPlan(t, b, makePlan(t, a, cuts))
		if len(b.B) == 7 && plan.May(b) {
			refusesPlan(t, a, makePlan(t, b, cuts))
		}
	}
	// A plan that is the same is that of the file, whichever it was made of.
	p := makePlan(t, file(api.Fixed, 1, "abc"), []int{0, 2, 3})
	if l, e := split.Whole(file(api.Text, 0, "a\nc"), p); !field.Same(l, []api.Rec{{"a"}, {"c"}}) || e != api.OK {
		t.Errorf("Whole with the plan of another file = %q, %d", l, e)
	}
	p = plan.Plan{Cuts: []int{0, 2, 3}, Inside: []bool{false, false, false}, Good: 3}
	if l, e := split.Read(file(api.Text, 0, "a\nc"), p, 1); !field.Same(l, []api.Rec{{"c"}}) || e != api.OK {
		t.Errorf("Read with a plan that was not made = %q, %d", l, e)
	}
}

func TestFilesThatAreNotValid(t *testing.T) {
	for _, f := range notFiles() {
		n := len(f.B)
		if l, e := split.All(f); len(l) != 0 || e != api.ErrArg {
			t.Errorf("All(%d, %d, %.60q) = %.60q, %d", f.Format, f.Width, f.B, l, e)
		}
		for _, p := range []plan.Plan{
			{},
			{Cuts: []int{0}, Inside: []bool{false}},
			{Cuts: []int{0, n}, Inside: []bool{false, false}},
			{Cuts: []int{0, n}, Inside: []bool{false, false}, Good: n},
			{Cuts: []int{0, 1, n}, Inside: []bool{false, false, false}, Good: n},
		} {
			refusesPlan(t, f, p)
		}
	}
}

// P12.1, P12.2 and P12.3

func TestAllCutsOfShortFiles(t *testing.T) {
	for _, f := range []plan.File{file(api.Text, 0, ""), file(api.CSV, 0, ""), file(api.Fixed, 2, "")} {
		eachString([]string{"a", "\"", "\n", ","}, 4, func(s string) {
			f.B = []byte(s)
			checkAll(t, f)
			eachCuts(len(s), func(cuts []int) { checkCuts(t, f, cuts) })
		})
	}
	for _, format := range []int{api.Seq, api.Chest, api.Bundle} {
		for _, s := range []string{"T", "TSQ1", "TSQ1\xff", "TSQ1\xffS", "CHST", "\x05", "\x05\x00\x8d\xef\x02\xd2", "\x05\x00\x8d\xef\x02\xd2\x00", "\x00\x8d\xef\x02\xd2"} {
			f := file(format, 0, s)
			checkAll(t, f)
			eachCuts(len(s), func(cuts []int) { checkCuts(t, f, cuts) })
		}
	}
}

func TestLineEndsAndQuotes(t *testing.T) {
	r := rand.New(rand.NewSource(31))
	eachString([]string{"a", "\"", "\n", ",", "\r\n"}, 5, func(s string) {
		f := file(api.CSV, 0, s)
		checkAll(t, f)
		checkCuts(t, f, randomCuts(r, len(s), 3))
		p := makePlan(t, f, allCuts(len(s)))
		checkWhole(t, scan(f), p)
	})
}

func TestSamples(t *testing.T) {
	r := rand.New(rand.NewSource(32))
	for _, f := range samples(t) {
		n := len(f.B)
		checkAll(t, f)
		checkCuts(t, f, allCuts(n))
		checkCuts(t, f, slices.Compact([]int{0, n}))
		for range 10 {
			checkCuts(t, f, randomCuts(r, n, r.Intn(8)))
		}
		for _, size := range []int{2, 3, 10, 100} {
			cuts, _ := plan.Sizes(n, size)
			checkCuts(t, f, cuts)
			aligned, _ := plan.Align(f, cuts)
			checkCuts(t, f, aligned)
		}
		for _, format := range formats {
			// What is written in one format is a file of each other one.
			other := plan.File{Format: format, Width: widthOf(format), B: f.B}
			checkAll(t, other)
			checkCuts(t, other, randomCuts(r, n, 5))
		}
	}
}

func TestEveryChangeOfAByte(t *testing.T) {
	r := rand.New(rand.NewSource(33))
	for _, format := range formats {
		f := written(t, format, 9)
		n := len(f.B)
		for at := range n {
			for _, bit := range []byte{1, 8, 64, 255} {
				changed := plan.File{Format: format, Width: f.Width, B: slices.Clone(f.B)}
				changed.B[at] ^= bit
				checkAll(t, changed)
				checkCuts(t, changed, randomCuts(r, n, 4))
				checkCuts(t, changed, slices.Compact([]int{0, at, n}))
			}
			// Nor is anything read twice from what is cut off.
			checkCuts(t, plan.File{Format: format, Width: f.Width, B: f.B[:at]}, randomCuts(r, at, 4))
		}
	}
}

func TestEachRecordOnce(t *testing.T) {
	for _, format := range formats {
		want := recordsFor(format, 50)
		f := written(t, format, 50)
		for size := 1; size <= len(f.B); size++ {
			cuts, _ := plan.Sizes(len(f.B), size)
			p := makePlan(t, f, cuts)
			if l, e := split.Whole(f, p); !field.Same(l, want) || e != api.OK {
				t.Errorf("Whole of format %d in splits of %d bytes: %d records, %d", format, size, len(l), e)
			}
		}
	}
}

func TestNothingBehindTheValidPart(t *testing.T) {
	for _, format := range []int{api.CSV, api.Seq, api.Chest, api.Fixed} {
		f := written(t, format, 40)
		for _, f := range faulty(f) {
			x := scan(f)
			if len(f.B) == 0 || x.good == len(f.B) {
				continue
			}
			cuts := slices.Compact([]int{0, x.good, len(f.B)})
			p := makePlan(t, f, cuts)
			last := split.Count(p) - 1
			l, e := split.Read(f, p, last)
			if x.good > 0 && len(l) != 0 || e == api.OK {
				t.Errorf("behind the valid part of format %d: %.60q, %d", format, l, e)
			}
			if l, e := split.Read(f, p, 0); x.good > 0 && (!field.Same(l, x.wantAll()) || e != api.OK) {
				t.Errorf("the valid part of format %d: %.60q, %d", format, l, e)
			}
		}
	}
}

func TestManySplits(t *testing.T) {
	var files []plan.File
	for _, format := range formats {
		for _, s := range []string{strings.Repeat("\"a\nb", 25000), strings.Repeat("ab,cd\nef,\"\"", 10000)[:100000]} {
			files = append(files, file(format, widthOf(format), s))
		}
	}
	small := make([]api.Rec, 1000)
	for i := range small {
		small[i] = api.Rec{strconv.Itoa(10000 + i), strings.Repeat("x", 86)}
	}
	for _, f := range []plan.File{written(t, api.Seq, 4000), written(t, api.Chest, 4000), write(t, api.Bundle, 0, small)} {
		files = append(files, f)
		// The faults in the middle, and those at the end of it.
		files = append(files, faulty(f)[12:16]...)
		files = append(files, faulty(f)[20:]...)
	}
	for _, f := range files {
		if !plan.May(f) {
			continue
		}
		x := scan(f)
		n := len(f.B)
		cuts := allCuts(n)
		p := makePlan(t, f, cuts)
		checkWhole(t, x, p)
		for _, i := range []int{0, 1, 2, n / 2, n - 1} {
			checkRead(t, x, p, i)
		}
		refuses(t, f, p, n)
	}
}

func TestLimits(t *testing.T) {
	for _, format := range formats {
		for _, n := range []int{99999, 100000} {
			f := file(format, widthOf(format), strings.Repeat("abc,defgh\n", 10000)[:n])
			checkAll(t, f)
			checkCuts(t, f, []int{0, 1, 49999, n})
		}
	}
	for _, width := range []int{1, 2, 7, 999, 1000} {
		f := file(api.Fixed, width, strings.Repeat("ab", 1500))
		checkAll(t, f)
		checkCuts(t, f, []int{0, 1, 999, 1000, 1001, 2000, 3000})
	}
	r := slices.Repeat(api.Rec{strings.Repeat("\"", 1000)}, 50)
	f := write(t, api.CSV, 0, []api.Rec{{"a"}, r[:40], {"b"}})
	checkAll(t, f)
	checkCuts(t, f, []int{0, 1, 2, 3, 4, 40000, len(f.B) - 2, len(f.B) - 1, len(f.B)})
}

// The document's rules for all layers

func TestArgumentsStay(t *testing.T) {
	for _, f := range samples(t) {
		n := len(f.B)
		if n < 2 {
			continue
		}
		whole := append(slices.Clone(f.B), "\"more\n"...)
		f.B = whole[:n]
		cuts := append([]int{0, 1, n}, -7)
		p := makePlan(t, f, cuts[:3])
		inside := append(slices.Clone(p.Inside), true)
		p = plan.Plan{Cuts: cuts[:3], Inside: inside[:3], Good: p.Good}
		before := slices.Clone(whole)
		insideBefore := slices.Clone(inside)
		x := scan(f)
		first, _ := split.Read(f, p, 0)
		all, _ := split.All(f)
		both, _ := split.Whole(f, p)
		if !slices.Equal(whole, before) || !slices.Equal(cuts, []int{0, 1, n, -7}) || !slices.Equal(inside, insideBefore) {
			t.Fatalf("the arguments became %.60q, %v, %v", whole, cuts, inside)
		}
		want, _ := x.wantRead(0, 1)
		clear(whole)
		clear(cuts)
		clear(inside)
		if !field.Same(first, want) || !field.Same(all, x.wantAll()) || !field.Same(both, x.wantAll()) {
			t.Errorf("writing to the arguments changed the results of format %d", f.Format)
		}
	}
}

// scribble writes to each record, and to each list of them, with their spare
// capacity.
func scribble(l []api.Rec) {
	for _, r := range l {
		for i := range r[:cap(r)] {
			r[:cap(r)][i] = "?"
		}
	}
	clear(l[:cap(l)])
}

func TestResultsShareNoMemory(t *testing.T) {
	for _, format := range formats {
		f := written(t, format, 9)
		n := len(f.B)
		x := scan(f)
		p := makePlan(t, f, []int{0, n / 2, n})
		first, _ := split.Read(f, p, 0)
		second, _ := split.Read(f, p, 1)
		all, _ := split.All(f)
		whole, _ := split.Whole(f, p)
		want, _ := x.wantRead(n/2, n)
		scribble(first)
		if !field.Same(second, want) || !field.Same(all, x.wantAll()) || !field.Same(whole, x.wantAll()) {
			t.Errorf("writing to a split of format %d changed another result", format)
		}
		scribble(all)
		if !field.Same(second, want) || !field.Same(whole, x.wantAll()) {
			t.Errorf("writing to the result of All of format %d changed another result", format)
		}
		// Each record is alone, with its spare capacity.
		for i, r := range whole {
			scribble([]api.Rec{r})
			if !field.Same(whole[i+1:], x.wantAll()[i+1:]) {
				t.Errorf("writing to record %d of format %d changed another one", i, format)
			}
		}
		checkCuts(t, f, []int{0, n / 2, n})
		checkAll(t, f)
	}
}

func TestMemoryBeyondLengthIsIgnored(t *testing.T) {
	whole := []byte("a\nb\"\"\n")
	f := plan.File{Format: api.CSV, B: whole[:3]}
	p := plan.Plan{Cuts: []int{0, 1, 3, 6}[:3], Inside: []bool{false, false, false, true}[:3], Good: 3}
	if l, e := split.Whole(f, p); !field.Same(l, []api.Rec{{"a"}, {"b"}}) || e != api.OK {
		t.Errorf("Whole = %q, %d", l, e)
	}
	if l, e := split.Read(f, p, 1); !field.Same(l, []api.Rec{{"b"}}) || e != api.OK {
		t.Errorf("Read = %q, %d", l, e)
	}
	refuses(t, f, p, 2)
	if l, e := split.All(f); !field.Same(l, []api.Rec{{"a"}, {"b"}}) || e != api.OK {
		t.Errorf("All = %q, %d", l, e)
	}
	b, _ := bundle.Write([]api.Rec{{"a", "x"}})
	more := append(slices.Clone(b), "more"...)
	checkCuts(t, plan.File{Format: api.Bundle, B: more[:len(b)]}, []int{0, 2, len(b)})
}

func FuzzSplit(f *testing.F) {
	for _, x := range samples(f) {
		if len(x.B) < 300 {
			f.Add(x.B, x.Format, x.Width, 1, 2, len(x.B))
		}
	}
	f.Add([]byte("a"), 6, 0, 0, 1, 1)
	f.Add([]byte("abc"), 4, 1001, -1, 1, 3)
	f.Fuzz(func(t *testing.T, b []byte, format, width, first, second, third int) {
		x := plan.File{Format: format, Width: width, B: b}
		checkAll(t, x)
		given := plan.Plan{Cuts: []int{0, first, second}, Inside: make([]bool, 3), Good: third}
		made, e := plan.Make(x, given.Cuts)
		if e != api.OK || !plan.Same(made, given) {
			refusesPlan(t, x, given)
		}
		if !plan.May(x) {
			return
		}
		cuts := []int{0, len(b)}
		for _, at := range []int{first, second, third} {
			cuts = append(cuts, int(uint(at)%uint(len(b)+1)))
		}
		slices.Sort(cuts)
		checkCuts(t, x, slices.Compact(cuts))
		checkWhole(t, scan(x), makePlan(t, x, allCuts(len(b))))
	})
}
