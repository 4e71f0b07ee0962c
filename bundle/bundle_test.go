package bundle_test

import (
	"bytes"
	"encoding/binary"
	"fmt"
	"hash/crc32"
	"math"
	"math/rand"
	"slices"
	"strconv"
	"strings"
	"testing"

	"threshing/api"
	"threshing/bundle"
)

// none is the bundle without files: the size of the directory, and that.
const none = "\x05\x00\x8d\xef\x02\xd2"

// part is what is stored for a file, whatever it is: its name and its number of
// bytes as the directory states them, and its sealed contents.
type part struct {
	name string
	n    int
	s    string
}

// entry is what a directory states of a file, and the offset at which it does.
type entry struct {
	at   int
	name string
	n    int
}

// begun is the record of a file, and the offset at which its entry begins.
type begun struct {
	at int
	r  api.Rec
}

// long returns a string of n bytes, the last of which differs from the others.
func long(n int) string {
	if n == 0 {
		return ""
	}
	return strings.Repeat("x", n-1) + "y"
}

// number returns the varint of n.
func number(n int) string { return string(binary.AppendUvarint(nil, uint64(n))) }

// frame returns the frame of s.
func frame(s string) string { return number(len(s)) + s }

// sealed returns s followed by its checksum.
func sealed(s string) string {
	return string(binary.LittleEndian.AppendUint32([]byte(s), crc32.ChecksumIEEE([]byte(s))))
}

// of returns what is stored for a file as it should be.
func of(name, s string) part { return part{name, len(s), sealed(s)} }

// listing returns what is sealed as the directory of the parts.
func listing(l ...part) string {
	var s strings.Builder
	s.WriteString(number(len(l)))
	for _, p := range l {
		s.WriteString(frame(p.name) + number(p.n))
	}
	return s.String()
}

// stored returns what is stored for the parts behind the directory.
func stored(l ...part) string {
	var s strings.Builder
	for _, p := range l {
		s.WriteString(p.s)
	}
	return s.String()
}

// headed returns a directory, whatever is sealed in it, preceded by its size.
func headed(listing string) string { return frame(sealed(listing)) }

// file returns the bundle that has the parts and their directory.
func file(l ...part) string { return headed(listing(l...)) + stored(l...) }

// parts returns what is stored for the files of records.
func parts(l ...api.Rec) []part {
	var p []part
	for _, r := range l {
		p = append(p, of(r[0], r[1]))
	}
	return p
}

// wantWrite writes records by the words of the document.
func wantWrite(l []api.Rec) (string, api.Errno) {
	if len(l) > 1000 {
		return "", api.ErrDomain
	}
	for i, r := range l {
		if len(r) != 2 || len(r[0]) < 1 || len(r[0]) > 100 || len(r[1]) > 1000 {
			return "", api.ErrDomain
		}
		if i > 0 && l[i-1][0] >= r[0] {
			return "", api.ErrDomain
		}
	}
	return file(parts(l...)...), api.OK
}

// wantNumber returns the number whose varint s begins with, if it is at most
// most, and what follows.
func wantNumber(s string, most int) (int, string, bool) {
	n, size := binary.Uvarint([]byte(s))
	if size <= 0 || n > uint64(most) || len(number(int(n))) != size {
		return 0, "", false
	}
	return int(n), s[size:], true
}

// wantFrame returns the string of at most most bytes whose frame s begins with,
// and what follows.
func wantFrame(s string, most int) (string, string, bool) {
	n, s, ok := wantNumber(s, min(most, len(s)))
	if !ok || n > len(s) {
		return "", "", false
	}
	return s[:n], s[n:], true
}

// wantOpen returns what was sealed.
func wantOpen(s string) (string, bool) {
	if len(s) < 4 || sealed(s[:len(s)-4]) != s {
		return "", false
	}
	return s[:len(s)-4], true
}

// wantDirectory returns the entries of the directory of a bundle, and what
// follows it, or false if it is not valid.
func wantDirectory(s string) ([]entry, string, bool) {
	x, rest, ok := wantFrame(s, math.MaxInt)
	if !ok {
		return nil, "", false
	}
	if x, ok = wantOpen(x); !ok {
		return nil, "", false
	}
	end := len(s) - len(rest) - 4
	count, x, ok := wantNumber(x, 1000)
	var l []entry
	for range count {
		e := entry{at: end - len(x)}
		e.name, x, ok = wantFrame(x, 100)
		if !ok || e.name == "" || len(l) > 0 && l[len(l)-1].name >= e.name {
			return nil, "", false
		}
		if e.n, x, ok = wantNumber(x, 1000); !ok {
			return nil, "", false
		}
		l = append(l, e)
	}
	if !ok || x != "" {
		return nil, "", false
	}
	return l, rest, true
}

// wantScan returns the files of the valid part of a bundle, the number of its
// bytes, and its error.
func wantScan(s string) ([]begun, int, api.Errno) {
	entries, rest, ok := wantDirectory(s)
	if !ok {
		return nil, 0, api.ErrForm
	}
	var l []begun
	for _, x := range entries {
		if len(rest) < x.n+4 {
			return l, len(s) - len(rest), api.ErrForm
		}
		contents, ok := wantOpen(rest[:x.n+4])
		if !ok {
			return l, len(s) - len(rest), api.ErrForm
		}
		l = append(l, begun{x.at, api.Rec{x.name, contents}})
		rest = rest[x.n+4:]
	}
	if rest != "" {
		return l, len(s) - len(rest), api.ErrForm
	}
	return l, len(s), api.OK
}

// wantFind looks a file up among the entries of a directory, and among the
// files of the valid part.
func wantFind(entries []entry, valid []begun, name string) (string, api.Errno) {
	for _, p := range valid {
		if p.r[0] == name {
			return p.r[1], api.OK
		}
	}
	if slices.ContainsFunc(entries, func(x entry) bool { return x.name == name }) {
		return "", api.ErrDamaged
	}
	return "", api.ErrNone
}

// wantRead returns the records that begin in the split [from, to), and its error.
func wantRead(s string, from, to int) ([]api.Rec, api.Errno) {
	if from < 0 || from > to || to > len(s) {
		return nil, api.ErrArg
	}
	var r []api.Rec
	l, _, e := wantScan(s)
	for _, p := range l {
		if p.at >= from && p.at < to {
			r = append(r, p.r)
		}
	}
	if e != api.OK && from == 0 {
		return r, api.ErrForm
	}
	return r, api.OK
}

// brief returns how a value is written in the messages.
func brief(v any) string { return fmt.Sprintf("%.200q", fmt.Sprint(v)) }

// same reports whether two lists of records are equal.
func same(a, b []api.Rec) bool {
	return slices.EqualFunc(a, b, func(r, s api.Rec) bool { return slices.Equal(r, s) })
}

// records returns the records of pieces.
func records(l []api.Piece) []api.Rec {
	var r []api.Rec
	for _, p := range l {
		r = append(r, p.R...)
	}
	return r
}

// samePieces reports whether pieces are those of a list.
func samePieces(l []api.Piece, want []begun) bool {
	return slices.EqualFunc(l, want, func(p api.Piece, w begun) bool {
		return p.At == w.at && same(p.R, []api.Rec{w.r})
	})
}

// checkScan compares the pieces of a bundle, and whether it is canonical.
func checkScan(t *testing.T, s string) {
	t.Helper()
	l, n, e := bundle.Scan([]byte(s))
	want, wantN, wantE := wantScan(s)
	if !samePieces(l, want) || n != wantN || e != wantE {
		t.Errorf("Scan(%.80q) = %s, %d, %d; want %s, %d, %d", s, brief(l), n, e, brief(want), wantN, wantE)
	}
	if canonical := wantE == api.OK; bundle.Canon([]byte(s)) != canonical {
		t.Errorf("Canon(%.80q) is not %t", s, canonical)
	}
}

// checkNames compares the names of a bundle, and the files with these names and
// with some other ones.
func checkNames(t *testing.T, s string) {
	t.Helper()
	entries, _, ok := wantDirectory(s)
	valid, _, _ := wantScan(s)
	wantE := api.OK
	if !ok {
		wantE = api.ErrForm
	}
	var wantNames []string
	var wantSizes []int
	tried := []string{"", "\x00", "a", "b", "\xff", long(100), long(101)}
	for _, x := range entries {
		wantNames = append(wantNames, x.name)
		wantSizes = append(wantSizes, x.n)
		tried = append(tried, x.name, x.name+"\x00", x.name[:len(x.name)-1])
	}
	names, sizes, e := bundle.Names([]byte(s))
	if !slices.Equal(names, wantNames) || !slices.Equal(sizes, wantSizes) || e != wantE {
		t.Errorf("Names(%.80q) = %.80q, %v, %d; want %.80q, %v, %d", s, names, sizes, e, wantNames, wantSizes, wantE)
	}
	for _, name := range tried {
		want, wantE := wantFind(entries, valid, name)
		if !ok {
			wantE = api.ErrForm
		}
		if got, e := bundle.Find([]byte(s), name); got != want || e != wantE {
			t.Errorf("Find(%.80q, %.80q) = %.80q, %d; want %.80q, %d", s, name, got, e, want, wantE)
		}
	}
}

// check compares all that is told of a bundle at once.
func check(t *testing.T, s string) {
	t.Helper()
	checkScan(t, s)
	checkNames(t, s)
	checkRewrite(t, s)
}

// checkRead compares Read for one split.
func checkRead(t *testing.T, s string, from, to int) {
	t.Helper()
	got, e := bundle.Read([]byte(s), from, to)
	if want, wantE := wantRead(s, from, to); !same(got, want) || e != wantE {
		t.Errorf("Read(%.80q, %d, %d) = %.80q, %d; want %.80q, %d", s, from, to, got, e, want, wantE)
	}
}

// checkSplits compares what is read from the splits between the cuts with the
// valid part. The cuts ascend from 0 to the end of a bundle that is not empty.
func checkSplits(t *testing.T, s string, cuts []int) {
	t.Helper()
	pieces, _, wantE := bundle.Scan([]byte(s))
	var l []api.Rec
	failed := false
	for i := 1; i < len(cuts); i++ {
		r, e := bundle.Read([]byte(s), cuts[i-1], cuts[i])
		if e != api.OK && e != api.ErrForm {
			t.Fatalf("Read(%.80q, %d, %d): %d", s, cuts[i-1], cuts[i], e)
		}
		l = append(l, r...)
		failed = failed || e != api.OK
	}
	if want := records(pieces); !same(l, want) {
		t.Errorf("%.80q split at %d gives %.80q; want %.80q", s, cuts, l, want)
	}
	if failed != (wantE != api.OK) {
		t.Errorf("%.80q split at %d reports an error: %t; that of the bundle is %d", s, cuts, failed, wantE)
	}
}

// checkWrite compares Write, and reads what it returns.
func checkWrite(t *testing.T, l []api.Rec) {
	t.Helper()
	b, e := bundle.Write(l)
	want, wantE := wantWrite(l)
	if string(b) != want || e != wantE {
		t.Fatalf("Write(%.80q) = %.80q, %d; want %.80q, %d", l, b, e, want, wantE)
	}
	if e != api.OK {
		return
	}
	pieces, n, e := bundle.Scan(b)
	if back := records(pieces); !same(back, l) || n != len(b) || e != api.OK {
		t.Errorf("Scan(Write(%.80q)) = %.80q, %d, %d", l, back, n, e)
	}
	if back, e := bundle.Read(b, 0, len(b)); !same(back, l) || e != api.OK {
		t.Errorf("Read(Write(%.80q)) = %.80q, %d", l, back, e)
	}
	if !bundle.Canon(b) {
		t.Errorf("Write(%.80q) is not canonical", l)
	}
}

// checkRewrite writes the records of the valid part of a bundle, which gives
// the bundle if and only if it is canonical.
func checkRewrite(t *testing.T, s string) {
	t.Helper()
	pieces, _, _ := bundle.Scan([]byte(s))
	b, e := bundle.Write(records(pieces))
	if e != api.OK {
		t.Errorf("the records of %.80q cannot be written: %d", s, e)
	}
	if (string(b) == s) != bundle.Canon([]byte(s)) {
		t.Errorf("the records of %.80q are written as %.80q; Canon is %t", s, b, bundle.Canon([]byte(s)))
	}
}

// listed calls check with every list of at most most of the elements.
func listed[T any](elements []T, most int, check func(l []T)) {
	level := [][]T{nil}
	for range most + 1 {
		var next [][]T
		for _, l := range level {
			check(l)
			for _, x := range elements {
				next = append(next, append(slices.Clone(l), x))
			}
		}
		level = next
	}
}

// numbered returns n records with ascending names and different contents.
func numbered(n int) []api.Rec {
	l := make([]api.Rec, n)
	for i := range l {
		l[i] = api.Rec{strconv.Itoa(10000 + i), strconv.Itoa(i * i)}
	}
	return l
}

// randomRecords returns records with at most n ascending names.
func randomRecords(r *rand.Rand, n int) []api.Rec {
	var names []string
	for range n {
		name := make([]byte, 1+r.Intn(3))
		if r.Intn(20) == 0 {
			name = make([]byte, 1+r.Intn(100))
		}
		r.Read(name)
		names = append(names, string(name))
	}
	slices.Sort(names)
	var l []api.Rec
	for _, name := range slices.Compact(names) {
		b := make([]byte, r.Intn(5))
		if r.Intn(10) == 0 {
			b = make([]byte, r.Intn(1001))
		}
		r.Read(b)
		l = append(l, api.Rec{name, string(b)})
	}
	return l
}

// randomCuts returns k ascending offsets between 0 and n, some of them equal.
func randomCuts(r *rand.Rand, n, k int) []int {
	cuts := []int{0, n}
	for range k {
		cuts = append(cuts, r.Intn(n+1))
	}
	slices.Sort(cuts)
	return cuts
}

// randomBundle returns a bundle, in some cases with a fault.
func randomBundle(r *rand.Rand) string {
	l := parts(randomRecords(r, r.Intn(40))...)
	if len(l) > 0 {
		p := &l[r.Intn(len(l))]
		switch r.Intn(8) {
		case 0:
			p.n = r.Intn(1100)
		case 1:
			p.s = sealed(p.s)
		case 2:
			p.name = l[0].name
		}
	}
	b := []byte(file(l...))
	at := r.Intn(len(b))
	switch r.Intn(12) {
	case 0:
		b[at] ^= 1 << r.Intn(8)
	case 1:
		b = slices.Delete(b, at, at+1)
	case 2:
		b = slices.Insert(b, at, byte(r.Intn(256)))
	case 3:
		b = b[:at]
	case 4:
		b = append(b, b[at:]...)
	}
	return string(b)
}

// P10.1: J1

func TestScan(t *testing.T) {
	hundred := long(100)
	for _, x := range []struct {
		l  []api.Rec
		at []int
	}{
		{nil, nil},
		{[]api.Rec{{"a", ""}}, []int{2}},
		{[]api.Rec{{"a", "xyz"}, {"b", ""}, {"c", "q"}}, []int{2, 5, 8}},
		{[]api.Rec{{"a", long(127)}, {"abc", long(128)}, {"b", ""}}, []int{2, 5, 11}},
		{[]api.Rec{{"\x00", "\x00"}, {"\x00\x00", "a\nb"}, {"\xff", "\xff"}}, []int{2, 5, 9}},
		{[]api.Rec{{"a", long(999)}, {"aa", long(1000)}}, []int{2, 6}},
		{[]api.Rec{{hundred, "a"}}, []int{2}},
		// The size of the directory has one byte up to 127, and then two.
		{[]api.Rec{{long(100), "a"}, {long(99), "b"}}, []int{3, 105}},
		{[]api.Rec{{"a", ""}, {"b", ""}, {hundred, "a"}}, []int{2, 5, 8}},
		{[]api.Rec{{"a", ""}, {"b", ""}, {"c", ""}, {"d", ""}, {"e", ""}, {"fff", ""}, {hundred, "a"}}, []int{2, 5, 8, 11, 14, 17, 22}},
		{[]api.Rec{{"a", ""}, {"b", ""}, {"c", ""}, {"d", ""}, {"e", ""}, {"ffff", ""}, {hundred, "a"}}, []int{3, 6, 9, 12, 15, 18, 24}},
	} {
		s := file(parts(x.l...)...)
		var want []begun
		for i, r := range x.l {
			want = append(want, begun{x.at[i], r})
		}
		l, n, e := bundle.Scan([]byte(s))
		if !samePieces(l, want) || n != len(s) || e != api.OK {
			t.Errorf("Scan(%.80q) = %s, %d, %d; want %s", s, brief(l), n, e, brief(want))
		}
		check(t, s)
	}
}

func TestScanOfManyFiles(t *testing.T) {
	for _, n := range []int{2, 127, 128, 999, 1000} {
		l := numbered(n)
		s := file(parts(l...)...)
		pieces, got, e := bundle.Scan([]byte(s))
		if len(pieces) != n || !same(records(pieces), l) || got != len(s) || e != api.OK {
			t.Errorf("Scan of %d files: %d, %d, %d", n, len(pieces), got, e)
		}
		check(t, s)
		checkSplits(t, s, []int{0, pieces[n/2].At, len(s)})
	}
	// The size of the directory has three bytes from 16384 on.
	for _, size := range []int{16383, 16384} {
		var l []api.Rec
		left := size - 4 - 2
		for i := 0; left > 0; i++ {
			n := min(left, 102)
			if left > 102 && left < 204 {
				n = left / 2
			}
			name := strconv.Itoa(1000 + i)
			l = append(l, api.Rec{name + strings.Repeat("x", n-2-len(name)), "z"})
			left -= n
		}
		s := file(parts(l...)...)
		first := 2 + len(number(size))
		if pieces, n, e := bundle.Scan([]byte(s)); len(pieces) != len(l) || pieces[0].At != first || n != len(s) || e != api.OK || !strings.HasPrefix(s, number(size)) {
			t.Errorf("Scan of a directory of %d bytes: %d, %d, %d", size, len(pieces), n, e)
		}
		check(t, s)
	}
}

func TestBytes(t *testing.T) {
	// A bundle written out byte by byte.
	s := "\x0b" + "\x02\x01a\x03\x01b\x00" + "\xf3\x8f\x41\x21" + "xyz" + "\x67\xba\x8e\xeb" + "\x00\x00\x00\x00"
	want := []begun{{2, api.Rec{"a", "xyz"}}, {5, api.Rec{"b", ""}}}
	l, n, e := bundle.Scan([]byte(s))
	if !samePieces(l, want) || n != 23 || e != api.OK {
		t.Errorf("Scan(%q) = %v, %d, %d", s, l, n, e)
	}
	if b, e := bundle.Write([]api.Rec{want[0].r, want[1].r}); string(b) != s || e != api.OK {
		t.Errorf("Write = %q, %d; want %q", b, e, s)
	}
}

func TestBundleWithoutFiles(t *testing.T) {
	for _, l := range [][]api.Rec{nil, {}} {
		if b, e := bundle.Write(l); string(b) != none || e != api.OK {
			t.Errorf("Write of no records = %q, %d", b, e)
		}
	}
	if l, n, e := bundle.Scan([]byte(none)); len(l) != 0 || n != 6 || e != api.OK {
		t.Errorf("Scan(%q) = %v, %d, %d", none, l, n, e)
	}
	if l, n, e := bundle.Scan([]byte(none + "a")); len(l) != 0 || n != 6 || e != api.ErrForm {
		t.Errorf("Scan of a byte more = %v, %d, %d", l, n, e)
	}
	if names, sizes, e := bundle.Names([]byte(none)); len(names) != 0 || len(sizes) != 0 || e != api.OK {
		t.Errorf("Names(%q) = %q, %v, %d", none, names, sizes, e)
	}
	if s, e := bundle.Find([]byte(none), ""); s != "" || e != api.ErrNone {
		t.Errorf("Find(%q) = %q, %d", none, s, e)
	}
	if !bundle.Canon([]byte(none)) {
		t.Errorf("%q is not canonical", none)
	}
}

// listings returns what no valid directory has sealed.
func listings() []string {
	one := listing(of("a", ""))
	l := []string{
		"", "\x01", "\x80", "\x80\x00", "\x00\x00", "\x00" + one, one + "\x00", one + one, one[1:], one[:3], one[:2], "\x02" + one[1:], "\x00" + one[1:],
		"\x81\x00" + one[1:], strings.Repeat("\xff", 9) + "\x01", strings.Repeat("\xff", 10), strings.Repeat("\xff", 9) + "\x02" + one[1:],
		"\x80\x80\x80\x80\x80\x80\x80\x80\x80\x02", number(math.MaxInt), number(math.MinInt), number(1<<32 + 1), number(1<<32+1) + one[1:],
		number(1001), number(1001) + one[1:], headed(one), sealed(one), "\x01a\x00", "\x01\x01a", "\x01\x00\x00",
		// The frames of the names.
		"\x01\x02a\x00", "\x01\x02a", "\x01\x00", "\x01\x81\x00a\x00", "\x01\x80", "\x01\x80\x00\x00", "\x01" + frame(long(101)) + "\x00", "\x01" + frame(long(128)) + "\x00",
		"\x01" + frame(long(1000)) + "\x00", "\x01" + number(1<<32+1) + "a\x00", "\x01" + strings.Repeat("\xff", 9) + "\x01a\x00", "\x01" + number(math.MaxInt) + "a\x00", "\x01" + number(math.MinInt) + "a\x00",
		// The numbers of bytes.
		"\x01\x01a\x80", "\x01\x01a\x80\x00", "\x01\x01a\x81\x00", "\x01\x01a" + number(1001), "\x01\x01a" + number(1<<32), "\x01\x01a" + number(math.MaxInt), "\x01\x01a" + number(-4), "\x01\x01a" + number(-5),
		"\x01\x01a" + strings.Repeat("\xff", 9) + "\x01", "\x01\x01a" + strings.Repeat("\xff", 10), "\x01\x01a" + strings.Repeat("\x80", 9) + "\x02", "\x01\x01a\x00\x01", "\x01\x01a\x00\x80",
		// Too many files, each of which is valid.
		listing(parts(numbered(1001)...)...), listing(parts(numbered(1024)...)...), listing(parts(numbered(2000)...)...),
	}
	for _, names := range [][]string{
		{""}, {"", "a"}, {"a", ""}, {"a", "a"}, {"b", "a"}, {"a", "b", "b"}, {"a", "c", "b"}, {"b", "a", "c"}, {"a", "b", "a"}, {"ab", "a"}, {"a\x00", "a"},
		{"a", "Z"}, {"\x80", "a"}, {"\xff", "\xfe"}, {"é", "z"}, {"\x01", "\x00"}, {"aa", "aa"}, {"10", "9", "8"}, {long(101)}, {"a", long(101)}, {long(101), "z"},
	} {
		var p []part
		for _, name := range names {
			p = append(p, of(name, ""))
		}
		l = append(l, listing(p...))
	}
	return l
}

// invalid returns bundles whose directory is not valid.
func invalid() []string {
	s := file(of("a", "xyz"))
	l := []string{
		// The size of the directory.
		"\x00", "\x01", "\x7f", "\x80", "\x80\x00", "\xff", "\x04", "\x05", "\x05\x00", none[1:], none[:5], none[:2], "\x00" + none, "\x01" + none[1:], "\x04" + none[1:], "\x06" + none[1:],
		"\x85\x00" + none[1:], "\x85\x80\x00" + none[1:], "\x06" + none[1:] + "\x00", "\x04\x00\x00\x00\x00", "\x00\x00\x00\x00\x00", "\x03\x00\x00\x00", "\x07" + none[1:],
		strings.Repeat("\xff", 9) + "\x01" + none[1:], strings.Repeat("\xff", 10) + none[1:], strings.Repeat("\x80", 9) + "\x02" + none[1:],
		number(1<<32+5) + none[1:], number(math.MaxInt) + none[1:], number(math.MinInt) + none[1:], number(-5) + none[1:], number(math.MaxInt-1) + none[1:], number(math.MaxInt - 9),
		s[1:], "\x0a" + s, number(len(s)-1) + s[1:], number(len(s)) + s[1:], number(len(s)+1) + s[1:], number(int(s[0])-1) + s[1:], number(int(s[0])+1) + s[1:],
		// The number of bytes that are sealed, rather than the size.
		number(int(s[0])-4) + s[1:], "\x01" + none[1:],
		// What Open rejects.
		"\x05\x01\x8d\xef\x02\xd2", "\x05\x00\xd2\x02\xef\x8d", "\x05\x00\x00\x00\x00\x00", "\x01\x00", "\x02\x00\x00", "\x03\x01\x01a", "\x04\x01\x01a\x00", frame(listing(of("a", ""))) + "\x00\x00\x00\x00",
	}
	for _, x := range listings() {
		l = append(l, headed(x), headed(x)+sealed(""), headed(x)+sealed("")+sealed(""), headed(x)+none)
	}
	return l
}

func TestInvalidDirectories(t *testing.T) {
	for _, s := range invalid() {
		b := []byte(s)
		if l, n, e := bundle.Scan(b); len(l) != 0 || n != 0 || e != api.ErrForm {
			t.Errorf("Scan(%.80q) = %s, %d, %d", s, brief(l), n, e)
		}
		if bundle.Canon(b) {
			t.Errorf("%.80q is canonical", s)
		}
		if names, sizes, e := bundle.Names(b); len(names) != 0 || len(sizes) != 0 || e != api.ErrForm {
			t.Errorf("Names(%.80q) = %.80q, %s, %d", s, names, brief(sizes), e)
		}
		for _, name := range []string{"", "a", "b", "xyz"} {
			if got, e := bundle.Find(b, name); got != "" || e != api.ErrForm {
				t.Errorf("Find(%.80q, %q) = %.80q, %d", s, name, got, e)
			}
		}
		if l, e := bundle.Read(b, 0, len(b)); len(l) != 0 || e != api.ErrForm {
			t.Errorf("Read of all of %.80q: %.80q, %d", s, l, e)
		}
		if l, e := bundle.Read(b, 0, 0); len(l) != 0 || e != api.ErrForm {
			t.Errorf("Read of the first bytes of %.80q, none: %.80q, %d", s, l, e)
		}
		if l, e := bundle.Read(b, 1, len(b)); len(l) != 0 || e != api.OK {
			t.Errorf("Read of all but the first byte of %.80q: %.80q, %d", s, l, e)
		}
		check(t, s)
	}
}

func TestNoBytes(t *testing.T) {
	// A bundle begins with the size of its directory, so that there is none
	// without a byte.
	for _, b := range [][]byte{nil, {}} {
		if l, n, e := bundle.Scan(b); len(l) != 0 || n != 0 || e != api.ErrForm {
			t.Errorf("Scan of no bytes: %v, %d, %d", l, n, e)
		}
		if bundle.Canon(b) {
			t.Error("no bytes are canonical")
		}
		if names, sizes, e := bundle.Names(b); len(names) != 0 || len(sizes) != 0 || e != api.ErrForm {
			t.Errorf("Names of no bytes: %q, %v, %d", names, sizes, e)
		}
		if s, e := bundle.Find(b, "a"); s != "" || e != api.ErrForm {
			t.Errorf("Find in no bytes: %q, %d", s, e)
		}
		if l, e := bundle.Read(b, 0, 0); len(l) != 0 || e != api.ErrForm {
			t.Errorf("Read of no bytes: %q, %d", l, e)
		}
	}
}

// faults returns what is stored for a file named m, which Open rejects.
func faults() []part {
	ok := sealed("xyz")
	return []part{
		{"m", 3, "xyz\x00\x00\x00\x00"}, {"m", 3, "xyz\xeb\x8e\xba\x67"}, {"m", 3, "xya" + ok[3:]}, {"m", 3, "zyx" + ok[3:]}, {"m", 3, "XYZ" + ok[3:]},
		{"m", 4, ok + "\x00"}, {"m", 4, "\x00" + ok}, {"m", 4, ok}, {"m", 2, ok}, {"m", 2, ok[1:]}, {"m", 2, ok[:6]}, {"m", 0, ok}, {"m", 7, ok}, {"m", 1000, ok},
		{"m", 1, "\x00\x00\x00\x00\x00"}, {"m", 0, "\x00\x00\x00\x01"}, {"m", 0, "\x01\x00\x00\x00"}, {"m", 0, "aaaa"}, {"m", 1000, long(1004)}, {"m", 3, ok[:3]}, {"m", 3, ""}, {"m", 1, ""}, {"m", 1000, ""},
	}
}

func TestDamagedFiles(t *testing.T) {
	some := []part{of("b", ""), of("c", "1"), of("d", long(900))}
	more := []part{of("x", ""), of("y", "2"), of("z", long(1000))}
	for before := range 4 {
		for after := range 4 {
			for _, fault := range faults() {
				l := slices.Concat(some[:before], []part{fault}, more[:after])
				s := file(l...)
				want, _, _ := wantScan(s)
				good := len(headed(listing(l...)) + stored(some[:before]...))
				if pieces, n, e := bundle.Scan([]byte(s)); len(pieces) != before || !samePieces(pieces, want) || n != good || e != api.ErrForm {
					t.Errorf("Scan(%.80q) = %s, %d, %d; want %d", s, brief(pieces), n, e, good)
				}
				// Files behind the damaged one are not in the valid part either.
				for i, p := range l {
					got, e := bundle.Find([]byte(s), p.name)
					if i < before && (sealed(got) != p.s || e != api.OK) || i >= before && (got != "" || e != api.ErrDamaged) {
						t.Errorf("Find(%.80q, %q) = %.80q, %d", s, p.name, got, e)
					}
				}
				if names, sizes, e := bundle.Names([]byte(s)); len(names) != len(l) || names[before] != "m" || sizes[before] != fault.n || e != api.OK {
					t.Errorf("Names(%.80q) = %q, %d, %d", s, names, sizes, e)
				}
				check(t, s)
			}
		}
	}
}

func TestBytesLeft(t *testing.T) {
	for _, l := range [][]api.Rec{nil, {{"a", ""}}, {{"a", "xyz"}, {"b", ""}, {"c", "q"}}} {
		s := file(parts(l...)...)
		for _, left := range []string{"\x00", "a", "\x00\x00\x00\x00", sealed("q"), none, s, long(2000)} {
			if pieces, n, e := bundle.Scan([]byte(s + left)); !same(records(pieces), l) || n != len(s) || e != api.ErrForm {
				t.Errorf("Scan(%.80q) = %s, %d, %d", s+left, brief(pieces), n, e)
			}
			if bundle.Canon([]byte(s + left)) {
				t.Errorf("%.80q is canonical", s+left)
			}
			for _, r := range l {
				if got, e := bundle.Find([]byte(s+left), r[0]); got != r[1] || e != api.OK {
					t.Errorf("Find(%.80q, %q) = %q, %d", s+left, r[0], got, e)
				}
			}
			check(t, s+left)
		}
	}
}

func TestTruncatedBundles(t *testing.T) {
	// A bundle that ends exactly where a file should begin lacks it all the same.
	l := []part{of("a", "xyz"), of("b", ""), of("c", long(300)), of("d", "")}
	s := file(l...)
	head := len(headed(listing(l...)))
	for n := range len(s) {
		files, good := 0, 0
		if n >= head {
			for good = head; good+len(l[files].s) <= n; files++ {
				good += len(l[files].s)
			}
		}
		if pieces, got, e := bundle.Scan([]byte(s[:n])); len(pieces) != files || got != good || e != api.ErrForm {
			t.Errorf("Scan of %d bytes: %d pieces, %d, %d; want %d, %d", n, len(pieces), got, e, files, good)
		}
		check(t, s[:n])
		check(t, s[n:])
	}
}

func TestChangedBytes(t *testing.T) {
	// Whichever byte of the contents of a file is changed, the valid part ends
	// before it; whichever of the other bytes is, nothing is valid.
	l := []part{of("a", "xyz"), of("b", ""), of("c", "q")}
	s := []byte(file(l...))
	starts := []int{len(s) - 5 - 4 - 7, len(s) - 5 - 4, len(s) - 5}
	for i, old := range s {
		files, good := 0, 0
		for k, start := range starts {
			if i >= start {
				files, good = k, start
			}
		}
		for x := range 256 {
			if s[i] = byte(x); s[i] == old {
				continue
			}
			if pieces, n, e := bundle.Scan(s); len(pieces) != files || n != good || e != api.ErrForm {
				t.Errorf("byte %d changed to %d: %d pieces, %d, %d; want %d, %d", i, x, len(pieces), n, e, files, good)
			}
			if bundle.Canon(s) {
				t.Errorf("byte %d changed to %d is canonical", i, x)
			}
		}
		s[i] = old
	}
}

func TestWriteBytes(t *testing.T) {
	for _, l := range [][]api.Rec{
		{{"a", ""}}, {{"a", "xyz"}}, {{"a", "xyz"}, {"b", ""}, {"c", "q"}}, {{long(100), long(1000)}}, {{"\x00", ""}}, {{"\xff", "\xff"}},
		{{"Z", ""}, {"a", ""}}, {{"a", ""}, {"a\x00", ""}, {"aa", ""}}, {{"10", ""}, {"9", ""}}, {{"\x7f", ""}, {"\x80", ""}}, {{"z", ""}, {"é", ""}},
		{{"a", "b"}, {"b", "a"}}, {{"a", "same"}, {"b", "same"}}, {{long(100), ""}, {long(99), ""}}, numbered(127), numbered(128), numbered(999), numbered(1000),
	} {
		b, e := bundle.Write(l)
		if want := file(parts(l...)...); string(b) != want || e != api.OK {
			t.Errorf("Write(%.80q) = %.80q, %d; want %.80q", l, b, e, want)
		}
		checkWrite(t, l)
	}
}

func TestWriteErrors(t *testing.T) {
	for _, r := range []api.Rec{
		nil, {}, {"m"}, {"m", "", ""}, {"m", "n", "o"}, {""}, {"", ""}, {"", "a"}, make(api.Rec, 50), {long(101), ""}, {long(102), ""}, {long(1000), ""}, {strings.Repeat("é", 51), ""},
		{"m", long(1001)}, {"m", long(1002)}, {"m", long(100000)}, {"m", strings.Repeat("é", 501)}, {long(101), long(1001)}, {"", long(1001)},
	} {
		for before := range 3 {
			for after := range 3 {
				l := slices.Concat([]api.Rec{{"a", ""}, {"b", "1"}}[:before], []api.Rec{r}, []api.Rec{{"y", ""}, {"z", "1"}}[:after])
				if b, e := bundle.Write(l); len(b) != 0 || e != api.ErrDomain {
					t.Errorf("Write(%.80q) = %.80q, %d", l, b, e)
				}
			}
		}
	}
	for _, names := range [][]string{
		{"a", "a"}, {"b", "a"}, {"a", "b", "b"}, {"a", "c", "b"}, {"b", "a", "c"}, {"a", "b", "a"}, {"aa", "a"}, {"a\x00", "a"}, {"a", "Z"}, {"9", "10"}, {"\x80", "\x7f"}, {"é", "z"},
		{long(100), long(100)}, {long(99), long(100)}, {long(99) + "x", long(100)},
	} {
		var l []api.Rec
		for _, name := range names {
			l = append(l, api.Rec{name, "1"})
		}
		if b, e := bundle.Write(l); len(b) != 0 || e != api.ErrDomain {
			t.Errorf("Write(%.80q) = %.80q, %d", l, b, e)
		}
	}
	for _, n := range []int{1001, 1002, 1024, 2000, 5000} {
		if b, e := bundle.Write(numbered(n)); len(b) != 0 || e != api.ErrDomain {
			t.Errorf("Write of %d records: %.80q, %d", n, b, e)
		}
	}
}

func TestCanon(t *testing.T) {
	for _, x := range []struct {
		s    string
		want bool
	}{
		{none, true},
		{file(of("a", "")), true},
		{file(of("a", "xyz"), of("b", "")), true},
		{file(of(long(100), long(1000))), true},
		{file(parts(numbered(1000)...)...), true},
		{"", false},
		{none + "\x00", false},
		{none + none, false},
		{"\x85\x00" + none[1:], false},
		{headed("\x01\x01a\x80\x00") + sealed(""), false},
		{file(of("a", "")) + "\x00", false},
		{file(of("a", ""), part{"b", 1, sealed("")}), false},
		{file(of("a", ""), part{"b", 0, ""}), false},
		{file(of("a", ""), of("a", "")), false},
		{file(of("b", ""), of("a", "")), false},
		{file(of("", "")), false},
		{file(of(long(101), "")), false},
		{file(of("a", long(1001))), false},
		{file(parts(numbered(1001)...)...), false},
	} {
		if bundle.Canon([]byte(x.s)) != x.want {
			t.Errorf("Canon(%.80q) is not %t", x.s, x.want)
		}
		check(t, x.s)
	}
}

func TestAllShortDirectories(t *testing.T) {
	listed([]string{"\x00", "\x01", "\x02", "a", "b", "\x80"}, 6, func(l []string) {
		x := strings.Join(l, "")
		checkScan(t, headed(x)+sealed("")+sealed("")[1:])
		// The same bytes are a directory only if they happen to be sealed.
		checkScan(t, x+none)
	})
	listed([]string{"\x00", "\x01", "\x01a\x00", "\x01b\x01", "\x02ab\x00", "\x02"}, 5, func(l []string) {
		check(t, headed(strings.Join(l, ""))+sealed("")+sealed("a")+sealed(""))
	})
}

func TestAllBundlesOfFewParts(t *testing.T) {
	some := []part{of("a", ""), of("b", "xyz"), of("c", "q"), {"d", 1, sealed("")}, {"e", 0, sealed("e")}, of("f", "")}
	listed(some, 4, func(l []part) { check(t, file(l...)) })
	listed(some, 3, func(l []part) {
		s := file(l...)
		for from := -1; from <= len(s)+1; from++ {
			for _, to := range []int{-1, 0, from - 1, from, from + 1, from + 3, 5, len(s) - 1, len(s), len(s) + 1} {
				checkRead(t, s, from, to)
			}
		}
	})
}

func TestRandomBundles(t *testing.T) {
	r := rand.New(rand.NewSource(1))
	seen := map[api.Errno]int{}
	for range 3000 {
		s := randomBundle(r)
		check(t, s)
		_, _, e := wantScan(s)
		seen[e]++
		for range 5 {
			cuts := randomCuts(r, len(s), 2)
			checkRead(t, s, cuts[1], cuts[2])
		}
	}
	for _, e := range []api.Errno{api.OK, api.ErrForm} {
		if seen[e] < 300 {
			t.Errorf("only %d random bundles have the error %d", seen[e], e)
		}
	}
}

// P10.1: J2

func TestNames(t *testing.T) {
	for _, x := range []struct {
		l     []part
		names []string
		sizes []int
	}{
		{[]part{of("a", "")}, []string{"a"}, []int{0}},
		{[]part{of("a", "xyz"), of("b", ""), of("c", "q")}, []string{"a", "b", "c"}, []int{3, 0, 1}},
		{[]part{of(long(100), long(1000))}, []string{long(100)}, []int{1000}},
		// The contents are not looked at.
		{[]part{{"a", 3, ""}}, []string{"a"}, []int{3}},
		{[]part{{"a", 127, "x"}, {"b", 128, ""}, {"c", 1000, "xyz"}}, []string{"a", "b", "c"}, []int{127, 128, 1000}},
	} {
		s := file(x.l...)
		names, sizes, e := bundle.Names([]byte(s))
		if !slices.Equal(names, x.names) || !slices.Equal(sizes, x.sizes) || e != api.OK {
			t.Errorf("Names(%.80q) = %q, %v, %d; want %q, %v", s, names, sizes, e, x.names, x.sizes)
		}
	}
	l := numbered(1000)
	names, sizes, e := bundle.Names([]byte(file(parts(l...)...)))
	if len(names) != 1000 || len(sizes) != 1000 || e != api.OK {
		t.Fatalf("%d names, %d sizes, %d", len(names), len(sizes), e)
	}
	for i, r := range l {
		if names[i] != r[0] || sizes[i] != len(r[1]) {
			t.Errorf("file %d: %q of %d bytes; want %q of %d", i, names[i], sizes[i], r[0], len(r[1]))
		}
	}
}

func TestFind(t *testing.T) {
	s := file(of("a", "xyz"), of("ab", ""), of("b", "q"), of(long(100), long(1000)), part{"y", 1, "12345"}, of("z", "1"))
	for _, x := range []struct {
		name, want string
		e          api.Errno
	}{
		{"a", "xyz", api.OK},
		{"ab", "", api.OK},
		{"b", "q", api.OK},
		{long(100), long(1000), api.OK},
		{"y", "", api.ErrDamaged},
		{"z", "", api.ErrDamaged},
		{"", "", api.ErrNone},
		{"A", "", api.ErrNone},
		{"aa", "", api.ErrNone},
		{"ab\x00", "", api.ErrNone},
		{"abc", "", api.ErrNone},
		{"xyz", "", api.ErrNone},
		{long(99), "", api.ErrNone},
		{long(101), "", api.ErrNone},
		// Before, between and behind the damaged files.
		{"\x00", "", api.ErrNone},
		{"yy", "", api.ErrNone},
		{"zz", "", api.ErrNone},
		{"\xff", "", api.ErrNone},
	} {
		if got, e := bundle.Find([]byte(s), x.name); got != x.want || e != x.e {
			t.Errorf("Find(%.80q) = %.80q, %d; want %.80q, %d", x.name, got, e, x.want, x.e)
		}
	}
	l := numbered(1000)
	b := []byte(file(parts(l...)...))
	for _, r := range l {
		if got, e := bundle.Find(b, r[0]); got != r[1] || e != api.OK {
			t.Errorf("Find(%q) = %q, %d; want %q", r[0], got, e, r[1])
		}
	}
}

func TestRead(t *testing.T) {
	a, b, c := api.Rec{"a", "xyz"}, api.Rec{"bb", ""}, api.Rec{"c", long(500)}
	s := file(parts(a, b, c)...)
	n := len(s)
	damaged := s[:n-1] + "\x00"
	for _, x := range []struct {
		from, to int
		want     []api.Rec
	}{
		{0, n, []api.Rec{a, b, c}},
		{0, n - 1, []api.Rec{a, b, c}},
		{0, 10, []api.Rec{a, b, c}},
		{0, 9, []api.Rec{a, b}},
		{0, 6, []api.Rec{a, b}},
		{0, 5, []api.Rec{a}},
		{0, 3, []api.Rec{a}},
		{0, 2, nil},
		{0, 1, nil},
		{0, 0, nil},
		{1, 2, nil},
		{1, 3, []api.Rec{a}},
		{2, 2, nil},
		{2, 3, []api.Rec{a}},
		{2, 5, []api.Rec{a}},
		{2, 6, []api.Rec{a, b}},
		{3, 5, nil},
		{3, 6, []api.Rec{b}},
		{5, 6, []api.Rec{b}},
		{5, 9, []api.Rec{b}},
		{6, 9, nil},
		{6, 10, []api.Rec{c}},
		{9, 9, nil},
		{9, 10, []api.Rec{c}},
		{9, n, []api.Rec{c}},
		{10, n, nil},
		{n - 1, n, nil},
		{n, n, nil},
	} {
		l, e := bundle.Read([]byte(s), x.from, x.to)
		if !same(l, x.want) || e != api.OK {
			t.Errorf("Read(%d, %d) = %.80q, %d; want %.80q", x.from, x.to, l, e, x.want)
		}
		// If the last file is damaged, the first split reports it, wherever it ends.
		want := slices.DeleteFunc(slices.Clone(x.want), func(r api.Rec) bool { return r[0] == "c" })
		wantE := api.OK
		if x.from == 0 {
			wantE = api.ErrForm
		}
		l, e = bundle.Read([]byte(damaged), x.from, x.to)
		if !same(l, want) || e != wantE {
			t.Errorf("Read(%d, %d) of a damaged bundle = %.80q, %d; want %.80q, %d", x.from, x.to, l, e, want, wantE)
		}
		// So it does if bytes are left.
		l, e = bundle.Read([]byte(s+"\x00"), x.from, x.to)
		if !same(l, x.want) || e != wantE {
			t.Errorf("Read(%d, %d) of a bundle with a byte left = %.80q, %d; want %.80q, %d", x.from, x.to, l, e, x.want, wantE)
		}
	}
}

func TestReadErrors(t *testing.T) {
	for _, s := range []string{"", "\x05", none, file(of("a", "b")), file(part{"a", 1, "b"}), file(of("a", "b"))[1:]} {
		n := len(s)
		for _, x := range [][2]int{
			{-1, 0}, {-1, n}, {-1, -1}, {-2, -1}, {0, -1}, {1, 0}, {n, n - 1}, {n + 1, n}, {0, n + 1}, {n, n + 1}, {n + 1, n + 1}, {n + 1, n + 2}, {-1, n + 1},
			{math.MinInt, 0}, {0, math.MinInt}, {math.MinInt, math.MinInt}, {math.MinInt, math.MaxInt}, {0, math.MaxInt}, {math.MaxInt, 0}, {math.MaxInt, math.MaxInt}, {math.MaxInt, math.MinInt},
		} {
			if l, e := bundle.Read([]byte(s), x[0], x[1]); len(l) != 0 || e != api.ErrArg {
				t.Errorf("Read(%q, %d, %d) = %q, %d", s, x[0], x[1], l, e)
			}
		}
	}
}

// P10.2

func TestSplitsOfBundlesOfFewParts(t *testing.T) {
	some := []part{of("a", ""), of("b", "xyz"), {"c", 1, sealed("")}, of("d", "q")}
	listed(some, 3, func(l []part) {
		for _, s := range []string{file(l...), file(l...) + "a"} {
			for from := 0; from <= len(s); from++ {
				for to := from; to <= len(s); to++ {
					checkSplits(t, s, []int{0, from, to, len(s)})
				}
			}
			for at := range len(s) + 1 {
				// Splits without a byte have no records, wherever they are.
				checkSplits(t, s, []int{0, 0, at, at, at, len(s), len(s)})
			}
		}
	})
}

func TestSplitsOfInvalidBundles(t *testing.T) {
	for _, s := range invalid() {
		for _, at := range []int{0, 1, len(s) / 2, len(s) - 1, len(s)} {
			checkSplits(t, s, []int{0, at, len(s)})
		}
	}
}

func TestSplitsOfEachByte(t *testing.T) {
	r := rand.New(rand.NewSource(2))
	l := parts(randomRecords(r, 30)...)
	broken := slices.Clone(l)
	broken[len(l)/2].s = long(len(l[len(l)/2].s))
	for _, s := range []string{none, file(l...), file(l...) + "a", file(l...)[1:], file(broken...)} {
		var cuts []int
		for at := range len(s) + 1 {
			cuts = append(cuts, at)
		}
		checkSplits(t, s, cuts)
	}
}

func TestSplitsOfRandomBundles(t *testing.T) {
	r := rand.New(rand.NewSource(3))
	for range 1000 {
		s := randomBundle(r)
		if s == "" {
			continue
		}
		for range 5 {
			checkSplits(t, s, randomCuts(r, len(s), r.Intn(40)))
		}
		// Most cuts of these are in the directory, where the pieces begin.
		cuts := randomCuts(r, min(len(s), 200), r.Intn(40))
		checkSplits(t, s, append(cuts, len(s)))
	}
}

// P10.3

func TestRoundTripOfRecords(t *testing.T) {
	some := []api.Rec{{"a", ""}, {"a\x00", "1"}, {"b", "\x00\xff"}, {"c", long(200)}, {""}, {"d"}}
	listed(some, 4, func(l []api.Rec) { checkWrite(t, l) })
	for n := range 103 {
		checkWrite(t, []api.Rec{{long(n), "a"}})
		checkWrite(t, []api.Rec{{"a", "b"}, {long(n), ""}})
	}
	for n := range 1003 {
		checkWrite(t, []api.Rec{{"a", long(n)}, {"b", "1"}})
	}
	for n := 0; n < 1010; n += 10 {
		checkWrite(t, numbered(n))
	}
	for i := range 256 {
		for k := range 256 {
			checkWrite(t, []api.Rec{{string([]byte{byte(i)}), "a"}, {string([]byte{byte(k)}), "b"}})
		}
	}
	r := rand.New(rand.NewSource(4))
	for range 1000 {
		l := randomRecords(r, r.Intn(60))
		checkWrite(t, l)
		r.Shuffle(len(l), func(i, k int) { l[i], l[k] = l[k], l[i] })
		checkWrite(t, l[:min(len(l), 3)])
	}
}

func TestRoundTripOfBundles(t *testing.T) {
	r := rand.New(rand.NewSource(5))
	for range 1000 {
		s := file(parts(randomRecords(r, r.Intn(60))...)...)
		pieces, _, e := bundle.Scan([]byte(s))
		if e != api.OK || !bundle.Canon([]byte(s)) {
			t.Errorf("%.80q is not canonical: %d", s, e)
		}
		if b, e := bundle.Write(records(pieces)); string(b) != s || e != api.OK {
			t.Errorf("the records of %.80q are written as %.80q, %d", s, b, e)
		}
		checkRewrite(t, randomBundle(r))
	}
}

func TestLargestBundle(t *testing.T) {
	var l []api.Rec
	for i := range 1000 {
		name := strconv.Itoa(1000 + i)
		l = append(l, api.Rec{name + long(100-len(name)), long(1000)})
	}
	checkWrite(t, l)
	s := file(parts(l...)...)
	if n := 3 + 2 + 1000*(1+100+2) + 4 + 1000*1004; len(s) != n {
		t.Errorf("the largest bundle has %d bytes; want %d", len(s), n)
	}
	checkScan(t, s)
	if got, e := bundle.Find([]byte(s), l[999][0]); got != long(1000) || e != api.OK {
		t.Errorf("Find of the last file: %.80q, %d", got, e)
	}
	checkSplits(t, s, randomCuts(rand.New(rand.NewSource(6)), len(s), 50))
}

// The document's rules for all layers

func TestArgumentsStay(t *testing.T) {
	want := []api.Rec{{"a", "xyz"}, {"b", ""}, {"c", "q"}}
	whole := []byte(file(parts(want...)...) + strings.Repeat("beyond", 20))
	before := bytes.Clone(whole)
	b := whole[:len(whole)-6*20]
	pieces, _, _ := bundle.Scan(b)
	l, _ := bundle.Read(b, 0, len(b))
	names, sizes, _ := bundle.Names(b)
	found, _ := bundle.Find(b, "a")
	bundle.Canon(b)
	if !bytes.Equal(whole, before) {
		t.Errorf("the bundle, or the memory beyond it, became %q", whole)
	}
	clear(whole)
	if !same(l, want) || !same(records(pieces), want) || !slices.Equal(names, []string{"a", "b", "c"}) || !slices.Equal(sizes, []int{3, 0, 1}) || found != "xyz" {
		t.Errorf("writing to the bundle changed the results: %q, %v, %q, %v, %q", l, pieces, names, sizes, found)
	}
}

func TestArgumentsOfWriteStay(t *testing.T) {
	r := api.Rec{"a", "xyz", "more"}
	given := []api.Rec{r[:2], {"b", ""}, {"c", "q"}, {"z"}}
	out, _ := bundle.Write(given[:3])
	clear(out[:cap(out)])
	if !slices.Equal(r, api.Rec{"a", "xyz", "more"}) || !same(given, []api.Rec{{"a", "xyz"}, {"b", ""}, {"c", "q"}, {"z"}}) {
		t.Errorf("Write changed its argument: %q", given)
	}
	if again, e := bundle.Write(given[:3]); string(again) != file(parts(given[:3]...)...) || e != api.OK {
		t.Errorf("the same records give another bundle the second time: %q, %d", again, e)
	}
}

func TestMemoryBeyondLengthIsIgnored(t *testing.T) {
	l := []api.Rec{{"a", "xyz"}, {"b", "q"}}
	whole := []byte(file(parts(l...)...))
	n := len(whole)
	if pieces, got, e := bundle.Scan(whole[:n-1]); !same(records(pieces), l[:1]) || got != n-5 || e != api.ErrForm {
		t.Errorf("Scan of a file that goes on beyond the length: %v, %d, %d", pieces, got, e)
	}
	for size := range 12 {
		if pieces, got, e := bundle.Scan(whole[:size]); len(pieces) != 0 || got != 0 || e != api.ErrForm {
			t.Errorf("Scan of a directory that goes on beyond the length: %v, %d, %d", pieces, got, e)
		}
		if names, _, e := bundle.Names(whole[:size]); len(names) != 0 || e != api.ErrForm {
			t.Errorf("Names of a directory that goes on beyond the length: %q, %d", names, e)
		}
	}
	if s, e := bundle.Find(whole[:n-1], "b"); s != "" || e != api.ErrDamaged {
		t.Errorf("Find of a file that goes on beyond the length: %q, %d", s, e)
	}
	if got, e := bundle.Read(whole[:n-1], 0, n); len(got) != 0 || e != api.ErrArg {
		t.Errorf("Read of a split that goes on beyond the length: %q, %d", got, e)
	}
	more := append(whole, none...)
	if pieces, got, e := bundle.Scan(more[:n]); !same(records(pieces), l) || got != n || e != api.OK || !bundle.Canon(more[:n]) || bundle.Canon(more) {
		t.Errorf("Scan of a bundle with memory beyond its length: %v, %d, %d", pieces, got, e)
	}
	given := []api.Rec{{"a", "xyz", "more"}, {}}
	given[0] = given[0][:2]
	if b, e := bundle.Write(given[:1]); string(b) != file(of("a", "xyz")) || e != api.OK {
		t.Errorf("Write of records that go on beyond the length: %q, %d", b, e)
	}
}

func TestResultsShareNoMemory(t *testing.T) {
	// Writing to one record of a result, its spare capacity included, changes no other one.
	want := []api.Rec{{"a", "xyz"}, {"b", ""}, {"c", "q"}, {"d", "q"}}
	b := []byte(file(parts(want...)...))
	l, _ := bundle.Read(b, 0, len(b))
	pieces, _, _ := bundle.Scan(b)
	for i := range want {
		own := l[i][:cap(l[i])]
		for k := range own {
			own[k] = "changed"
		}
		list := pieces[i].R[:cap(pieces[i].R)]
		for k, r := range list {
			clear(r[:cap(r)])
			list[k] = api.Rec{"changed"}
		}
		if !same(l[i+1:], want[i+1:]) || !same(records(pieces[i+1:]), want[i+1:]) {
			t.Errorf("writing to record %d changed another one: %q, %v", i, l, pieces)
		}
	}
	names, sizes, _ := bundle.Names(b)
	clear(names[:cap(names)])
	if !slices.Equal(sizes, []int{3, 0, 1, 1}) {
		t.Errorf("writing to the names changed the numbers of bytes: %v", sizes)
	}
	clear(sizes[:cap(sizes)])
	if again, _, _ := bundle.Names(b); !slices.Equal(again, []string{"a", "b", "c", "d"}) {
		t.Errorf("the same bundle has other names the second time: %q", again)
	}
	if again, _ := bundle.Read(b, 0, len(b)); !same(again, want) {
		t.Errorf("the same bundle has other records the second time: %q", again)
	}
}

func FuzzBundle(f *testing.F) {
	f.Add([]byte(file(of("a", "xyz"), of("b", ""))), []byte(sealed("xyz")), 2, 4, 9)
	f.Add([]byte(listing(of("a", "xyz"), of("b", ""))), []byte(sealed("xyz")+sealed("")), 3, 0, 3)
	f.Add([]byte("\x01a\x00\x01b\x01"), []byte(sealed("")+sealed("b")), 2, 1, 5)
	f.Add([]byte(none), []byte("a"), 0, -1, 7)
	f.Fuzz(func(t *testing.T, b, x []byte, n, from, to int) {
		s, rest := string(b[:min(len(b), 3000)]), string(x[:min(len(x), 3000)])
		checkWrite(t, []api.Rec{{s, rest}, {rest, s}})
		checkWrite(t, []api.Rec{{s[:min(len(s), 50)], rest[:min(len(rest), 900)]}, {rest[:min(len(rest), 50)], ""}})
		// The same bytes as a bundle, as what is sealed in a directory, as the
		// entries of one, and as the name of a file or as what it contains.
		for _, s := range []string{
			s,
			s + rest,
			frame(s) + rest,
			headed(s) + rest,
			headed(number(n)+s) + rest,
			file(of("a", "1"), part{"b", n, rest}, part{"c", len(rest), s}),
			file(of("a", "1"), part{s, len(rest), sealed(rest)}, of("c", "1")),
		} {
			check(t, s)
			checkRead(t, s, from, to)
			if 0 <= from && from <= to && to <= len(s) && s != "" {
				checkSplits(t, s, []int{0, from, to, len(s)})
			}
		}
	})
}
