package chest_test

import (
	"bytes"
	"encoding/binary"
	"hash/crc32"
	"math"
	"math/rand"
	"slices"
	"strings"
	"testing"

	"threshing/api"
	"threshing/chest"
	"threshing/field"
	"threshing/press"
)

// none is the file without records: the index, its size and the end.
const none = "\x00\x8d\xef\x02\xd2\x05\x00\x00\x00CHST"

// part is what is stored as a block, whatever it is, and the number of records
// that the index states for it.
type part struct {
	s string
	n int
}

// begun is the records of a block, and the offset at which it begins.
type begun struct {
	at int
	l  []api.Rec
}

// long returns a string of n bytes, the last of which differs from the others.
func long(n int) string {
	if n == 0 {
		return ""
	}
	return strings.Repeat("x", n-1) + "y"
}

// number returns the varint of n.
func number(n int) string { return string(binary.AppendUvarint(nil, uint64(n))) }

// frame returns the frame of s.
func frame(s string) string { return number(len(s)) + s }

// encoded returns the encoding of records, whatever they are.
func encoded(l ...api.Rec) string {
	s := number(len(l))
	for _, r := range l {
		s += number(len(r))
		for _, f := range r {
			s += frame(f)
		}
	}
	return s
}

// sealed returns s followed by its checksum.
func sealed(s string) string {
	return string(binary.LittleEndian.AppendUint32([]byte(s), crc32.ChecksumIEEE([]byte(s))))
}

// literal returns s compressed without a match, by tokens of n bytes.
func literal(s string, n int) string {
	out := number(len(s))
	for len(s) > 0 {
		k := min(n, len(s))
		out += number(2*k-2) + s[:k]
		s = s[k:]
	}
	return out
}

// pressed returns s compressed; more than 20000 bytes, which Press refuses, are
// compressed in two parts.
func pressed(s string) string {
	tokens := ""
	for part := range slices.Chunk([]byte(s), 20000) {
		b, _ := press.Press(part)
		tokens += strings.TrimPrefix(string(b), number(len(part)))
	}
	return number(len(s)) + tokens
}

// block returns the block of the records, whatever they are.
func block(l ...api.Rec) string { return sealed(pressed(encoded(l...))) }

// of returns the block of the records, which the index tells of as it should.
func of(l ...api.Rec) part { return part{block(l...), len(l)} }

// index returns the index that tells of the parts.
func index(l ...part) string {
	s := number(len(l))
	for _, p := range l {
		s += number(len(p.s)) + number(p.n)
	}
	return sealed(s)
}

// stored returns what is stored for the parts before the index.
func stored(l ...part) string {
	s := ""
	for _, p := range l {
		s += p.s
	}
	return s
}

// ended returns an index as the end of a file.
func ended(index string) string {
	return index + string(binary.LittleEndian.AppendUint32(nil, uint32(len(index)))) + "CHST"
}

// file returns the file that has the parts and their index.
func file(l ...part) string { return stored(l...) + ended(index(l...)) }

// wantWrite writes records by the words of the document.
func wantWrite(l []api.Rec) (string, api.Errno) {
	var parts []part
	if len(l) > 4000 {
		return "", api.ErrDomain
	}
	for _, r := range l {
		if len(r) > 50 || slices.ContainsFunc(r, func(s string) bool { return len(s) > 1000 }) {
			return "", api.ErrDomain
		}
	}
	for at := 0; at < len(l); at += 4 {
		r := l[at:min(at+4, len(l))]
		if len(encoded(r...)) > 20000 || len(block(r...)) > 20000 {
			return "", api.ErrDomain
		}
		parts = append(parts, of(r...))
	}
	return file(parts...), api.OK
}

// wantOpen returns what was sealed.
func wantOpen(s string) (string, bool) {
	if len(s) < 4 || sealed(s[:len(s)-4]) != s {
		return "", false
	}
	return s[:len(s)-4], true
}

// wantNumbers returns the numbers of which s is the varints.
func wantNumbers(s string) ([]uint64, bool) {
	var l []uint64
	for s != "" {
		n, size := binary.Uvarint([]byte(s))
		if size <= 0 || len(binary.AppendUvarint(nil, n)) != size {
			return nil, false
		}
		l = append(l, n)
		s = s[size:]
	}
	return l, true
}

// wantIndex returns the size and the number of records of each block that the
// index of a file tells of, or false if that is not valid.
func wantIndex(s string) ([][2]int, bool) {
	s, ok := strings.CutSuffix(s, "CHST")
	if !ok || len(s) < 4 {
		return nil, false
	}
	s, size := s[:len(s)-4], int(binary.LittleEndian.Uint32([]byte(s[len(s)-4:])))
	if size > len(s) {
		return nil, false
	}
	before := len(s) - size
	s, ok = wantOpen(s[before:])
	if !ok {
		return nil, false
	}
	all, ok := wantNumbers(s)
	if !ok || len(all) == 0 || all[0] > 5000 || len(all) != 1+2*int(all[0]) {
		return nil, false
	}
	var l [][2]int
	sum := 0
	for two := range slices.Chunk(all[1:], 2) {
		if two[0] == 0 || two[0] > 20000 || two[1] == 0 || two[1] > 5000 {
			return nil, false
		}
		sum += int(two[0])
		l = append(l, [2]int{int(two[0]), int(two[1])})
	}
	return l, sum == before
}

// wantBlock returns the n records of a block.
func wantBlock(s string, n int) ([]api.Rec, bool) {
	s, ok := wantOpen(s)
	if !ok {
		return nil, false
	}
	b, e := press.Expand([]byte(s), 20000)
	if e != api.OK {
		return nil, false
	}
	l, e := field.Decode(b)
	return l, e == api.OK && len(l) == n
}

// wantScan returns the blocks of the valid part of a file, the number of its
// bytes, and its error.
func wantScan(s string) ([]begun, int, api.Errno) {
	index, ok := wantIndex(s)
	if !ok {
		return nil, 0, api.ErrForm
	}
	var l []begun
	at := 0
	for _, x := range index {
		r, ok := wantBlock(s[at:at+x[0]], x[1])
		if !ok {
			return l, at, api.ErrForm
		}
		l = append(l, begun{at, r})
		at += x[0]
	}
	return l, len(s), api.OK
}

// all returns the records of a list.
func all(l []begun) []api.Rec {
	var r []api.Rec
	for _, p := range l {
		r = append(r, p.l...)
	}
	return r
}

// records returns the records of pieces.
func records(l []api.Piece) []api.Rec {
	var r []api.Rec
	for _, p := range l {
		r = append(r, p.R...)
	}
	return r
}

// same reports whether two lists of records are equal.
func same(a, b []api.Rec) bool {
	return slices.EqualFunc(a, b, func(r, s api.Rec) bool { return slices.Equal(r, s) })
}

// samePieces reports whether pieces are those of a list.
func samePieces(l []api.Piece, want []begun) bool {
	return slices.EqualFunc(l, want, func(p api.Piece, w begun) bool {
		return p.At == w.at && same(p.R, w.l)
	})
}

// checkIndex compares Index.
func checkIndex(t *testing.T, s string) {
	t.Helper()
	at, counts, e := chest.Index([]byte(s))
	index, ok := wantIndex(s)
	if !ok {
		if len(at) != 0 || len(counts) != 0 || e != api.ErrForm {
			t.Errorf("Index(%.80q) = %v, %v, %d; want an error", s, at, counts, e)
		}
		return
	}
	var wantAt, wantCounts []int
	sum := 0
	for _, x := range index {
		wantAt = append(wantAt, sum)
		wantCounts = append(wantCounts, x[1])
		sum += x[0]
	}
	if !slices.Equal(at, wantAt) || !slices.Equal(counts, wantCounts) || e != api.OK {
		t.Errorf("Index(%.80q) = %v, %v, %d; want %v, %v", s, at, counts, e, wantAt, wantCounts)
	}
}

// checkScan compares the index and the pieces of a file, and whether it is canonical.
func checkScan(t *testing.T, s string) {
	t.Helper()
	checkIndex(t, s)
	l, n, e := chest.Scan([]byte(s))
	want, wantN, wantE := wantScan(s)
	if !samePieces(l, want) || n != wantN || e != wantE {
		t.Errorf("Scan(%.80q) = %.80q, %d, %d; want %.80q, %d, %d", s, records(l), n, e, all(want), wantN, wantE)
	}
	canonical := false
	if wantE == api.OK {
		written, e := wantWrite(all(want))
		canonical = e == api.OK && written == s
	}
	if chest.Canon([]byte(s)) != canonical {
		t.Errorf("Canon(%.80q) is not %t", s, canonical)
	}
}

// checkRead compares Read for one split. The list and the number are those of Scan.
func checkRead(t *testing.T, s string, from, to int, l []begun, good int) {
	t.Helper()
	got, e := chest.Read([]byte(s), from, to, good)
	var want []api.Rec
	wantE := api.OK
	if from < 0 || from > to || to > len(s) {
		wantE = api.ErrArg
	} else {
		for _, p := range l {
			if p.at >= from && p.at < to {
				want = append(want, p.l...)
			}
		}
		if good < to {
			wantE = api.ErrForm
		}
	}
	if !same(got, want) || e != wantE {
		t.Errorf("Read(%.80q, %d, %d) = %.80q, %d; want %.80q, %d", s, from, to, got, e, want, wantE)
	}
}

// checkSplits compares what is read from the splits between the cuts with the
// valid part. The cuts ascend from 0 to the end of a file that is not empty.
func checkSplits(t *testing.T, b []byte, cuts []int) {
	t.Helper()
	pieces, good, wantE := chest.Scan(b)
	var l []api.Rec
	failed := false
	for i := 1; i < len(cuts); i++ {
		r, e := chest.Read(b, cuts[i-1], cuts[i], good)
		if e != api.OK && e != api.ErrForm {
			t.Fatalf("Read(%.80q, %d, %d): %d", b, cuts[i-1], cuts[i], e)
		}
		l = append(l, r...)
		failed = failed || e != api.OK
	}
	if want := records(pieces); !same(l, want) {
		t.Errorf("%.80q split at %d gives %.80q; want %.80q", b, cuts, l, want)
	}
	if failed != (wantE != api.OK) {
		t.Errorf("%.80q split at %d reports an error: %t; that of the file is %d", b, cuts, failed, wantE)
	}
}

// checkWrite compares Write, and reads what it returns.
func checkWrite(t *testing.T, l []api.Rec) {
	t.Helper()
	b, e := chest.Write(l)
	want, wantE := wantWrite(l)
	if string(b) != want || e != wantE {
		t.Fatalf("Write(%.80q) = %.80q, %d; want %.80q, %d", l, b, e, want, wantE)
	}
	if e != api.OK {
		return
	}
	pieces, n, e := chest.Scan(b)
	if back := records(pieces); !same(back, l) || n != len(b) || e != api.OK {
		t.Errorf("Scan(Write(%.80q)) = %.80q, %d, %d", l, back, n, e)
	}
	if back, e := chest.Read(b, 0, len(b), len(b)); !same(back, l) || e != api.OK {
		t.Errorf("Read(Write(%.80q)) = %.80q, %d", l, back, e)
	}
	if !chest.Canon(b) {
		t.Errorf("Write(%.80q) is not canonical", l)
	}
}

// checkRewrite writes the records of the valid part of a file, which gives the
// file if and only if it is canonical.
func checkRewrite(t *testing.T, s string) {
	t.Helper()
	pieces, _, _ := chest.Scan([]byte(s))
	b, e := chest.Write(records(pieces))
	if (e == api.OK && string(b) == s) != chest.Canon([]byte(s)) {
		t.Errorf("the records of %.80q are written as %.80q, %d; Canon is %t", s, b, e, chest.Canon([]byte(s)))
	}
}

// strung calls check with every string of at most most of the parts.
func strung(parts []string, most int, check func(s string)) {
	listed(parts, most, func(l []string) { check(strings.Join(l, "")) })
}

// listed calls check with every list of at most most of the parts.
func listed[T any](parts []T, most int, check func(l []T)) {
	level := [][]T{nil}
	for range most + 1 {
		var next [][]T
		for _, l := range level {
			check(l)
			for _, p := range parts {
				next = append(next, append(slices.Clone(l), p))
			}
		}
		level = next
	}
}

// randomCuts returns k ascending offsets between 0 and n, some of them equal.
func randomCuts(r *rand.Rand, n, k int) []int {
	cuts := []int{0, n}
	for range k {
		cuts = append(cuts, r.Intn(n+1))
	}
	slices.Sort(cuts)
	return cuts
}

// randomBytes returns n bytes, in which no four bytes are repeated.
func randomBytes(r *rand.Rand, n int) string {
	b := make([]byte, n)
	r.Read(b)
	return string(b)
}

// randomRecords returns n records, with few and short fields in most cases.
func randomRecords(r *rand.Rand, n int) []api.Rec {
	l := make([]api.Rec, n)
	for i := range l {
		fields := r.Intn(4)
		if r.Intn(30) == 0 {
			fields = 48 + r.Intn(3)
		}
		l[i] = make(api.Rec, fields)
		for k := range l[i] {
			switch r.Intn(20) {
			case 0:
				l[i][k] = long(r.Intn(200))
			case 1:
				l[i][k] = randomBytes(r, r.Intn(200))
			default:
				l[i][k] = strings.Repeat(randomBytes(r, r.Intn(4)), r.Intn(3))
			}
		}
	}
	return l
}

// randomParts returns the records of a list in blocks of any sizes, some of
// which are compressed in another way than that of the document.
func randomParts(r *rand.Rand, l []api.Rec) []part {
	var parts []part
	most := 1 + r.Intn(8)
	for len(l) > 0 {
		n := min(1+r.Intn(most), len(l))
		p := of(l[:n]...)
		if r.Intn(4) == 0 {
			p.s = sealed(literal(encoded(l[:n]...), 1+r.Intn(100)))
		}
		parts = append(parts, p)
		l = l[n:]
	}
	return parts
}

// damagedFile returns the file of a list, and in some cases with one of the
// faults, or with a byte changed, removed or inserted.
func damagedFile(r *rand.Rand, l []api.Rec, faults []part) []byte {
	parts := randomParts(r, l)
	if r.Intn(3) == 0 {
		parts = slices.Insert(parts, r.Intn(len(parts)+1), faults[r.Intn(len(faults))])
	}
	b := []byte(file(parts...))
	at := r.Intn(len(b))
	switch r.Intn(12) {
	case 0:
		b[at] ^= 1 << r.Intn(8)
	case 1:
		b = slices.Delete(b, at, at+1)
	case 2:
		b = slices.Insert(b, at, byte(r.Intn(256)))
	case 3:
		b = b[:at]
	case 4:
		b = b[at:]
	}
	return b
}

// faults returns parts that are no blocks of valid files, although the index
// that tells of them is valid.
func faults() []part {
	a, b := api.Rec{"ab", "c"}, api.Rec{}
	ok := block(a, b)
	plain := encoded(a, b)
	sum := len(ok) - 4
	large := nineteen(20001)
	l := []part{
		// What Open rejects.
		{"a", 1}, {"\x00", 1}, {"\x00\x00\x00", 1}, {"\x00\x00\x00\x01", 1},
		{ok[:len(ok)-1], 2}, {ok + "\x00", 2}, {ok[1:], 2}, {"\x00" + ok, 2}, {ok[:sum], 2}, {ok[:sum] + "\x00\x00\x00\x00", 2},
		{strings.Replace(ok, "ab", "ba", 1), 2}, {ok[:sum] + string([]byte{ok[sum+3], ok[sum+2], ok[sum+1], ok[sum]}), 2},
		{plain, 2}, {pressed(plain), 2}, {ok + ok, 2}, {ok + ok, 4}, {none, 1},
		// What Expand rejects.
		{sealed(""), 1}, {"\x00\x00\x00\x00", 1}, {sealed("\x80"), 1}, {sealed("\x80\x00"), 1}, {sealed(strings.Repeat("\xff", 10)), 1},
		{sealed(pressed(plain) + "\x00"), 2}, {sealed(pressed(plain) + "\x00a"), 2}, {sealed(pressed(plain)[:sum-1]), 2},
		{sealed(number(len(plain)+1) + pressed(plain)[1:]), 2}, {sealed(number(len(plain)-1) + pressed(plain)[1:]), 2},
		{sealed("\x05\x01\x01"), 1}, {sealed("\x06\x00\x01\x03\x02"), 1}, {sealed("\x06\x00\x01\x03\x00"), 1},
		{sealed(pressed(encoded(large))), 1}, {sealed(number(20001)), 1}, {sealed(number(math.MaxInt)), 1}, {sealed(plain), 2},
		// What Decode rejects.
		{sealed("\x00"), 1}, {sealed(pressed("\x01")), 1}, {sealed(pressed("\x80")), 1}, {sealed(pressed("\x81\x00\x00")), 1},
		{sealed(pressed(plain + "\x00")), 2}, {sealed(pressed(plain[:len(plain)-1])), 2}, {sealed(pressed("\x03" + plain[1:])), 3},
		{block(make(api.Rec, 51)), 1}, {block(api.Rec{long(1001)}), 1}, {block(a, b, make(api.Rec, 51)), 3}, {sealed(pressed(pressed(plain))), 2},
		{sealed(pressed(strings.Repeat("\xff", 9) + "\x01")), 1}, {sealed(pressed(encoded(make([]api.Rec, 5001)...))), 5000},
		// What has another number of records.
		{block(), 1}, {block(a), 2}, {block(a, b), 1}, {block(a, b), 3}, {block(a, b), 5000}, {block(a, b, a), 2}, {block(b), 128},
	}
	return l
}

// nineteen returns a record whose encoding as the only one has n bytes, from
// 19170 to 20042: 19 fields of 1000 bytes, and another one.
func nineteen(n int) api.Rec {
	return append(slices.Repeat(api.Rec{long(1000)}, 19), long(n-19042))
}

// rejected returns one fault of each kind.
func rejected() []part {
	return []part{{block()[1:], 1}, {sealed("\x02\x00\x00"), 1}, {sealed(pressed("\x01")), 1}, {block(api.Rec{"a"}), 2}}
}

// P8.1: H1

func TestScan(t *testing.T) {
	a, b, c := api.Rec{"a", "1"}, api.Rec{}, api.Rec{"", "CHST", strings.Repeat("abc", 300)}
	one, two, three := of(a), of(b, a), of(c, c, b)
	n1, n2, n3 := len(one.s), len(two.s), len(three.s)
	other := part{sealed(literal(encoded(c, c, b), 7)), 3}
	for _, x := range []struct {
		l    []part
		want []begun
	}{
		{nil, nil},
		{[]part{one}, []begun{{0, []api.Rec{a}}}},
		{[]part{of(b)}, []begun{{0, []api.Rec{b}}}},
		{[]part{one, one}, []begun{{0, []api.Rec{a}}, {n1, []api.Rec{a}}}},
		{[]part{two, one}, []begun{{0, []api.Rec{b, a}}, {n2, []api.Rec{a}}}},
		{[]part{three, two, one}, []begun{{0, []api.Rec{c, c, b}}, {n3, []api.Rec{b, a}}, {n3 + n2, []api.Rec{a}}}},
		// However a block is compressed.
		{[]part{other, one}, []begun{{0, []api.Rec{c, c, b}}, {len(other.s), []api.Rec{a}}}},
		{[]part{of(make([]api.Rec, 5000)...), one}, []begun{{0, make([]api.Rec, 5000)}, {len(block(make([]api.Rec, 5000)...)), []api.Rec{a}}}},
		{[]part{of(nineteen(20000)), one}, []begun{{0, []api.Rec{nineteen(20000)}}, {len(block(nineteen(20000))), []api.Rec{a}}}},
		{[]part{of(make(api.Rec, 50))}, []begun{{0, []api.Rec{make(api.Rec, 50)}}}},
	} {
		s := file(x.l...)
		l, n, e := chest.Scan([]byte(s))
		if !samePieces(l, x.want) || n != len(s) || e != api.OK {
			t.Errorf("Scan(%.80q) = %.80q, %d, %d; want %.80q", s, records(l), n, e, all(x.want))
		}
		checkScan(t, s)
	}
}

func TestScanOfBytes(t *testing.T) {
	// A file written out byte by byte: two records, one with the fields a and
	// bbbbb (four of its bytes are a match), and one without fields.
	s := "\x0b" + "\x0a\x02\x02\x01a\x05b" + "\x01\x01" + "\x00\x00" + "\x5d\x3d\xc1\x29" +
		"\x01\x10\x02\x58\xc0\x4f\x5a" + "\x07\x00\x00\x00" + "CHST"
	want := []api.Rec{{"a", "bbbbb"}, {}}
	l, n, e := chest.Scan([]byte(s))
	if !samePieces(l, []begun{{0, want}}) || n != len(s) || e != api.OK {
		t.Errorf("Scan(%q) = %v, %d, %d", s, l, n, e)
	}
	if b, e := chest.Write(want); string(b) != s || e != api.OK {
		t.Errorf("Write = %q, %d; want %q", b, e, s)
	}
}

func TestFileWithoutRecords(t *testing.T) {
	for _, l := range [][]api.Rec{nil, {}} {
		if b, e := chest.Write(l); string(b) != none || len(b) != 13 || e != api.OK {
			t.Errorf("Write of no records = %q, %d", b, e)
		}
	}
	if l, n, e := chest.Scan([]byte(none)); len(l) != 0 || n != 13 || e != api.OK {
		t.Errorf("Scan(%q) = %v, %d, %d", none, l, n, e)
	}
	if at, counts, e := chest.Index([]byte(none)); len(at) != 0 || len(counts) != 0 || e != api.OK {
		t.Errorf("Index(%q) = %v, %v, %d", none, at, counts, e)
	}
	if !chest.Canon([]byte(none)) {
		t.Errorf("%q is not canonical", none)
	}
}

// invalid returns files whose index is not valid.
func invalid() []string {
	one := of(api.Rec{"a", "1"})
	s := file(one, one)
	end := ended(index(one, one))
	n := len(one.s)
	l := []string{
		// The end, or a part of it, is missing, or something else.
		"C", "CHST", "CHS", "HST", "\x00CHST", "\x00\x00\x00CHST", "\x00\x00\x00\x00", "CHSTCHST", strings.Repeat("\x00", 13),
		s[:len(s)-1], s + "\x00", s + "T", s + "CHST", s[:len(s)-4], s[:len(s)-4] + "chst", s[:len(s)-4] + "TSHC", s[:len(s)-4] + "CHST\x00",
		none[:12], none[:12] + "t", none[:9], strings.Repeat("\x00", 9) + "CHST",
		// The size of the index, the lowest byte of which is the first.
		none[:5] + "\x04\x00\x00\x00CHST", none[:5] + "\x06\x00\x00\x00CHST", none[:5] + "\x00\x00\x00\x00CHST", none[:5] + "\x00\x00\x00\x05CHST",
		none[:5] + "\x05\x01\x00\x00CHST", none[:5] + "\x05\x00\x01\x00CHST", none[:5] + "\x05\x00\x00\x01CHST", none[:5] + "\x05\x00\x00\x80CHST",
		none[:5] + "\xff\xff\xff\xffCHST", none[:5] + "\xff\xff\xff\x7fCHST", none[:5] + "\x00\x00\x00\x80CHST", none[:5] + "\x05\x00\x00CHST", none[:5] + "\x05CHST",
		one.s + none[:5] + "\x04\x00\x00\x00CHST", one.s + none[:5] + "\x06\x00\x00\x00CHST", one.s + none[:5] + number(5+n) + "\x00\x00\x00CHST",
		"\x00\x00\x00\x00CHST", "\x01\x00\x00\x00CHST", "\x04\x00\x00\x00CHST", "\x08\x00\x00\x00CHST",
		// What Open rejects.
		ended(""), ended("\x00"), ended("\x00\x00\x00"), ended("\x00\x00\x00\x00\x00"), ended("\x00\xd2\x02\xef\x8d"), one.s + ended(index(one)[1:]), ended("\x01" + none[1:5]),
		// What does not state the numbers of blocks of so many bytes.
		ended(sealed("")), ended(sealed("\x01")), ended(sealed("\x00\x00")), ended(sealed("\x00\x01\x01")), ended(sealed("\x80")), ended(sealed("\x80\x00")),
		ended(sealed(number(5001))), ended(sealed(strings.Repeat("\xff", 9) + "\x01")), ended(sealed(strings.Repeat("\xff", 10))),
		one.s + none, one.s + end, one.s + one.s + one.s + end, one.s + one.s[1:] + end, s[1:], "\x00" + s, s[:n] + s[n+1:], s + s, s + none, none + none,
		none + ended(index(one)), file(one, part{}, one), file(part{"", 1}), file(part{"", 1}, one), file(one, part{"", 1}), file(part{one.s, 0}), file(one, part{one.s, 0}),
		file(part{one.s, 5001}), file(one, part{one.s, 5001}), file(part{one.s, 20000}), file(part{one.s, math.MaxInt}), file(part{one.s, math.MinInt}), file(part{one.s, -1}),
		file(part{strings.Repeat("a", 20001), 1}), file(one, part{strings.Repeat("a", 20001), 1}), file(part{sealed(literal(encoded(nineteen(19700)), 64)) + long(20000), 1}),
		file(slices.Repeat([]part{of(api.Rec{})}, 5001)...),
	}
	for _, x := range []string{
		"\x01" + number(n), "\x01" + number(n) + "\x01\x00", "\x01" + number(n) + "\x01\x01", "\x02" + number(n) + "\x01", "\x00" + number(n) + "\x01",
		"\x01" + number(n-1) + "\x01", "\x01" + number(n+1) + "\x01", "\x01" + number(2*n) + "\x01", "\x01\x01" + number(n), "\x02" + number(n) + "\x01\x01\x01",
		"\x02" + number(n) + "\x01\x00\x01", "\x02" + number(n-1) + "\x01\x01\x00", "\x01" + number(n) + "\x81\x00", "\x01" + number(n) + "\x80", "\x81\x00" + number(n) + "\x01",
		"\x01" + string([]byte{byte(n | 128), 0}) + "\x01", "\x01" + strings.Repeat("\xff", 9) + "\x01\x01", "\x01" + number(n) + strings.Repeat("\xff", 9) + "\x01",
		"\x02" + number(n+1) + "\x01" + strings.Repeat("\xff", 9) + "\x01\x01", "\x02" + number(n-1) + "\x01\x01", "\x01" + number(n) + "\x01\x00\x00",
	} {
		l = append(l, one.s+ended(sealed(x)))
	}
	return l
}

func TestScanOfInvalidIndex(t *testing.T) {
	for _, s := range invalid() {
		if l, n, e := chest.Scan([]byte(s)); len(l) != 0 || n != 0 || e != api.ErrForm {
			t.Errorf("Scan(%.80q) = %v, %d, %d", s, l, n, e)
		}
		if at, counts, e := chest.Index([]byte(s)); len(at) != 0 || len(counts) != 0 || e != api.ErrForm {
			t.Errorf("Index(%.80q) = %v, %v, %d", s, at, counts, e)
		}
		if chest.Canon([]byte(s)) {
			t.Errorf("%.80q is canonical", s)
		}
		checkScan(t, s)
	}
	// A file ends with CHST, so that there is none without a byte.
	for _, b := range [][]byte{nil, {}} {
		if l, n, e := chest.Scan(b); len(l) != 0 || n != 0 || e != api.ErrForm {
			t.Errorf("Scan of no bytes: %v, %d, %d", l, n, e)
		}
		if at, counts, e := chest.Index(b); len(at) != 0 || len(counts) != 0 || e != api.ErrForm {
			t.Errorf("Index of no bytes: %v, %v, %d", at, counts, e)
		}
	}
}

func TestScanErrors(t *testing.T) {
	a, b := api.Rec{"a", "1"}, api.Rec{"", strings.Repeat("xyz", 90)}
	for _, before := range [][]part{nil, {of(a)}, {of(b, a), of(a), of(b, b, b, b)}} {
		want, good, e := wantScan(file(before...))
		if e != api.OK {
			t.Fatalf("%v is not valid", before)
		}
		good = len(stored(before...))
		for _, x := range faults() {
			for _, after := range [][]part{nil, {of(a)}, {of(a), of(b, a)}, rejected()} {
				s := file(slices.Concat(before, []part{x}, after)...)
				l, n, e := chest.Scan([]byte(s))
				if !samePieces(l, want) || n != good || e != api.ErrForm {
					t.Errorf("Scan(%.80q) = %.80q, %d, %d; want %d", s, records(l), n, e, good)
				}
				// The index is valid all the same.
				if at, counts, e := chest.Index([]byte(s)); len(at) != len(before)+1+len(after) || at[len(before)] != good || counts[len(before)] != x.n || e != api.OK {
					t.Errorf("Index(%.80q) = %v, %v, %d", s, at, counts, e)
				}
				checkScan(t, s)
			}
		}
	}
}

func TestScanOfTruncatedFiles(t *testing.T) {
	s := file(of(api.Rec{"a"}), of(api.Rec{}, api.Rec{"CHST"}), of(api.Rec{long(300)}))
	for n := 1; n < len(s); n++ {
		for _, x := range []string{s[:n], s[n:]} {
			if l, got, e := chest.Scan([]byte(x)); len(l) != 0 || got != 0 || e != api.ErrForm {
				t.Errorf("Scan(%.80q) = %v, %d, %d", x, l, got, e)
			}
			checkScan(t, x)
		}
	}
}

func TestScanOfChangedBytes(t *testing.T) {
	// Whichever byte of a block is changed, that block is not valid any more.
	a, b, c := api.Rec{"a", "1"}, api.Rec{"", "CHST"}, api.Rec{}
	first, second, third := of(a), of(b, c, b), of(c)
	s := []byte(file(first, second, third))
	starts := []int{0, len(first.s), len(first.s + second.s), len(first.s + second.s + third.s)}
	for i := range s {
		blocks := 2
		for blocks >= 0 && starts[blocks] > i {
			blocks--
		}
		good := starts[blocks]
		if i >= starts[3] {
			// Whichever of the other bytes is changed, the index is not valid.
			blocks, good = 0, 0
		}
		old := s[i]
		for x := range 256 {
			if s[i] = byte(x); s[i] == old {
				continue
			}
			if l, n, e := chest.Scan(s); len(l) != blocks || n != good || e != api.ErrForm {
				t.Errorf("byte %d changed to %d: %d pieces, %d, %d; want %d, %d", i, x, len(l), n, e, blocks, good)
			}
		}
		s[i] = old
	}
}

func TestWriteBytes(t *testing.T) {
	a, b, c := api.Rec{"a", "1"}, api.Rec{}, api.Rec{"", "CHST", strings.Repeat("abc", 300)}
	for _, x := range []struct {
		l     []api.Rec
		parts []part
	}{
		{[]api.Rec{a}, []part{of(a)}},
		{[]api.Rec{b}, []part{of(b)}},
		{[]api.Rec{nil}, []part{of(b)}},
		{[]api.Rec{a, b}, []part{of(a, b)}},
		{[]api.Rec{a, b, c}, []part{of(a, b, c)}},
		{[]api.Rec{a, b, c, a}, []part{of(a, b, c, a)}},
		{[]api.Rec{a, b, c, a, b}, []part{of(a, b, c, a), of(b)}},
		{[]api.Rec{c, c, c, c, c, c, c}, []part{of(c, c, c, c), of(c, c, c)}},
		{[]api.Rec{a, b, c, c, c, c, b, a}, []part{of(a, b, c, c), of(c, c, b, a)}},
		{slices.Repeat([]api.Rec{a}, 4000), slices.Repeat([]part{of(a, a, a, a)}, 1000)},
		{slices.Repeat([]api.Rec{a}, 3999), append(slices.Repeat([]part{of(a, a, a, a)}, 999), of(a, a, a))},
		{[]api.Rec{make(api.Rec, 50)}, []part{of(make(api.Rec, 50))}},
		{[]api.Rec{{long(1000)}}, []part{of(api.Rec{long(1000)})}},
	} {
		b, e := chest.Write(x.l)
		if want := file(x.parts...); string(b) != want || e != api.OK {
			t.Errorf("Write(%.80q) = %.80q, %d; want %.80q", x.l, b, e, want)
		}
	}
}

func TestWriteErrors(t *testing.T) {
	ok := api.Rec{"a", "b"}
	for _, r := range []api.Rec{
		make(api.Rec, 51), make(api.Rec, 5000), {long(1001)}, {"", long(1001)}, {long(1001), ""}, {long(100000)}, {strings.Repeat("é", 501)},
		append(make(api.Rec, 49), long(1001)), nineteen(20001), nineteen(20042), slices.Repeat(api.Rec{long(1000)}, 50),
	} {
		for n := range 9 {
			for at := range n + 1 {
				l := slices.Insert(slices.Repeat([]api.Rec{ok}, n), at, r)
				if b, e := chest.Write(l); len(b) != 0 || e != api.ErrDomain {
					t.Errorf("Write(%.80q) = %.80q, %d", l, b, e)
				}
			}
		}
		if b, e := chest.Write(append(slices.Repeat([]api.Rec{ok}, 3998), r)); len(b) != 0 || e != api.ErrDomain {
			t.Errorf("Write of 3998 records and %.80q: %.80q, %d", r, b, e)
		}
	}
	for _, n := range []int{4001, 4004, 5000, 5001, 20000} {
		if b, e := chest.Write(make([]api.Rec, n)); len(b) != 0 || e != api.ErrDomain {
			t.Errorf("Write of %d records: %.80q, %d", n, b, e)
		}
		checkWrite(t, make([]api.Rec, n))
	}
	for _, n := range []int{3996, 3997, 4000} {
		checkWrite(t, make([]api.Rec, n))
	}
}

func TestWriteOfLongBlocks(t *testing.T) {
	// The encoded records of a block have at most 20000 bytes.
	for n := 19990; n <= 20010; n++ {
		want := api.OK
		if n > 20000 {
			want = api.ErrDomain
		}
		a, b := nineteen(n), nineteen(n-3)
		for _, l := range [][]api.Rec{{a}, {b, {}, {}, {}}, {{}, {}, b, {}}, {{}, {}, {}, b, a}, {b, {}, {}, {}, b, {}, {}, {}}} {
			if _, e := chest.Write(l); e != want {
				t.Errorf("Write of %d encoded bytes in each block: %d", n, e)
			}
			checkWrite(t, l)
		}
		// Records are encoded block by block.
		if _, e := chest.Write([]api.Rec{b, {}, {}, {}, b}); e != want {
			t.Errorf("Write of a block of %d encoded bytes, and one of fewer: %d", n, e)
		}
	}
}

// spread returns a record whose encoding as the only one has n bytes, which
// cannot be compressed.
func spread(r *rand.Rand, n int) api.Rec {
	var x api.Rec
	for range 19 {
		x = append(x, randomBytes(r, 1000))
	}
	return append(x, randomBytes(r, n-19042))
}

func TestWriteOfBlocksThatGrow(t *testing.T) {
	// A block has at most 20000 bytes, even if its encoded records have fewer.
	r := rand.New(rand.NewSource(1))
	for n := 19680; n <= 19690; n++ {
		x := spread(r, n)
		// As many bytes, one in 64 more, the number of bytes, and the checksum.
		size := n + (n+63)/64 + 3 + 4
		if len(block(x)) != size {
			t.Fatalf("%d bytes are a block of %d; want %d", n, len(block(x)), size)
		}
		want := api.OK
		if size > 20000 {
			want = api.ErrDomain
		}
		for _, l := range [][]api.Rec{{x}, {{"a"}, {}, {}, {}, x}, {{}, {}, {}, {}, {}, {}, {}, {}, x}} {
			if b, e := chest.Write(l); (len(b) == 0) != (e != api.OK) || e != want {
				t.Errorf("Write of a block of %d bytes: %d", size, e)
			}
			checkWrite(t, l)
		}
	}
	if n := len(block(spread(r, 19685))); n != 20000 {
		t.Errorf("the largest block has %d bytes", n)
	}
}

func TestCanon(t *testing.T) {
	a, b, c := api.Rec{"a", "1"}, api.Rec{}, api.Rec{"", "CHST", strings.Repeat("abc", 30)}
	four := of(a, b, c, a)
	for _, x := range []struct {
		s    string
		want bool
	}{
		{none, true},
		{file(of(a)), true},
		{file(of(b)), true},
		{file(of(a, c)), true},
		{file(of(a, b, c)), true},
		{file(four), true},
		{file(four, of(b)), true},
		{file(four, of(b, c, a)), true},
		{file(four, four), true},
		{file(slices.Repeat([]part{four}, 1000)...), true},
		{file(append(slices.Repeat([]part{four}, 999), of(c))...), true},
		{file(of(nineteen(20000))), true},
		// Blocks of other sizes.
		{file(of(a), of(a)), false},
		{file(of(a), four), false},
		{file(of(a, b, c), of(a)), false},
		{file(of(a, b, c), four), false},
		{file(four, of(a), four), false},
		{file(four, of(a, b), of(c)), false},
		{file(of(a, b, c, a, b)), false},
		{file(four, of(a, b, c, a, b)), false},
		{file(of(a, b, c, a, a, b, c, a)), false},
		{file(of(make([]api.Rec, 5000)...)), false},
		// More records than Write accepts.
		{file(slices.Repeat([]part{four}, 1001)...), false},
		{file(append(slices.Repeat([]part{four}, 1000), of(c))...), false},
		{file(slices.Repeat([]part{four}, 5000)...), false},
		// Blocks that are compressed in another way.
		{file(part{sealed(literal(encoded(a, b, c, a), 64)), 4}), false},
		{file(part{sealed(literal(encoded(a), 63)), 1}), true},
		{file(part{sealed(literal(encoded(a), 1)), 1}), false},
		{file(four, part{sealed(literal(encoded(a), 2)), 1}), false},
		// What has an error is not what Write returns.
		{"", false},
		{"CHST", false},
		{file(four)[1:], false},
		{file(four) + "\x00", false},
		{file(part{block(), 1}), false},
		{file(part{block(a), 2}), false},
		{file(part{"a", 1}), false},
		{file(four, part{"a", 1}), false},
		{file(four, part{block(a), 2}), false},
		{four.s + none, false},
	} {
		if chest.Canon([]byte(x.s)) != x.want {
			t.Errorf("Canon(%.80q) is not %t", x.s, x.want)
		}
	}
	if chest.Canon(nil) {
		t.Error("nil is canonical")
	}
}

// P8.1: H2

func TestIndex(t *testing.T) {
	a, b := api.Rec{"a", "1"}, api.Rec{}
	one, two := of(a), of(b, a)
	n1, n2 := len(one.s), len(two.s)
	many := make([]int, 5000)
	ones := slices.Repeat([]int{1}, 5000)
	for i := range many {
		many[i] = i
	}
	for _, x := range []struct {
		l          []part
		at, counts []int
	}{
		{nil, nil, nil},
		{[]part{one}, []int{0}, []int{1}},
		{[]part{two, one}, []int{0, n2}, []int{2, 1}},
		{[]part{one, one, two, one}, []int{0, n1, 2 * n1, 2*n1 + n2}, []int{1, 1, 2, 1}},
		{[]part{of(make([]api.Rec, 300)...), one}, []int{0, len(block(make([]api.Rec, 300)...))}, []int{300, 1}},
		// The blocks themselves are not looked at.
		{[]part{{"a", 1}}, []int{0}, []int{1}},
		{[]part{{"a", 5000}, {long(20000), 4999}, {"b", 1}}, []int{0, 1, 20001}, []int{5000, 4999, 1}},
		{[]part{{long(127), 127}, {long(128), 128}, {long(16384), 1}}, []int{0, 127, 255}, []int{127, 128, 1}},
		{slices.Repeat([]part{{"a", 1}}, 5000), many, ones},
	} {
		s := file(x.l...)
		at, counts, e := chest.Index([]byte(s))
		if !slices.Equal(at, x.at) || !slices.Equal(counts, x.counts) || e != api.OK {
			t.Errorf("Index(%.80q) = %.80v, %.80v, %d; want %.80v, %.80v", s, at, counts, e, x.at, x.counts)
		}
		checkScan(t, s)
	}
}

func TestRead(t *testing.T) {
	a, b, c := api.Rec{"a", "1"}, api.Rec{}, api.Rec{"CHST", long(500)}
	s := file(of(a), of(b, a, b), of(c), of(a, c))
	second := len(block(a))
	third := second + len(block(b, a, b))
	fourth := third + len(block(c))
	end := fourth + len(block(a, c))
	n := len(s)
	for _, x := range []struct {
		from, to int
		want     []api.Rec
	}{
		{0, n, []api.Rec{a, b, a, b, c, a, c}},
		{0, end, []api.Rec{a, b, a, b, c, a, c}},
		{0, 0, nil},
		{0, 1, []api.Rec{a}},
		{1, 1, nil},
		{1, second, nil},
		{1, second + 1, []api.Rec{b, a, b}},
		{1, n, []api.Rec{b, a, b, c, a, c}},
		{0, second, []api.Rec{a}},
		{0, second + 1, []api.Rec{a, b, a, b}},
		{second, second, nil},
		{second, second + 1, []api.Rec{b, a, b}},
		{second, third, []api.Rec{b, a, b}},
		{second + 1, third, nil},
		{second + 1, third + 1, []api.Rec{c}},
		{third - 1, third + 1, []api.Rec{c}},
		{third, fourth, []api.Rec{c}},
		{third, n, []api.Rec{c, a, c}},
		{third + 1, n, []api.Rec{a, c}},
		{fourth - 1, fourth, nil},
		{fourth - 1, fourth + 1, []api.Rec{a, c}},
		{fourth, n - 1, []api.Rec{a, c}},
		{fourth + 1, n, nil},
		{end, n, nil},
		{n - 1, n, nil},
		{n, n, nil},
	} {
		l, e := chest.Read([]byte(s), x.from, x.to, n)
		if !same(l, x.want) || e != api.OK {
			t.Errorf("Read(%d, %d) = %.80q, %d; want %.80q", x.from, x.to, l, e, x.want)
		}
	}
	for from := range 14 {
		for to := from; to < 14; to++ {
			if l, e := chest.Read([]byte(none), from, to, 13); len(l) != 0 || e != api.OK {
				t.Errorf("Read(%d, %d) of a file without records: %q, %d", from, to, l, e)
			}
		}
	}
	if l, e := chest.Read(nil, 0, 0, 0); len(l) != 0 || e != api.OK {
		t.Errorf("Read of no bytes: %q, %d", l, e)
	}
}

func TestReadBeyondValidPart(t *testing.T) {
	a, b := api.Rec{"a", "1"}, api.Rec{"", "CHST"}
	second, good := len(block(a)), len(block(a)+block(b))
	// What follows the error is not read, even if it is a block.
	for _, fault := range rejected() {
		s := file(of(a), of(b), fault, of(a), of(b))
		n := len(s)
		for _, x := range []struct {
			from, to int
			want     []api.Rec
			e        api.Errno
		}{
			{0, 0, nil, api.OK},
			{0, 1, []api.Rec{a}, api.OK},
			{0, good, []api.Rec{a, b}, api.OK},
			{0, good + 1, []api.Rec{a, b}, api.ErrForm},
			{0, n, []api.Rec{a, b}, api.ErrForm},
			{1, good, []api.Rec{b}, api.OK},
			{second, n, []api.Rec{b}, api.ErrForm},
			{second + 1, good, nil, api.OK},
			{second + 1, n, nil, api.ErrForm},
			{good - 1, good, nil, api.OK},
			{good - 1, good + 1, nil, api.ErrForm},
			{good, good, nil, api.OK},
			{good, good + 1, nil, api.ErrForm},
			{good, n, nil, api.ErrForm},
			{good + 1, good + 1, nil, api.ErrForm},
			{good + len(fault.s), n, nil, api.ErrForm},
			{n - 1, n, nil, api.ErrForm},
			{n, n, nil, api.ErrForm},
		} {
			l, e := chest.Read([]byte(s), x.from, x.to, good)
			if !same(l, x.want) || e != x.e {
				t.Errorf("%.80q: Read(%d, %d) = %q, %d; want %q, %d", s, x.from, x.to, l, e, x.want, x.e)
			}
		}
	}
	for _, s := range invalid() {
		if l, e := chest.Read([]byte(s), 0, len(s), 0); len(l) != 0 || e != api.ErrForm {
			t.Errorf("Read of %.80q: %q, %d", s, l, e)
		}
		if l, e := chest.Read([]byte(s), 0, 0, 0); len(l) != 0 || e != api.OK {
			t.Errorf("Read of no bytes of %.80q: %q, %d", s, l, e)
		}
		if l, e := chest.Read([]byte(s), len(s), len(s), 0); len(l) != 0 || e != api.ErrForm {
			t.Errorf("Read at the end of %.80q: %q, %d", s, l, e)
		}
	}
}

func TestReadErrors(t *testing.T) {
	one := of(api.Rec{"a", "b"})
	for _, s := range []string{"", "T", none, file(one), file(one, part{"a", 1}), file(one)[1:]} {
		n := len(s)
		for _, x := range [][3]int{
			{-1, 0, 0}, {-1, n, n}, {-1, -1, 0}, {-2, -1, 0}, {0, -1, 0}, {1, 0, 0}, {n, n - 1, 0}, {n + 1, n, n},
			{0, n + 1, n}, {n, n + 1, n}, {n + 1, n + 1, n}, {n + 1, n + 2, n}, {-1, n + 1, n},
			{0, 0, -1}, {0, n, -1}, {0, 0, n + 1}, {0, n, n + 1}, {n, n, n + 1}, {0, n + 1, n + 1}, {-1, -1, -1},
			{math.MinInt, 0, 0}, {0, math.MinInt, 0}, {math.MinInt, math.MinInt, 0}, {math.MinInt, math.MaxInt, 0},
			{0, math.MaxInt, n}, {math.MaxInt, 0, 0}, {math.MaxInt, math.MaxInt, 0}, {math.MaxInt, math.MinInt, 0},
			{0, n, math.MaxInt}, {0, n, math.MinInt}, {0, 0, math.MinInt}, {math.MaxInt, math.MaxInt, math.MaxInt},
		} {
			if l, e := chest.Read([]byte(s), x[0], x[1], x[2]); len(l) != 0 || e != api.ErrArg {
				t.Errorf("Read(%q, %d, %d, %d) = %q, %d", s, x[0], x[1], x[2], l, e)
			}
		}
	}
}

// parts returns blocks and faults, of which the files of some tests consist.
func parts() []part {
	a, b := api.Rec{"a"}, api.Rec{}
	return append(rejected(), of(b), of(a, b), part{sealed(literal(encoded(b, b), 1)), 2})
}

func TestReadOfOtherArguments(t *testing.T) {
	// Whatever is given as good, Read ends without a panic, and its error is
	// the one that good tells.
	listed(parts(), 2, func(l []part) {
		for _, s := range []string{file(l...), file(l...)[1:]} {
			for from := 0; from <= len(s); from++ {
				for to := from; to <= len(s); to++ {
					for good := 0; good <= len(s); good += 1 + len(s)/9 {
						want := api.OK
						if good < to {
							want = api.ErrForm
						}
						if _, e := chest.Read([]byte(s), from, to, good); e != want {
							t.Errorf("Read(%q, %d, %d, %d): %d", s, from, to, good, e)
						}
					}
				}
			}
		}
	})
}

func TestAllShortIndexes(t *testing.T) {
	one, two := of(api.Rec{"a"}), of(api.Rec{}, api.Rec{"b"})
	n, k := len(one.s), len(two.s)
	for _, s := range []string{"", one.s, one.s + two.s, two.s + one.s + one.s} {
		strung([]string{"\x00", "\x01", "\x02", number(n), number(k), number(n + k), "\x80"}, 5, func(x string) {
			checkScan(t, s+ended(sealed(x)))
		})
	}
	// All ends of few bytes, with the size of the index among them.
	strung([]string{"\x00", "\x05", "\x00\x8d\xef\x02\xd2", "C", "H", "ST"}, 5, func(x string) {
		checkScan(t, x)
		checkScan(t, x+"CHST")
		checkScan(t, x+"\x00\x00CHST")
		checkScan(t, none[:5]+x+"\x00\x00\x00CHST")
	})
}

func TestAllShortBlocks(t *testing.T) {
	for n := 1; n <= 3; n++ {
		strung([]string{"\x00", "\x01", "\x02", "\x03", "\x80"}, 4, func(x string) {
			checkScan(t, file(part{x, n}))
			checkScan(t, file(part{sealed(x), n}))
			checkScan(t, file(part{sealed(pressed(x)), n}))
			checkScan(t, file(of(api.Rec{"a"}), part{sealed(pressed(x)), n}, of(api.Rec{"b"})))
		})
	}
}

func TestAllFilesOfFewParts(t *testing.T) {
	listed(parts(), 4, func(l []part) { checkScan(t, file(l...)) })
	listed(parts(), 2, func(l []part) {
		for _, s := range []string{file(l...), stored(l...) + none, file(l...) + "T"} {
			checkRewrite(t, s)
			want, good, _ := wantScan(s)
			for from := -1; from <= len(s)+1; from++ {
				for to := -1; to <= len(s)+1; to++ {
					checkRead(t, s, from, to, want, good)
				}
			}
		}
	})
}

func TestRandomFiles(t *testing.T) {
	r := rand.New(rand.NewSource(2))
	seen := map[api.Errno]int{}
	faults := faults()
	for range 1500 {
		s := string(damagedFile(r, randomRecords(r, r.Intn(40)), faults))
		checkScan(t, s)
		l, good, e := wantScan(s)
		seen[e]++
		for range 5 {
			cuts := randomCuts(r, len(s), 2)
			checkRead(t, s, cuts[1], cuts[2], l, good)
		}
	}
	for _, e := range []api.Errno{api.OK, api.ErrForm} {
		if seen[e] < 300 {
			t.Errorf("only %d random files have the error %d", seen[e], e)
		}
	}
}

// P8.2

func TestSplitsOfFilesOfFewParts(t *testing.T) {
	listed(parts(), 2, func(l []part) {
		s := file(l...)
		for from := 0; from <= len(s); from++ {
			for to := from; to <= len(s); to++ {
				checkSplits(t, []byte(s), []int{0, from, to, len(s)})
			}
		}
		for at := range len(s) + 1 {
			// Splits without a byte have no records, wherever they are.
			checkSplits(t, []byte(s), []int{0, 0, at, at, at, len(s), len(s)})
		}
	})
}

func TestSplitsOfInvalidFiles(t *testing.T) {
	for _, s := range invalid() {
		for _, at := range []int{0, 1, len(s) / 2, len(s) - 1, len(s)} {
			checkSplits(t, []byte(s), []int{0, at, len(s)})
		}
	}
}

func TestSplitsOfEachByte(t *testing.T) {
	r := rand.New(rand.NewSource(3))
	l := []part{of(randomRecords(r, 9)...), of(api.Rec{}), of(api.Rec{randomBytes(r, 900)}, api.Rec{long(1000)}), of(randomRecords(r, 4)...)}
	s := file(l...)
	for _, s := range []string{none, s, s + "T", s[1:], file(append(l, part{"a", 1}, of(api.Rec{}))...), file(append([]part{{"a", 1}}, l...)...)} {
		var cuts []int
		for at := range len(s) + 1 {
			cuts = append(cuts, at)
		}
		checkSplits(t, []byte(s), cuts)
	}
}

func TestSplitsOfRandomFiles(t *testing.T) {
	r := rand.New(rand.NewSource(4))
	faults := faults()
	for range 500 {
		b := damagedFile(r, randomRecords(r, r.Intn(40)), faults)
		if len(b) == 0 {
			continue
		}
		for range 5 {
			checkSplits(t, b, randomCuts(r, len(b), r.Intn(40)))
		}
	}
}

// P8.3

func TestRoundTripOfRecords(t *testing.T) {
	some := []api.Rec{{}, {""}, {"a"}, {"CHST", "\x00\x80"}}
	listed(some, 5, func(l []api.Rec) { checkWrite(t, l) })
	var l []api.Rec
	for n := range 1001 {
		l = append(l, api.Rec{long(n), string([]byte{byte(n), byte(n >> 8)})})
	}
	checkWrite(t, l)
	checkWrite(t, append(l, api.Rec{long(1001), ""}))
	checkWrite(t, append(l, make(api.Rec, 51)))
	for n := range 51 {
		checkWrite(t, []api.Rec{make(api.Rec, n), {"a"}})
	}
	r := rand.New(rand.NewSource(5))
	for range 300 {
		checkWrite(t, randomRecords(r, r.Intn(60)))
	}
	for range 20 {
		n := 19170 + r.Intn(1000)
		checkWrite(t, []api.Rec{nineteen(n), {"a"}})
		checkWrite(t, []api.Rec{spread(r, n)})
	}
}

func TestRoundTripOfFiles(t *testing.T) {
	r := rand.New(rand.NewSource(6))
	faults := faults()
	for range 300 {
		l := randomRecords(r, r.Intn(30))
		checkRewrite(t, string(damagedFile(r, l, faults)))
		b, _ := chest.Write(l)
		checkRewrite(t, string(b))
	}
}

func TestEachSizeOfBlocks(t *testing.T) {
	// However records are distributed to blocks, reading returns them.
	r := rand.New(rand.NewSource(7))
	for range 200 {
		l := randomRecords(r, r.Intn(100))
		b := []byte(file(randomParts(r, l)...))
		if pieces, n, e := chest.Scan(b); !same(records(pieces), l) || n != len(b) || e != api.OK {
			t.Errorf("the records of %.80q are %.80q, %d, %d", b, records(pieces), n, e)
		}
		if back, e := chest.Read(b, 0, len(b), len(b)); !same(back, l) || e != api.OK {
			t.Errorf("Read of %.80q: %.80q, %d", b, back, e)
		}
	}
}

func TestFileOfAsManyBlocksAsThereCanBe(t *testing.T) {
	var l []part
	var want []api.Rec
	for i := range 5000 {
		r := api.Rec{number(i), ""}
		want = append(want, r)
		l = append(l, of(r))
	}
	b := []byte(file(l...))
	if pieces, n, e := chest.Scan(b); len(pieces) != 5000 || !same(records(pieces), want) || n != len(b) || e != api.OK {
		t.Errorf("%d pieces, %d, %d", len(pieces), n, e)
	}
	checkSplits(t, b, randomCuts(rand.New(rand.NewSource(8)), len(b), 1000))
}

// The document's rules for all layers

// roomy returns the bytes of s with memory beyond their length, and all of that memory.
func roomy(s string) ([]byte, []byte) {
	all := append([]byte(s), bytes.Repeat([]byte("CHST"), 20)...)
	return all[:len(s)], all
}

func TestArgumentsStay(t *testing.T) {
	a, c := api.Rec{"a", "1"}, api.Rec{"", "CHST"}
	b, whole := roomy(file(of(a, c), of(c)))
	before := bytes.Clone(whole)
	pieces, _, _ := chest.Scan(b)
	l, _ := chest.Read(b, 0, len(b), len(b))
	at, counts, _ := chest.Index(b)
	chest.Canon(b)
	if !bytes.Equal(whole, before) {
		t.Errorf("the file, or the memory beyond it, became %q", whole)
	}
	clear(whole)
	want := []api.Rec{a, c, c}
	if !same(l, want) || !same(records(pieces), want) || !slices.Equal(at, []int{0, len(block(a, c))}) || !slices.Equal(counts, []int{2, 1}) {
		t.Errorf("writing to the file changed the results: %q, %v, %v, %v", l, pieces, at, counts)
	}
}

func TestArgumentsOfWriteStay(t *testing.T) {
	r := api.Rec{"a", "CHST", "y"}
	given := []api.Rec{r[:2], {"b"}, {}, {"c"}, {"d"}, {"z"}}
	out, _ := chest.Write(given[:5])
	clear(out[:cap(out)])
	if !slices.Equal(r, api.Rec{"a", "CHST", "y"}) || !same(given, []api.Rec{{"a", "CHST"}, {"b"}, {}, {"c"}, {"d"}, {"z"}}) {
		t.Errorf("Write changed its argument: %q", given)
	}
	if again, e := chest.Write(given[:5]); string(again) != file(of(given[:4]...), of(given[4])) || e != api.OK {
		t.Errorf("the same records give another file the second time: %q, %d", again, e)
	}
}

func TestMemoryBeyondLengthIsIgnored(t *testing.T) {
	a, c := api.Rec{"a", "1"}, api.Rec{"b", "2"}
	first := file(of(a))
	whole := []byte(first + file(of(c)))
	n := len(first)
	if l, got, e := chest.Scan(whole[:n]); !same(records(l), []api.Rec{a}) || got != n || e != api.OK {
		t.Errorf("Scan of a file that goes on beyond the length: %v, %d, %d", l, got, e)
	}
	if l, got, e := chest.Scan(whole[:n-1]); len(l) != 0 || got != 0 || e != api.ErrForm {
		t.Errorf("Scan of an end that goes on beyond the length: %v, %d, %d", l, got, e)
	}
	if at, _, e := chest.Index(whole[:n-1]); len(at) != 0 || e != api.ErrForm {
		t.Errorf("Index of an end that goes on beyond the length: %v, %d", at, e)
	}
	if l, e := chest.Read(whole[:n], 0, n, n); !same(l, []api.Rec{a}) || e != api.OK {
		t.Errorf("Read of a file that goes on beyond the length: %q, %d", l, e)
	}
	if l, e := chest.Read(whole[:n], 0, n+1, n); len(l) != 0 || e != api.ErrArg {
		t.Errorf("Read of a split that goes on beyond the length: %q, %d", l, e)
	}
	if l, e := chest.Read(whole[:n], 0, n, n+1); len(l) != 0 || e != api.ErrArg {
		t.Errorf("Read of a valid part that goes on beyond the length: %q, %d", l, e)
	}
	if !chest.Canon(whole[:n]) || chest.Canon(whole) || chest.Canon(whole[:n-1]) {
		t.Error("Canon looks beyond the length")
	}
	l := []api.Rec{{"a", "1", "more"}, {}}
	l[0] = l[0][:2]
	if b, e := chest.Write(l[:1]); string(b) != first || e != api.OK {
		t.Errorf("Write of records that go on beyond the length: %q, %d", b, e)
	}
}

func TestResultsShareNoMemory(t *testing.T) {
	// Writing to one record of a result, its spare capacity included, changes no other one.
	want := []api.Rec{{"a", "1"}, {"", "CHST"}, {"b"}, {}, {"d", "3"}}
	b := []byte(file(of(want[:3]...), of(want[3]), of(want[4])))
	l, _ := chest.Read(b, 0, len(b), len(b))
	pieces, _, _ := chest.Scan(b)
	for i := range want {
		own := l[i][:cap(l[i])]
		for k := range own {
			own[k] = "changed"
		}
		if !same(l[i+1:], want[i+1:]) {
			t.Errorf("writing to record %d changed another one: %q", i, l)
		}
	}
	for i := range pieces {
		list := pieces[i].R[:cap(pieces[i].R)]
		for _, r := range list {
			own := r[:cap(r)]
			for k := range own {
				own[k] = "changed"
			}
		}
		for k := range list {
			list[k] = api.Rec{"changed"}
		}
		if !same(records(pieces[i+1:]), want[i+3:]) {
			t.Errorf("writing to piece %d changed another one: %v", i, pieces)
		}
	}
	at, counts, _ := chest.Index(b)
	for i := range at[:cap(at)] {
		at[:cap(at)][i] = -1
	}
	if !slices.Equal(counts, []int{3, 1, 1}) {
		t.Errorf("writing to the offsets changed the numbers of records: %v", counts)
	}
	if again, _ := chest.Read(b, 0, len(b), len(b)); !same(again, want) {
		t.Errorf("the same file has other records the second time: %q", again)
	}
}

func FuzzChest(f *testing.F) {
	a, c := api.Rec{"a", "1"}, api.Rec{"", "CHST"}
	one := of(a)
	f.Add([]byte(file(of(a, c), of(c))), []byte("\x01\x05\x01"), 1, 4, 9)
	f.Add([]byte(encoded(a, c, a)), []byte("\x00"), 3, 0, 3)
	f.Add([]byte(pressed(encoded(a))), []byte("\x01"+number(len(one.s))+"\x01"), 1, -1, 7)
	f.Add([]byte(one.s), []byte("\x02"+number(len(one.s))+"\x01"+number(len(one.s))+"\x01"), 4, 1, 1002)
	f.Fuzz(func(t *testing.T, b, x []byte, n, from, to int) {
		// Beyond some size the plain functions of this test take too long.
		s := string(b[:min(len(b), 3000)])
		numbers := string(x[:min(len(x), 300)])
		checkWrite(t, []api.Rec{{s, s}, {numbers}, {}, {"", s}, {s}})
		// The same bytes as a file, as a block, as what is sealed in it, and as
		// what is compressed; and the other ones as the index.
		for _, s := range []string{
			s,
			file(one, part{s, n}, one),
			file(one, part{sealed(s), n}, one),
			file(part{sealed(pressed(s)), n}, one),
			s + ended(sealed(numbers)),
			sealed(s) + one.s + ended(sealed(numbers)),
		} {
			checkScan(t, s)
			checkRewrite(t, s)
			l, good, _ := wantScan(s)
			checkRead(t, s, from, to, l, good)
			if 0 <= from && from <= to && to <= len(s) && s != "" {
				checkSplits(t, []byte(s), []int{0, from, to, len(s)})
			}
		}
	})
}
