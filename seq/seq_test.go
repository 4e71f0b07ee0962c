package seq_test

import (
	"bytes"
	"encoding/binary"
	"hash/crc32"
	"math"
	"math/rand"
	"slices"
	"strings"
	"testing"

	"threshing/api"
	"threshing/seq"
)

const (
	// head and marker are written out here as the document has them.
	head   = "TSQ1"
	marker = "\xffS"
	// kinds has each byte that escaping names, and another one.
	kinds = "a\xff\x00S"
)

// long returns a string of n bytes, the last of which differs from the others.
func long(n int) string {
	if n == 0 {
		return ""
	}
	return strings.Repeat("x", n-1) + "y"
}

// begun is the records of a block, and the offset at which it begins.
type begun struct {
	at int
	l  []api.Rec
}

// number returns the varint of n.
func number(n int) string { return string(binary.AppendUvarint(nil, uint64(n))) }

// frame returns the frame of s.
func frame(s string) string { return number(len(s)) + s }

// contents returns the contents of a block of the records, whatever they are.
func contents(l ...api.Rec) string {
	s := number(len(l))
	for _, r := range l {
		for _, f := range r {
			s += frame(f)
		}
	}
	return s
}

// sealed returns s followed by its checksum.
func sealed(s string) string {
	return string(binary.LittleEndian.AppendUint32([]byte(s), crc32.ChecksumIEEE([]byte(s))))
}

// stored returns the block with the contents s, whatever they are.
func stored(s string) string {
	return marker + strings.ReplaceAll(sealed(s), "\xff", "\xff\x00")
}

// block returns the block of the records, whatever they are.
func block(l ...api.Rec) string { return stored(contents(l...)) }

// wantWrite writes records by the words of the document.
func wantWrite(l []api.Rec) (string, api.Errno) {
	s := head
	for at := 0; at < len(l); at += 3 {
		s += block(l[at:min(at+3, len(l))]...)
	}
	for _, r := range l {
		if len(r) != 2 || len(r[0]) > 1000 || len(r[1]) > 1000 {
			return "", api.ErrDomain
		}
	}
	return s, api.OK
}

// wantNumber returns the number whose varint s begins with, and what follows.
func wantNumber(s string) (uint64, string, bool) {
	n, size := binary.Uvarint([]byte(s))
	if size <= 0 || len(binary.AppendUvarint(nil, n)) != size {
		return 0, "", false
	}
	return n, s[size:], true
}

// wantRecords returns the records whose contents are s, if it has those of a block.
func wantRecords(s string) ([]api.Rec, bool) {
	n, s, ok := wantNumber(s)
	if !ok || n == 0 || n > 100 {
		return nil, false
	}
	var fields []string
	for range 2 * n {
		var size uint64
		size, s, ok = wantNumber(s)
		if !ok || size > 1000 || size > uint64(len(s)) {
			return nil, false
		}
		fields = append(fields, s[:size])
		s = s[size:]
	}
	var l []api.Rec
	for pair := range slices.Chunk(fields, 2) {
		l = append(l, pair)
	}
	return l, s == ""
}

// wantUnescape returns the bytes that, escaped, are s.
func wantUnescape(s string) (string, api.Errno) {
	if strings.Contains(strings.ReplaceAll(s, "\xff\x00", ""), "\xff") {
		return "", api.ErrForm
	}
	return strings.ReplaceAll(s, "\xff\x00", "\xff"), api.OK
}

// wantBlock returns the records of what follows a marker up to the next one.
func wantBlock(s string) ([]api.Rec, bool) {
	s, e := wantUnescape(s)
	if e != api.OK || len(s) < 4 || sealed(s[:len(s)-4]) != s {
		return nil, false
	}
	return wantRecords(s[:len(s)-4])
}

// wantScan returns the blocks of the valid part of a file, the number of its
// bytes, and its error.
func wantScan(s string) ([]begun, int, api.Errno) {
	rest, ok := strings.CutPrefix(s, head)
	if !ok {
		return nil, 0, api.ErrForm
	}
	between := strings.Split(rest, marker)
	if between[0] != "" {
		return nil, 4, api.ErrForm
	}
	var l []begun
	at := 4
	for _, x := range between[1:] {
		r, ok := wantBlock(x)
		if !ok {
			return l, at, api.ErrForm
		}
		l = append(l, begun{at, r})
		at += len(marker + x)
	}
	return l, at, api.OK
}

// wantMarker looks at each offset for a marker that begins there.
func wantMarker(s string, at int) int {
	for i := range len(s) {
		if i >= at && strings.HasPrefix(s[i:], marker) {
			return i
		}
	}
	return len(s)
}

// same reports whether two lists of records are equal.
func same(a, b []api.Rec) bool {
	return slices.EqualFunc(a, b, func(r, s api.Rec) bool { return slices.Equal(r, s) })
}

// all returns the records of a list.
func all(l []begun) []api.Rec {
	var r []api.Rec
	for _, p := range l {
		r = append(r, p.l...)
	}
	return r
}

// records returns the records of pieces.
func records(l []api.Piece) []api.Rec {
	var r []api.Rec
	for _, p := range l {
		r = append(r, p.R...)
	}
	return r
}

// samePieces reports whether pieces are those of a list.
func samePieces(l []api.Piece, want []begun) bool {
	return slices.EqualFunc(l, want, func(p api.Piece, w begun) bool {
		return p.At == w.at && same(p.R, w.l)
	})
}

// checkScan compares the pieces of a file, and whether it is canonical.
func checkScan(t *testing.T, s string) {
	t.Helper()
	l, n, e := seq.Scan([]byte(s))
	want, wantN, wantE := wantScan(s)
	if !samePieces(l, want) || n != wantN || e != wantE {
		t.Errorf("Scan(%.80q) = %.80q, %d, %d; want %.80q, %d, %d", s, records(l), n, e, all(want), wantN, wantE)
	}
	written, _ := wantWrite(all(want))
	if canonical := written == s; seq.Canon([]byte(s)) != canonical {
		t.Errorf("Canon(%.80q) is not %t", s, canonical)
	}
}

// checkRead compares Read for one split. The list and the number are those of Scan.
func checkRead(t *testing.T, s string, from, to int, l []begun, good int) {
	t.Helper()
	got, e := seq.Read([]byte(s), from, to, good)
	var want []api.Rec
	wantE := api.OK
	if from < 0 || from > to || to > len(s) {
		wantE = api.ErrArg
	} else {
		for _, p := range l {
			if p.at >= from && p.at < to {
				want = append(want, p.l...)
			}
		}
		if good < to {
			wantE = api.ErrForm
		}
	}
	if !same(got, want) || e != wantE {
		t.Errorf("Read(%.80q, %d, %d) = %.80q, %d; want %.80q, %d", s, from, to, got, e, want, wantE)
	}
}

// checkSplits compares what is read from the splits between the cuts with the
// valid part. The cuts ascend from 0 to the end of a file that is not empty.
func checkSplits(t *testing.T, b []byte, cuts []int) {
	t.Helper()
	pieces, good, wantE := seq.Scan(b)
	var l []api.Rec
	failed := false
	for i := 1; i < len(cuts); i++ {
		r, e := seq.Read(b, cuts[i-1], cuts[i], good)
		if e != api.OK && e != api.ErrForm {
			t.Fatalf("Read(%.80q, %d, %d): %d", b, cuts[i-1], cuts[i], e)
		}
		l = append(l, r...)
		failed = failed || e != api.OK
	}
	if want := records(pieces); !same(l, want) {
		t.Errorf("%.80q split at %d gives %.80q; want %.80q", b, cuts, l, want)
	}
	if failed != (wantE != api.OK) {
		t.Errorf("%.80q split at %d reports an error: %t; that of the file is %d", b, cuts, failed, wantE)
	}
}

// checkWrite compares Write, and reads what it returns.
func checkWrite(t *testing.T, l []api.Rec) {
	t.Helper()
	b, e := seq.Write(l)
	want, wantE := wantWrite(l)
	if string(b) != want || e != wantE {
		t.Fatalf("Write(%.80q) = %.80q, %d; want %.80q, %d", l, b, e, want, wantE)
	}
	if e != api.OK {
		return
	}
	pieces, n, e := seq.Scan(b)
	if back := records(pieces); !same(back, l) || n != len(b) || e != api.OK {
		t.Errorf("Scan(Write(%.80q)) = %.80q, %d, %d", l, back, n, e)
	}
	if back, e := seq.Read(b, 0, len(b), len(b)); !same(back, l) || e != api.OK {
		t.Errorf("Read(Write(%.80q)) = %.80q, %d", l, back, e)
	}
	if !seq.Canon(b) {
		t.Errorf("Write(%.80q) is not canonical", l)
	}
}

// checkRewrite writes the records of the valid part of a file, which gives the
// file if and only if it is canonical.
func checkRewrite(t *testing.T, s string) {
	t.Helper()
	pieces, _, _ := seq.Scan([]byte(s))
	b, e := seq.Write(records(pieces))
	if e != api.OK {
		t.Fatalf("the records of %.80q cannot be written: %d", s, e)
	}
	if (string(b) == s) != seq.Canon([]byte(s)) {
		t.Errorf("the records of %.80q are written as %.80q; Canon is %t", s, b, seq.Canon([]byte(s)))
	}
}

// checkEscape compares Escape and Unescape, and what they make of each other's results.
func checkEscape(t *testing.T, s string) {
	t.Helper()
	b := seq.Escape([]byte(s))
	if string(b) != strings.ReplaceAll(s, "\xff", "\xff\x00") {
		t.Errorf("Escape(%.80q) = %.80q", s, b)
	}
	if seq.Marker(b, 0) != len(b) || bytes.Contains(b, []byte(marker)) {
		t.Errorf("Escape(%.80q) contains a marker: %.80q", s, b)
	}
	if back, e := seq.Unescape(b); string(back) != s || e != api.OK {
		t.Errorf("Unescape(Escape(%.80q)) = %.80q, %d", s, back, e)
	}
	b, e := seq.Unescape([]byte(s))
	if want, wantE := wantUnescape(s); string(b) != want || e != wantE {
		t.Errorf("Unescape(%.80q) = %.80q, %d; want %.80q, %d", s, b, e, want, wantE)
	}
	if again := seq.Escape(b); e == api.OK && string(again) != s {
		t.Errorf("Escape(Unescape(%.80q)) = %.80q", s, again)
	}
}

// checkMarker compares Marker for each offset, and for some beyond the bytes.
func checkMarker(t *testing.T, s string) {
	t.Helper()
	for at := -2; at <= len(s)+2; at++ {
		if got, want := seq.Marker([]byte(s), at), wantMarker(s, at); got != want {
			t.Errorf("Marker(%.80q, %d) = %d; want %d", s, at, got, want)
		}
	}
}

// strung calls check with every string of at most most of the parts.
func strung(parts []string, most int, check func(s string)) {
	level := []string{""}
	for range most + 1 {
		var next []string
		for _, s := range level {
			check(s)
			for _, p := range parts {
				next = append(next, s+p)
			}
		}
		level = next
	}
}

// randomCuts returns k ascending offsets between 0 and n, some of them equal.
func randomCuts(r *rand.Rand, n, k int) []int {
	cuts := []int{0, n}
	for range k {
		cuts = append(cuts, r.Intn(n+1))
	}
	slices.Sort(cuts)
	return cuts
}

// randomField returns a field, of which one byte in every is one that escaping
// names; some fields are long.
func randomField(r *rand.Rand, every int) string {
	b := make([]byte, r.Intn(8))
	if r.Intn(20) == 0 {
		b = make([]byte, 990+r.Intn(11))
	}
	for i := range b {
		b[i] = byte(r.Intn(256))
		if r.Intn(every) == 0 {
			b[i] = kinds[r.Intn(4)]
		}
	}
	return string(b)
}

// randomRecords returns n records.
func randomRecords(r *rand.Rand, n int) []api.Rec {
	every := 1 + r.Intn(20)
	var l []api.Rec
	for range n {
		l = append(l, api.Rec{randomField(r, every), randomField(r, every)})
	}
	return l
}

// randomFile returns the records of a list in blocks of any sizes.
func randomFile(r *rand.Rand, l []api.Rec) []byte {
	s := head
	most := 1 + r.Intn(100)
	for len(l) > 0 {
		n := min(1+r.Intn(most), len(l))
		s += block(l[:n]...)
		l = l[n:]
	}
	return []byte(s)
}

// randomFault returns bytes that are no block.
func randomFault(r *rand.Rand) string {
	long := contents(randomRecords(r, 1+r.Intn(4))...)
	return []string{
		marker,
		"\xff",
		stored(""),
		stored("\x00"),
		stored(long + "\x00"),
		stored(long[:len(long)-1]),
		block(make([]api.Rec, 101)...),
		block(randomRecords(r, 101)...),
		block(api.Rec{"", strings.Repeat("\xff", 1001)}),
		stored(long) + "\xff",
		stored(long) + "a",
		stored(long)[1:],
		strings.Replace(stored(long), "\xff\x00", "\xff", 1),
		marker + sealed("\x01\x01\xff\x00"),
	}[r.Intn(14)]
}

// damagedFile returns the file of a list, and in some cases with a byte
// changed, removed or inserted, or with bytes that are no block.
func damagedFile(r *rand.Rand, l []api.Rec) []byte {
	b := randomFile(r, l)
	at := r.Intn(len(b))
	switch r.Intn(8) {
	case 0:
		b[at] = kinds[r.Intn(4)]
	case 1:
		b[at] ^= 1 << r.Intn(8)
	case 2:
		b = slices.Delete(b, at, at+1)
	case 3:
		b = slices.Insert(b, at, kinds[r.Intn(4)])
	case 4:
		b = b[:at]
	case 5:
		b = slices.Concat(b, []byte(randomFault(r)), randomFile(r, l)[4:])
	}
	return b
}

// parts returns blocks and faults, of which the files of some tests consist.
// The checksum of the second block has a byte 255 at its end.
func parts() []string {
	return []string{
		block(api.Rec{"\xffS", ""}),
		block(endsWith255()),
		block(api.Rec{"", ""}, api.Rec{"b", "\xff"}, api.Rec{"", "c"}),
		stored("\x00"),
		marker,
		"\xff",
		"\x00",
		"S",
	}
}

// endsWith255 returns a record whose block of one has a checksum with a byte
// 255 at its end.
func endsWith255() api.Rec {
	for i := 0; ; i++ {
		r := api.Rec{number(i), ""}
		if strings.HasSuffix(block(r), "\xff\x00") {
			return r
		}
	}
}

// P7.1: G1

func TestScan(t *testing.T) {
	a, b, c := api.Rec{"a", "1"}, api.Rec{"", ""}, api.Rec{"\xffS", "\xff\x00TSQ1"}
	one, two, three := block(a), block(b, a), block(c, c, b)
	end := block(endsWith255())
	n1, n2, n3 := len(one), len(two), len(three)
	for _, x := range []struct {
		s    string
		want []begun
	}{
		{head, nil},
		{head + one, []begun{{4, []api.Rec{a}}}},
		{head + one + one, []begun{{4, []api.Rec{a}}, {4 + n1, []api.Rec{a}}}},
		{head + two + one, []begun{{4, []api.Rec{b, a}}, {4 + n2, []api.Rec{a}}}},
		{head + three + two + one, []begun{{4, []api.Rec{c, c, b}}, {4 + n3, []api.Rec{b, a}}, {4 + n3 + n2, []api.Rec{a}}}},
		{head + block(b), []begun{{4, []api.Rec{b}}}},
		{head + end + one, []begun{{4, []api.Rec{endsWith255()}}, {4 + len(end), []api.Rec{a}}}},
		{head + block(make100()...) + one, []begun{{4, make100()}, {4 + len(block(make100()...)), []api.Rec{a}}}},
		{head + block(api.Rec{long(1000), strings.Repeat("\xff", 1000)}), []begun{{4, []api.Rec{{long(1000), strings.Repeat("\xff", 1000)}}}}},
		// A field of 128 bytes has a length of two bytes.
		{head + block(api.Rec{long(127), long(128)}), []begun{{4, []api.Rec{{long(127), long(128)}}}}},
	} {
		l, n, e := seq.Scan([]byte(x.s))
		if !samePieces(l, x.want) || n != len(x.s) || e != api.OK {
			t.Errorf("Scan(%.80q) = %.80q, %d, %d; want %.80q", x.s, records(l), n, e, all(x.want))
		}
		checkScan(t, x.s)
	}
}

// make100 returns 100 different records.
func make100() []api.Rec {
	var l []api.Rec
	for i := range 100 {
		l = append(l, api.Rec{number(i), number(1000 + i)})
	}
	return l
}

func TestScanOfBytes(t *testing.T) {
	// A file written out byte by byte: the key of its first record is a marker.
	s := "TSQ1\xffS\x02\x02\xff\x00S\x00\x01b\x012\xd6\x13\xd5\xb0"
	l, n, e := seq.Scan([]byte(s))
	if !samePieces(l, []begun{{4, []api.Rec{{"\xffS", ""}, {"b", "2"}}}}) || n != 20 || e != api.OK {
		t.Errorf("Scan(%q) = %v, %d, %d", s, l, n, e)
	}
	if b, e := seq.Write([]api.Rec{{"\xffS", ""}, {"b", "2"}}); string(b) != s || e != api.OK {
		t.Errorf("Write = %q, %d; want %q", b, e, s)
	}
}

func TestScanWithoutHead(t *testing.T) {
	whole := head + block(api.Rec{"a", "b"})
	for _, s := range []string{
		"T", "TS", "TSQ", "tsq1", "TSQ2", "TSQ\x00", "SQ1", "QTSQ1", " TSQ1", "\x00TSQ1", "1QST", "TTSQ1", marker, "\xff",
		whole[1:], whole[4:], "x" + whole, "TSQ2" + whole[4:], whole[:3] + whole[4:], strings.ToLower(whole), whole[4:] + whole,
	} {
		if l, n, e := seq.Scan([]byte(s)); len(l) != 0 || n != 0 || e != api.ErrForm {
			t.Errorf("Scan(%q) = %v, %d, %d", s, l, n, e)
		}
		if seq.Canon([]byte(s)) {
			t.Errorf("%q is canonical", s)
		}
	}
	// A file begins with its head, so that there is none without a byte.
	for _, b := range [][]byte{nil, {}} {
		if l, n, e := seq.Scan(b); len(l) != 0 || n != 0 || e != api.ErrForm {
			t.Errorf("Scan of no bytes: %v, %d, %d", l, n, e)
		}
	}
}

// faults returns bytes that are no valid block, even if another block follows.
func faults() []string {
	ok := contents(api.Rec{"ab", "c"})
	block := stored(ok)
	sum := len(block) - 4
	all := []string{
		// What does not begin with a marker.
		"a", "S", "\x00", "\xff", "\xff\x00", "\xff\xff", head, "\xff\x00S", "s\xffS", "\xfeS", "\xffs", "a" + block, "\xff" + block, block[1:], block[2:],
		// A 255 that is not followed by a 0.
		marker + "\xff", marker + "\xffa", marker + "\xff\xff\x00", block + "\xff", block[:sum] + "\xff" + block[sum:],
		marker + sealed("\x01\x01\xff\x00"), marker + sealed("\x01\x02\xff\xff\x00"), marker + strings.TrimSuffix(stored(contents(endsWith255())), "\x00")[2:],
		// What Open rejects.
		marker, marker + "\x00", marker + "\x00\x00\x00", marker + "\xff\x00\xff\x00\xff\x00", marker + "\x00\x00\x00\x01",
		block[:len(block)-1], block + "\x00", block + "a", block + "\xff\x00", block[:sum] + "\x00" + block[sum:],
		block[:sum], marker + ok, marker + ok + "\x00\x00\x00\x00", strings.Replace(block, "ab", "ba", 1), strings.Replace(block, "ab", "Ab", 1),
		block[:sum] + string([]byte{block[sum+3], block[sum+2], block[sum+1], block[sum]}),
		// What does not have the contents of a block.
		stored(""), stored("\x00"), stored("\x00\x00\x00"), stored("\x01"), stored("\x01\x00"), stored("\x01\x01\x00"), stored("\x02\x00\x00"),
		stored("\x02" + frame("a") + frame("b") + frame("c")), stored(ok + "\x00"), stored(ok + ok), stored(ok[:len(ok)-1]), stored("\x00" + ok),
		stored("\x80\x00"), stored("\x81\x00\x00\x00"), stored("\x01\x80\x00\x00"), stored("\x01\x00\x80\x00"), stored("\x01\x81\x00a\x00"),
		stored("\x80"), stored("\x01\x80"), stored("\x01\x00\x80"),
		stored(number(101) + strings.Repeat("\x00", 202)), stored(number(128) + strings.Repeat("\x00", 256)), stored(number(1000) + strings.Repeat("\x00", 2000)),
		stored(contents(append(make100(), api.Rec{"", ""})...)), stored(number(100) + strings.Repeat("\x00", 199)), stored(number(100) + strings.Repeat("\x00", 201)),
		stored(contents(api.Rec{long(1001), ""})), stored(contents(api.Rec{"", long(1001)})), stored(contents(api.Rec{"", ""}, api.Rec{long(2000), "a"})),
		stored("\x01" + number(1000) + long(999)), stored("\x01\x00" + number(5) + "abcd"),
		stored(strings.Repeat("\xff", 9) + "\x01\x00\x00"), stored(strings.Repeat("\xff", 10) + "\x01\x00\x00"), stored(strings.Repeat("\x80", 9) + "\x01\x00\x00"),
		stored("\x01" + strings.Repeat("\xff", 9) + "\x01a\x00"), stored("\x01" + strings.Repeat("\x80", 9) + "\x01a\x00"), stored("\x01\x00" + strings.Repeat("\xff", 9) + "\x01a"),
		stored("\x01" + strings.Repeat("\xff", 9) + "\x02a\x00"), stored("\x01" + strings.Repeat("\xff", 8) + "\x7fa\x00"),
	}
	// One record with other numbers of fields than two.
	for n := range 6 {
		if n != 2 {
			all = append(all, stored("\x01"+strings.Repeat("\x00", n)))
		}
	}
	return all
}

func TestScanErrors(t *testing.T) {
	a, b := api.Rec{"a", "1"}, api.Rec{"", "\xff"}
	for _, before := range []string{head, head + block(a), head + block(b, a) + block(a) + block(endsWith255())} {
		want, _, e := wantScan(before)
		if e != api.OK {
			t.Fatalf("%q is not valid", before)
		}
		for _, x := range faults() {
			// What would belong to the block before is its error.
			good, valid := len(before), want
			if before != head && !strings.HasPrefix(x, marker) {
				valid = want[:len(want)-1]
				good = want[len(want)-1].at
			}
			for _, after := range []string{"", block(a), block(a) + block(b), marker, "\xff\x00"} {
				s := before + x + after
				l, n, e := seq.Scan([]byte(s))
				if !samePieces(l, valid) || n != good || e != api.ErrForm {
					t.Errorf("Scan(%.80q) = %.80q, %d, %d; want %d", s, records(l), n, e, good)
				}
				checkScan(t, s)
			}
		}
	}
}

func TestScanOfTruncatedFiles(t *testing.T) {
	s := head
	ends := []int{4}
	for _, r := range []api.Rec{{"a", "1"}, {"\xffS", "\xff"}, endsWith255(), {long(200), ""}, {"", "b"}} {
		s += block(r)
		ends = append(ends, len(s))
	}
	for n := 1; n < len(s); n++ {
		blocks := -1
		for _, end := range ends {
			if end <= n {
				blocks++
			}
		}
		good, want := 0, api.ErrForm
		switch {
		case n < 4:
			blocks = 0
		case n == ends[blocks]:
			good, want = n, api.OK
		case n == ends[blocks]+1 && blocks > 0:
			// The 255 that is left of a marker belongs to the block before.
			blocks--
			good = ends[blocks]
		default:
			good = ends[blocks]
		}
		if l, got, e := seq.Scan([]byte(s[:n])); len(l) != blocks || got != good || e != want {
			t.Errorf("the first %d bytes: %d pieces, %d, %d; want %d, %d", n, len(l), got, e, blocks, good)
		}
		checkScan(t, s[:n])
	}
}

func TestScanOfChangedBytes(t *testing.T) {
	// Whichever byte of a block is changed, that block is not valid any more.
	a, b, c := api.Rec{"a", "1"}, api.Rec{"\xffS", "\xff\xff"}, endsWith255()
	first, second, third := block(a), block(b, c), block(c)
	s := []byte(head + first + second + third)
	from := 4 + len(first)
	for i := from; i < from+len(second); i++ {
		old := s[i]
		for x := range 256 {
			if s[i] = byte(x); s[i] == old {
				continue
			}
			l, n, e := seq.Scan(s)
			// Without its marker it is added to the first block.
			want := from
			if i < from+2 {
				want = 4
			}
			if n != want || len(l) != min(n/from, 1) || e != api.ErrForm {
				t.Errorf("byte %d changed to %d: %d pieces, %d, %d", i, x, len(l), n, e)
			}
		}
		s[i] = old
	}
	// A change before the blocks leaves nothing.
	for i := range 4 {
		for x := range 256 {
			old := s[i]
			if byte(x) != old {
				s[i] = byte(x)
				if l, n, e := seq.Scan(s); len(l) != 0 || n != 0 || e != api.ErrForm {
					t.Errorf("byte %d changed to %d: %d pieces, %d, %d", i, x, len(l), n, e)
				}
			}
			s[i] = old
		}
	}
}

func TestWriteBytes(t *testing.T) {
	a, b, c, d := api.Rec{"a", "1"}, api.Rec{"", ""}, api.Rec{"\xffS", "\xff\x00"}, api.Rec{long(1000), strings.Repeat("\xff", 1000)}
	for _, x := range []struct {
		l []api.Rec
		b string
	}{
		{nil, head},
		{[]api.Rec{}, head},
		{[]api.Rec{a}, head + block(a)},
		{[]api.Rec{b}, head + block(b)},
		{[]api.Rec{a, b}, head + block(a, b)},
		{[]api.Rec{a, b, c}, head + block(a, b, c)},
		{[]api.Rec{a, b, c, d}, head + block(a, b, c) + block(d)},
		{[]api.Rec{d, d, d, d, d}, head + block(d, d, d) + block(d, d)},
		{[]api.Rec{a, b, c, c, b, a}, head + block(a, b, c) + block(c, b, a)},
		{slices.Repeat([]api.Rec{a}, 10), head + strings.Repeat(block(a, a, a), 3) + block(a)},
		{slices.Repeat([]api.Rec{a}, 30000), head + strings.Repeat(block(a, a, a), 10000)},
	} {
		b, e := seq.Write(x.l)
		if string(b) != x.b || e != api.OK {
			t.Errorf("Write(%.80q) = %.80q, %d; want %.80q", x.l, b, e, x.b)
		}
	}
}

func TestWriteErrors(t *testing.T) {
	ok := api.Rec{"a", "b"}
	for _, r := range []api.Rec{
		nil, {}, {""}, {"a"}, {"", "", ""}, {"a", "b", "c"}, make(api.Rec, 4), make(api.Rec, 50), make(api.Rec, 51),
		{long(1001), ""}, {"", long(1001)}, {"a", long(1001)}, {long(1001), "b"}, {long(1001), long(1001)}, {long(1001)},
		{strings.Repeat("é", 501), ""}, {"", long(100000)},
	} {
		for n := range 7 {
			for at := range n + 1 {
				l := slices.Insert(slices.Repeat([]api.Rec{ok}, n), at, r)
				if b, e := seq.Write(l); len(b) != 0 || e != api.ErrDomain {
					t.Errorf("Write(%.80q) = %.80q, %d", l, b, e)
				}
			}
		}
		if b, e := seq.Write(append(slices.Repeat([]api.Rec{ok}, 5000), r)); len(b) != 0 || e != api.ErrDomain {
			t.Errorf("Write of 5000 records and %.80q: %.80q, %d", r, b, e)
		}
	}
}

func TestCanon(t *testing.T) {
	a, b, c := api.Rec{"a", "1"}, api.Rec{"", ""}, api.Rec{"\xffS", "\xff"}
	three := block(a, b, c)
	for _, x := range []struct {
		s    string
		want bool
	}{
		{head, true},
		{head + block(a), true},
		{head + block(a, c), true},
		{head + three, true},
		{head + three + block(b), true},
		{head + three + block(b, c), true},
		{head + three + three, true},
		{head + strings.Repeat(three, 50) + block(endsWith255()), true},
		{head + block(api.Rec{long(1000), strings.Repeat("\xff", 1000)}), true},
		// Blocks of other sizes.
		{head + block(a) + block(a), false},
		{head + block(a) + three, false},
		{head + block(a, b) + three, false},
		{head + block(a, b) + block(c), false},
		{head + three + block(a) + three, false},
		{head + three + block(a, b) + block(c), false},
		{head + three + block(a) + block(b), false},
		{head + block(a, b, c, a), false},
		{head + three + block(a, b, c, a), false},
		{head + block(a, b, c, a, b, c), false},
		{head + block(make100()...), false},
		// What has an error is not what Write returns.
		{"", false},
		{"TSQ", false},
		{"TSQ2", false},
		{three, false},
		{head + "a", false},
		{head + marker, false},
		{head + stored("\x00"), false},
		{head + three + stored("\x00"), false},
		{head + three + "\x00", false},
		{head + three + "\xff", false},
		{head + three + marker, false},
		{head + three[:len(three)-1], false},
		{head + three + three[:len(three)-1], false},
	} {
		if seq.Canon([]byte(x.s)) != x.want {
			t.Errorf("Canon(%.80q) is not %t", x.s, x.want)
		}
	}
	if seq.Canon(nil) {
		t.Error("nil is canonical")
	}
}

// P7.1: G2

func TestRead(t *testing.T) {
	a, b, c := api.Rec{"a", "1"}, api.Rec{"\xffS", "\xff"}, endsWith255()
	s := head + block(a) + block(b, a, b) + block(c) + block(a, c)
	second := 4 + len(block(a))
	third := second + len(block(b, a, b))
	fourth := third + len(block(c))
	n := len(s)
	for _, x := range []struct {
		from, to int
		want     []api.Rec
	}{
		{0, n, []api.Rec{a, b, a, b, c, a, c}},
		{0, 0, nil},
		{0, 4, nil},
		{0, 5, []api.Rec{a}},
		{1, 5, []api.Rec{a}},
		{4, 4, nil},
		{4, 5, []api.Rec{a}},
		{4, 6, []api.Rec{a}},
		{4, second, []api.Rec{a}},
		{4, second + 1, []api.Rec{a, b, a, b}},
		// Between 255 and 83 of the first marker.
		{5, second, nil},
		{5, second + 1, []api.Rec{b, a, b}},
		{5, third, []api.Rec{b, a, b}},
		{6, third + 1, []api.Rec{b, a, b, c}},
		{second, second, nil},
		{second, second + 1, []api.Rec{b, a, b}},
		{second, third, []api.Rec{b, a, b}},
		{second + 1, third, nil},
		{second + 1, third + 1, []api.Rec{c}},
		{third - 1, third + 1, []api.Rec{c}},
		{third, fourth, []api.Rec{c}},
		{third, n, []api.Rec{c, a, c}},
		{third + 1, n, []api.Rec{a, c}},
		{fourth - 1, fourth, nil},
		{fourth - 1, fourth + 1, []api.Rec{a, c}},
		{fourth, n - 1, []api.Rec{a, c}},
		{fourth + 1, n, nil},
		{n - 1, n, nil},
		{n, n, nil},
	} {
		l, e := seq.Read([]byte(s), x.from, x.to, n)
		if !same(l, x.want) || e != api.OK {
			t.Errorf("Read(%d, %d) = %q, %d; want %q", x.from, x.to, l, e, x.want)
		}
	}
	if l, e := seq.Read([]byte(head), 0, 4, 4); len(l) != 0 || e != api.OK {
		t.Errorf("Read of a file without records: %q, %d", l, e)
	}
	if l, e := seq.Read(nil, 0, 0, 0); len(l) != 0 || e != api.OK {
		t.Errorf("Read of no bytes: %q, %d", l, e)
	}
}

func TestReadBeyondValidPart(t *testing.T) {
	a, b := api.Rec{"a", "1"}, api.Rec{"\xffS", "\xff"}
	valid := head + block(a) + block(b)
	second, good := 4+len(block(a)), len(valid)
	// What follows the error is not read, even if it is a block.
	for _, fault := range []string{stored("\x00"), marker, block(make([]api.Rec, 101)...), block(a) + "\xff"} {
		s := valid + fault + block(a) + block(b)
		n := len(s)
		for _, x := range []struct {
			from, to int
			want     []api.Rec
			e        api.Errno
		}{
			{0, 0, nil, api.OK},
			{0, 5, []api.Rec{a}, api.OK},
			{0, good, []api.Rec{a, b}, api.OK},
			{0, good + 1, []api.Rec{a, b}, api.ErrForm},
			{0, n, []api.Rec{a, b}, api.ErrForm},
			{5, good, []api.Rec{b}, api.OK},
			{second, n, []api.Rec{b}, api.ErrForm},
			{second + 1, good, nil, api.OK},
			{second + 1, n, nil, api.ErrForm},
			{good - 1, good, nil, api.OK},
			{good - 1, good + 1, nil, api.ErrForm},
			{good, good, nil, api.OK},
			{good, good + 1, nil, api.ErrForm},
			{good, n, nil, api.ErrForm},
			{good + 1, good + 1, nil, api.ErrForm},
			{good + len(fault), n, nil, api.ErrForm},
			{n - 1, n, nil, api.ErrForm},
			{n, n, nil, api.ErrForm},
		} {
			l, e := seq.Read([]byte(s), x.from, x.to, good)
			if !same(l, x.want) || e != x.e {
				t.Errorf("%.80q: Read(%d, %d) = %q, %d; want %q, %d", s, x.from, x.to, l, e, x.want, x.e)
			}
		}
	}
	for _, s := range []string{"T", "TSQ", "TSQ2" + block(a), block(a), marker} {
		if l, e := seq.Read([]byte(s), 0, len(s), 0); len(l) != 0 || e != api.ErrForm {
			t.Errorf("Read of %q: %q, %d", s, l, e)
		}
		if l, e := seq.Read([]byte(s), 0, 0, 0); len(l) != 0 || e != api.OK {
			t.Errorf("Read of no bytes of %q: %q, %d", s, l, e)
		}
	}
}

func TestReadErrors(t *testing.T) {
	for _, s := range []string{"", "T", head, head + block(api.Rec{"a", "b"}), head + block(api.Rec{"a", "b"}) + "\xff"} {
		n := len(s)
		for _, x := range [][3]int{
			{-1, 0, 0}, {-1, n, n}, {-1, -1, 0}, {-2, -1, 0}, {0, -1, 0}, {1, 0, 0}, {n, n - 1, 0}, {n + 1, n, n},
			{0, n + 1, n}, {n, n + 1, n}, {n + 1, n + 1, n}, {n + 1, n + 2, n}, {-1, n + 1, n},
			{0, 0, -1}, {0, n, -1}, {0, 0, n + 1}, {0, n, n + 1}, {n, n, n + 1}, {0, n + 1, n + 1}, {-1, -1, -1},
			{math.MinInt, 0, 0}, {0, math.MinInt, 0}, {math.MinInt, math.MinInt, 0}, {math.MinInt, math.MaxInt, 0},
			{0, math.MaxInt, n}, {math.MaxInt, 0, 0}, {math.MaxInt, math.MaxInt, 0}, {math.MaxInt, math.MinInt, 0},
			{0, n, math.MaxInt}, {0, n, math.MinInt}, {0, 0, math.MinInt}, {math.MaxInt, math.MaxInt, math.MaxInt},
		} {
			if l, e := seq.Read([]byte(s), x[0], x[1], x[2]); len(l) != 0 || e != api.ErrArg {
				t.Errorf("Read(%q, %d, %d, %d) = %q, %d", s, x[0], x[1], x[2], l, e)
			}
		}
	}
}

func TestReadOfOtherArguments(t *testing.T) {
	// Whatever is given as good, Read ends without a panic, and its error is
	// the one that good tells.
	strung(parts(), 2, func(x string) {
		for _, s := range []string{x, head + x} {
			for from := 0; from <= len(s); from++ {
				for to := from; to <= len(s); to++ {
					for good := 0; good <= len(s); good += 1 + len(s)/9 {
						want := api.OK
						if good < to {
							want = api.ErrForm
						}
						if _, e := seq.Read([]byte(s), from, to, good); e != want {
							t.Errorf("Read(%q, %d, %d, %d): %d", s, from, to, good, e)
						}
					}
				}
			}
		}
	})
}

func TestEscape(t *testing.T) {
	for _, x := range [][2]string{
		{"", ""},
		{"a", "a"},
		{"\x00", "\x00"},
		{"S", "S"},
		{"\xff", "\xff\x00"},
		{"\xff\x00", "\xff\x00\x00"},
		{"\xffS", "\xff\x00S"},
		{"\xff\xff", "\xff\x00\xff\x00"},
		{"\xff\xffS\x00", "\xff\x00\xff\x00S\x00"},
		{"a\xff\x00b\xff", "a\xff\x00\x00b\xff\x00"},
		{"\xfe\x80ÿ\u00ff", "\xfe\x80ÿ\u00ff"},
		{strings.Repeat("\xff", 5000), strings.Repeat("\xff\x00", 5000)},
		{strings.Repeat("a", 5000), strings.Repeat("a", 5000)},
	} {
		if b := seq.Escape([]byte(x[0])); string(b) != x[1] {
			t.Errorf("Escape(%.80q) = %.80q; want %.80q", x[0], b, x[1])
		}
		if b, e := seq.Unescape([]byte(x[1])); string(b) != x[0] || e != api.OK {
			t.Errorf("Unescape(%.80q) = %.80q, %d; want %.80q", x[1], b, e, x[0])
		}
	}
	for c := range 256 {
		one := string([]byte{byte(c)})
		for _, s := range []string{one, one + "\x00", "\xff" + one, "\xff\x00" + one, one + "\xff\x00", "ab" + one + "cd"} {
			checkEscape(t, s)
		}
	}
}

func TestUnescapeErrors(t *testing.T) {
	for _, s := range []string{
		"\xff", "a\xff", "\xffa", "\xff\x01", "\xffS", "\xff\xff", "\xff\xff\x00", "\xff\x00\xff", "\xff\x00\xff\xff\x00",
		"a\xff\x00b\xffc", "\x00\xff", "\xff0", strings.Repeat("\xff\x00", 5000) + "\xff", "\xff\xff\x00\x00", strings.Repeat("a", 5000) + "\xffS",
	} {
		if b, e := seq.Unescape([]byte(s)); len(b) != 0 || e != api.ErrForm {
			t.Errorf("Unescape(%.80q) = %.80q, %d", s, b, e)
		}
	}
	if b, e := seq.Unescape(nil); len(b) != 0 || e != api.OK {
		t.Errorf("Unescape(nil) = %q, %d", b, e)
	}
	if b := seq.Escape(nil); len(b) != 0 {
		t.Errorf("Escape(nil) = %q", b)
	}
}

func TestMarker(t *testing.T) {
	for _, x := range []struct {
		s    string
		at   int
		want int
	}{
		{"", 0, 0}, {"", -1, 0}, {"", 1, 0}, {"", math.MaxInt, 0}, {"", math.MinInt, 0},
		{"\xff", 0, 1}, {"S", 0, 1}, {"\xff\x00S", 0, 3}, {"S\xff", 0, 2}, {"ab", 5, 2}, {"ab", math.MaxInt, 2},
		{marker, 0, 0}, {marker, -1, 0}, {marker, math.MinInt, 0}, {marker, 1, 2}, {marker, 2, 2}, {marker, 3, 2}, {marker, math.MaxInt, 2},
		{"\xff\xffS", 0, 1}, {"\xff\xffS", 1, 1}, {"\xff\xffS", 2, 3},
		{"a\xffSb\xffS", 0, 1}, {"a\xffSb\xffS", 1, 1}, {"a\xffSb\xffS", 2, 4}, {"a\xffSb\xffS", 4, 4}, {"a\xffSb\xffS", 5, 6},
		{marker + marker, 0, 0}, {marker + marker, 1, 2}, {marker + marker, -7, 0},
		{"\xff\x00S\xffs\xfeS\xffS", 0, 7}, {"ÿS", 0, 3},
		{strings.Repeat("\xff", 5000) + "S", 1, 4999}, {strings.Repeat("\xff\x00", 5000) + "\xffS", 77, 10000},
	} {
		if got := seq.Marker([]byte(x.s), x.at); got != x.want {
			t.Errorf("Marker(%.80q, %d) = %d; want %d", x.s, x.at, got, x.want)
		}
	}
	if seq.Marker(nil, 0) != 0 || seq.Marker(nil, 1) != 0 || seq.Marker(nil, -1) != 0 {
		t.Error("there is a marker in nil")
	}
}

func TestAllShortBytes(t *testing.T) {
	strung(strings.Split(kinds, ""), 6, func(s string) {
		checkEscape(t, s)
		checkMarker(t, s)
		checkScan(t, s)
		checkScan(t, head+s)
		checkScan(t, head+stored(s))
		checkScan(t, head+marker+sealed(s))
	})
	// All contents of few small numbers, and those that varints have.
	strung([]string{"\x00", "\x01", "\x02", "\x80", "a"}, 6, func(s string) { checkScan(t, head+stored(s)) })
}

func TestAllFilesOfFewParts(t *testing.T) {
	strung(parts(), 5, func(s string) { checkScan(t, head+s) })
	strung(parts(), 3, func(s string) {
		s = head + s
		checkRewrite(t, s)
		checkMarker(t, s)
		l, good, _ := wantScan(s)
		for from := -1; from <= len(s)+1; from++ {
			for to := -1; to <= len(s)+1; to++ {
				checkRead(t, s, from, to, l, good)
			}
		}
	})
}

func TestRandomFiles(t *testing.T) {
	r := rand.New(rand.NewSource(8))
	seen := map[api.Errno]int{}
	for range 1500 {
		s := string(damagedFile(r, randomRecords(r, r.Intn(120))))
		checkScan(t, s)
		l, good, e := wantScan(s)
		seen[e]++
		for range 5 {
			cuts := randomCuts(r, len(s), 2)
			checkRead(t, s, cuts[1], cuts[2], l, good)
		}
	}
	for _, e := range []api.Errno{api.OK, api.ErrForm} {
		if seen[e] < 300 {
			t.Errorf("only %d random files have the error %d", seen[e], e)
		}
	}
}

// P7.2

func TestSplitsOfFilesOfFewParts(t *testing.T) {
	strung(parts(), 2, func(s string) {
		s = head + s
		for from := 0; from <= len(s); from++ {
			for to := from; to <= len(s); to++ {
				checkSplits(t, []byte(s), []int{0, from, to, len(s)})
			}
		}
		for at := range len(s) + 1 {
			// Splits without a byte have no records, wherever they are.
			checkSplits(t, []byte(s), []int{0, 0, at, at, at, len(s), len(s)})
		}
	})
}

func TestSplitsOfFilesWithoutHead(t *testing.T) {
	for _, s := range []string{"T", "TS", "TSQ", "\xff", marker, block(api.Rec{"a", "b"}), "TSQ2" + block(api.Rec{"a", "b"})} {
		for at := range len(s) + 1 {
			checkSplits(t, []byte(s), []int{0, at, len(s)})
		}
	}
}

func TestSplitsOfEachByte(t *testing.T) {
	marked := api.Rec{strings.Repeat(marker, 100), strings.Repeat("\xff\x00", 100)}
	s := head + block(marked, marked) + block(endsWith255()) + block(make100()...) + block(api.Rec{"", ""})
	for _, s := range []string{head, s, s + "\xff", s + stored("\x00") + block(marked), s[1:]} {
		var cuts []int
		for at := range len(s) + 1 {
			cuts = append(cuts, at)
		}
		checkSplits(t, []byte(s), cuts)
	}
}

func TestSplitsOfRandomFiles(t *testing.T) {
	r := rand.New(rand.NewSource(9))
	for range 500 {
		b := damagedFile(r, randomRecords(r, r.Intn(60)))
		if len(b) == 0 {
			continue
		}
		for range 5 {
			checkSplits(t, b, randomCuts(r, len(b), r.Intn(60)))
		}
	}
}

// P7.3

func TestRoundTripOfRecords(t *testing.T) {
	strung(strings.Split(kinds, ""), 5, func(s string) {
		checkWrite(t, []api.Rec{{s, ""}})
		checkWrite(t, []api.Rec{{"", s}, {s, "a"}, {"b", s}, {s, s}})
		checkWrite(t, []api.Rec{{s}, {s, s}})
	})
	var l []api.Rec
	for n := range 1001 {
		l = append(l, api.Rec{long(n), strings.Repeat(kinds[n%4:n%4+1], n)})
	}
	checkWrite(t, l)
	checkWrite(t, append(l, api.Rec{long(1001), ""}))
	checkWrite(t, append(l, api.Rec{"a"}))
	// Many checksums, some of which have a byte 255.
	for i := range 3000 {
		checkWrite(t, []api.Rec{{number(i), ""}})
	}
	for n := range 20 {
		checkWrite(t, make100()[:n])
	}
	r := rand.New(rand.NewSource(10))
	for range 300 {
		checkWrite(t, randomRecords(r, r.Intn(100)))
	}
}

func TestRoundTripOfFiles(t *testing.T) {
	r := rand.New(rand.NewSource(11))
	for range 500 {
		l := randomRecords(r, r.Intn(30))
		checkRewrite(t, string(damagedFile(r, l)))
		b, _ := seq.Write(l)
		checkRewrite(t, string(b))
	}
}

func TestEachSizeOfBlocks(t *testing.T) {
	// However records are distributed to blocks, reading returns them.
	r := rand.New(rand.NewSource(12))
	for range 300 {
		l := randomRecords(r, r.Intn(300))
		b := randomFile(r, l)
		if pieces, n, e := seq.Scan(b); !same(records(pieces), l) || n != len(b) || e != api.OK {
			t.Errorf("the records of %.80q are %.80q, %d, %d", b, records(pieces), n, e)
		}
		if back, e := seq.Read(b, 0, len(b), len(b)); !same(back, l) || e != api.OK {
			t.Errorf("Read of %.80q: %.80q, %d", b, back, e)
		}
	}
	for n := 1; n <= 100; n++ {
		if pieces, _, e := seq.Scan([]byte(head + block(make100()[:n]...))); len(pieces) != 1 || !same(pieces[0].R, make100()[:n]) || e != api.OK {
			t.Errorf("a block of %d records: %v, %d", n, pieces, e)
		}
	}
}

func TestEscapedBytesHaveNoMarker(t *testing.T) {
	r := rand.New(rand.NewSource(13))
	for range 2000 {
		checkEscape(t, randomField(r, 1+r.Intn(5)))
		checkEscape(t, string(damagedFile(r, randomRecords(r, r.Intn(5)))))
	}
}

// The document's rules for all layers

// roomy returns the bytes of s with memory beyond their length, and all of that memory.
func roomy(s string) ([]byte, []byte) {
	all := append([]byte(s), bytes.Repeat([]byte(marker), 20)...)
	return all[:len(s)], all
}

func TestArgumentsStay(t *testing.T) {
	a, c := api.Rec{"a", "1"}, api.Rec{"\xffS", "\xff"}
	b, whole := roomy(head + block(a, c) + block(c))
	before := bytes.Clone(whole)
	pieces, _, _ := seq.Scan(b)
	l, _ := seq.Read(b, 0, len(b), len(b))
	seq.Canon(b)
	seq.Marker(b, 4)
	escaped := seq.Escape(b)
	if !bytes.Equal(whole, before) {
		t.Errorf("the file, or the memory beyond it, became %q", whole)
	}
	again, more := roomy(string(escaped))
	before = bytes.Clone(more)
	plain, _ := seq.Unescape(again)
	clear(escaped[:cap(escaped)])
	if !bytes.Equal(more, before) || !bytes.Equal(plain, b) {
		t.Errorf("Unescape changed its argument: %q", more)
	}
	clear(plain[:cap(plain)])
	clear(more)
	clear(whole)
	want := []api.Rec{a, c, c}
	if !same(l, want) || !same(records(pieces), want) {
		t.Errorf("writing to the file changed the results: %q, %v", l, pieces)
	}
	// Without anything to escape the result is not the argument itself.
	same := []byte("abc")
	clear(seq.Escape(same))
	plain, _ = seq.Unescape(same)
	clear(plain)
	if string(same) != "abc" {
		t.Errorf("writing to a result changed the argument: %q", same)
	}
}

func TestArgumentsOfWriteStay(t *testing.T) {
	r := api.Rec{"a", "\xff", "y"}
	given := []api.Rec{r[:2], {"b", "c"}, {"z"}}
	out, _ := seq.Write(given[:2])
	clear(out[:cap(out)])
	if !slices.Equal(r, api.Rec{"a", "\xff", "y"}) || !same(given, []api.Rec{{"a", "\xff"}, {"b", "c"}, {"z"}}) {
		t.Errorf("Write changed its argument: %q", given)
	}
	if again, e := seq.Write(given[:2]); string(again) != head+block(given[:2]...) || e != api.OK {
		t.Errorf("the same records give another file the second time: %q, %d", again, e)
	}
}

func TestMemoryBeyondLengthIsIgnored(t *testing.T) {
	a, c := api.Rec{"a", "1"}, api.Rec{"b", "2"}
	whole := []byte(head + block(a) + block(c))
	first := 4 + len(block(a))
	if l, n, e := seq.Scan(whole[:3]); len(l) != 0 || n != 0 || e != api.ErrForm {
		t.Errorf("Scan of a head that goes on beyond the length: %v, %d, %d", l, n, e)
	}
	if l, n, e := seq.Scan(whole[:first]); !same(records(l), []api.Rec{a}) || n != first || e != api.OK {
		t.Errorf("Scan of a file with a block beyond the length: %v, %d, %d", l, n, e)
	}
	if l, n, e := seq.Scan(whole[:len(whole)-1]); !same(records(l), []api.Rec{a}) || n != first || e != api.ErrForm {
		t.Errorf("Scan of a block that goes on beyond the length: %v, %d, %d", l, n, e)
	}
	if l, e := seq.Read(whole[:first], 0, first, first); !same(l, []api.Rec{a}) || e != api.OK {
		t.Errorf("Read of a file with a block beyond the length: %q, %d", l, e)
	}
	if l, e := seq.Read(whole[:first], 0, first+1, first); len(l) != 0 || e != api.ErrArg {
		t.Errorf("Read of a split that goes on beyond the length: %q, %d", l, e)
	}
	if l, e := seq.Read(whole[:first], 0, first, first+1); len(l) != 0 || e != api.ErrArg {
		t.Errorf("Read of a valid part that goes on beyond the length: %q, %d", l, e)
	}
	if seq.Marker(whole[:5], 0) != 5 || seq.Marker(whole[:first+1], 5) != first+1 || seq.Marker(whole[:first], first) != first {
		t.Error("there is a marker beyond the length")
	}
	if b, e := seq.Unescape([]byte("\xff\x00")[:1]); len(b) != 0 || e != api.ErrForm {
		t.Errorf("Unescape of a byte whose 0 is beyond the length: %q, %d", b, e)
	}
	l := []api.Rec{{"a", "1", "more"}, {}}
	l[0] = l[0][:2]
	if b, e := seq.Write(l[:1]); string(b) != head+block(a) || e != api.OK {
		t.Errorf("Write of records that go on beyond the length: %q, %d", b, e)
	}
}

func TestResultsShareNoMemory(t *testing.T) {
	// Writing to one record of a result, its spare capacity included, changes no other one.
	want := []api.Rec{{"a", "1"}, {"\xffS", ""}, {"b", "\xff"}, {"c", "2"}, {"d", "3"}}
	b := []byte(head + block(want[:3]...) + block(want[3]) + block(want[4]))
	l, _ := seq.Read(b, 0, len(b), len(b))
	pieces, _, _ := seq.Scan(b)
	for i := range want {
		own := l[i][:cap(l[i])]
		for k := range own {
			own[k] = "changed"
		}
		if !same(l[i+1:], want[i+1:]) {
			t.Errorf("writing to record %d changed another one: %q", i, l)
		}
	}
	for i := range pieces {
		list := pieces[i].R[:cap(pieces[i].R)]
		for _, r := range list {
			own := r[:cap(r)]
			for k := range own {
				own[k] = "changed"
			}
		}
		for k := range list {
			list[k] = api.Rec{"changed"}
		}
		if !same(records(pieces[i+1:]), want[i+3:]) {
			t.Errorf("writing to piece %d changed another one: %v", i, pieces)
		}
	}
	if again, _ := seq.Read(b, 0, len(b), len(b)); !same(again, want) {
		t.Errorf("the same file has other records the second time: %q", again)
	}
}

func FuzzSeq(f *testing.F) {
	a, c := api.Rec{"a", "1"}, api.Rec{"\xffS", "\xff"}
	f.Add([]byte(head+block(a, c)+block(c)), 4, 9)
	f.Add([]byte(contents(a, c, a)), 0, 3)
	f.Add([]byte(head+block(a)+"\xff\x00"+marker), -1, 7)
	f.Add([]byte(head+block(endsWith255())), 1, 2)
	f.Add([]byte("\xff\x00\xffS\x00"), 1, 1002)
	f.Fuzz(func(t *testing.T, b []byte, from, to int) {
		// Beyond some size the plain functions of this test take too long.
		b = b[:min(len(b), 3000)]
		checkEscape(t, string(b))
		checkMarker(t, string(b))
		checkWrite(t, []api.Rec{{string(b), string(b)}, {"", ""}})
		// The same bytes as a file, as blocks, and as the contents of one.
		for _, s := range []string{string(b), head + string(b), head + stored(string(b)) + block(a)} {
			checkScan(t, s)
			checkRewrite(t, s)
			l, good, _ := wantScan(s)
			checkRead(t, s, from, to, l, good)
			if 0 <= from && from <= to && to <= len(s) && s != "" {
				checkSplits(t, []byte(s), []int{0, from, to, len(s)})
			}
		}
	})
}
