package csv_test

import (
	"bytes"
	"math"
	"math/rand"
	"regexp"
	"slices"
	"strings"
	"testing"

	"threshing/api"
	"threshing/csv"
)

// kinds has each byte that the grammar names, and another one.
const kinds = "a,\"\n\r"

// long returns a string of n bytes, the last of which differs from the others.
func long(n int) string {
	if n == 0 {
		return ""
	}
	return strings.Repeat("x", n-1) + "y"
}

// begun is a record, and the offset at which it begins.
type begun struct {
	at int
	r  api.Rec
}

// wantField returns the field that begins at the offset i by the words of the
// document, and the offset after it.
func wantField(s string, i int) (string, int, api.Errno) {
	if !strings.HasPrefix(s[i:], `"`) {
		n := strings.IndexAny(s[i:]+"\n", ",\"\n\r")
		if n > 1000 {
			return "", 0, api.ErrLarge
		}
		return s[i : i+n], i + n, api.OK
	}
	f := ""
	for i++; ; i++ {
		part, _, found := strings.Cut(s[i:], `"`)
		f += part
		if len(f) > 1000 {
			return "", 0, api.ErrLarge
		}
		if !found {
			return "", 0, api.ErrForm
		}
		i += len(part) + 1
		if !strings.HasPrefix(s[i:], `"`) {
			return f, i, api.OK
		}
		f += `"`
	}
}

// wantRecord returns the record that begins at an offset, and the offset after it.
func wantRecord(s string, at int) (api.Rec, int, api.Errno) {
	var r api.Rec
	for {
		f, next, e := wantField(s, at)
		if e != api.OK {
			return nil, 0, e
		}
		r = append(r, f)
		switch rest := s[next:]; {
		case rest == "":
			return r, next, api.OK
		case strings.HasPrefix(rest, "\n"):
			return r, next + 1, api.OK
		case strings.HasPrefix(rest, "\r\n"):
			return r, next + 2, api.OK
		case rest[0] != ',':
			return nil, 0, api.ErrForm
		case len(r) == 50:
			return nil, 0, api.ErrLarge
		}
		at = next + 1
	}
}

// wantScan returns the records of the valid part of a file, the number of its
// bytes, and the first error.
func wantScan(s string) ([]begun, int, api.Errno) {
	var l []begun
	at := 0
	for at < len(s) {
		r, next, e := wantRecord(s, at)
		if e != api.OK {
			return l, at, e
		}
		l = append(l, begun{at, r})
		at = next
	}
	return l, at, api.OK
}

// wantQuote writes a field by the words of the document.
func wantQuote(s string) string {
	for _, c := range []string{",", `"`, "\n", "\r"} {
		if strings.Contains(s, c) {
			return `"` + strings.Join(strings.Split(s, `"`), `""`) + `"`
		}
	}
	return s
}

// wantWrite writes records by the words of the document.
func wantWrite(l []api.Rec) (string, api.Errno) {
	var s strings.Builder
	for _, r := range l {
		if len(r) < 1 || len(r) > 50 {
			return "", api.ErrDomain
		}
		var fields []string
		for _, f := range r {
			if len(f) > 1000 {
				return "", api.ErrDomain
			}
			fields = append(fields, wantQuote(f))
		}
		s.WriteString(strings.Join(fields, ",") + "\n")
	}
	return s.String(), api.OK
}

// wantInside counts the quotes before an offset.
func wantInside(s string, at int) bool {
	n := 0
	for i := range len(s) {
		if i < at && s[i] == '"' {
			n++
		}
	}
	return n%2 == 1
}

// same reports whether two lists of records are equal.
func same(a, b []api.Rec) bool {
	return slices.EqualFunc(a, b, func(r, s api.Rec) bool { return slices.Equal(r, s) })
}

// all returns the records of a list.
func all(l []begun) []api.Rec {
	var r []api.Rec
	for _, p := range l {
		r = append(r, p.r)
	}
	return r
}

// records returns the records of pieces.
func records(l []api.Piece) []api.Rec {
	var r []api.Rec
	for _, p := range l {
		r = append(r, p.R...)
	}
	return r
}

// samePieces reports whether pieces are those of a list, each with one record.
func samePieces(l []api.Piece, want []begun) bool {
	return slices.EqualFunc(l, want, func(p api.Piece, w begun) bool {
		return p.At == w.at && same(p.R, []api.Rec{w.r})
	})
}

// checkScan compares the pieces of a file, and whether it is canonical.
func checkScan(t *testing.T, s string) {
	t.Helper()
	l, n, e := csv.Scan([]byte(s))
	want, wantN, wantE := wantScan(s)
	if !samePieces(l, want) || n != wantN || e != wantE {
		t.Errorf("Scan(%.60q) = %.60q, %d, %d; want %.60q, %d, %d", s, records(l), n, e, all(want), wantN, wantE)
	}
	written, _ := wantWrite(all(want))
	if canonical := written == s; csv.Canon([]byte(s)) != canonical {
		t.Errorf("Canon(%.60q) is not %t", s, canonical)
	}
}

// checkInside compares Inside for each offset, and for some beyond the file.
func checkInside(t *testing.T, s string) {
	t.Helper()
	for at := -2; at <= len(s)+2; at++ {
		if want := wantInside(s, at); csv.Inside([]byte(s), at) != want {
			t.Errorf("Inside(%.60q, %d) is not %t", s, at, want)
		}
	}
}

// checkRead compares Read for one split. The list and the number are those of Scan.
func checkRead(t *testing.T, s string, from, to int, l []begun, good int) {
	t.Helper()
	got, e := csv.Read([]byte(s), from, to, wantInside(s, from), good)
	var want []api.Rec
	wantE := api.OK
	if from < 0 || from > to || to > len(s) {
		wantE = api.ErrArg
	} else {
		for _, p := range l {
			if p.at >= from && p.at < to {
				want = append(want, p.r)
			}
		}
		if good < to {
			wantE = api.ErrForm
		}
	}
	if !same(got, want) || e != wantE {
		t.Errorf("Read(%.60q, %d, %d) = %.60q, %d; want %.60q, %d", s, from, to, got, e, want, wantE)
	}
}

// checkSplits compares what is read from the splits between the cuts with the
// valid part. The cuts ascend from 0 to the end.
func checkSplits(t *testing.T, b []byte, cuts []int) {
	t.Helper()
	pieces, good, wantE := csv.Scan(b)
	var l []api.Rec
	failed := false
	for i := 1; i < len(cuts); i++ {
		r, e := csv.Read(b, cuts[i-1], cuts[i], csv.Inside(b, cuts[i-1]), good)
		if e != api.OK && e != api.ErrForm {
			t.Fatalf("Read(%.60q, %d, %d): %d", b, cuts[i-1], cuts[i], e)
		}
		l = append(l, r...)
		failed = failed || e != api.OK
	}
	if want := records(pieces); !same(l, want) {
		t.Errorf("%.60q split at %d gives %.60q; want %.60q", b, cuts, l, want)
	}
	if failed != (wantE != api.OK) {
		t.Errorf("%.60q split at %d reports an error: %t; that of the file is %d", b, cuts, failed, wantE)
	}
}

// checkWrite compares Write, and reads what it returns.
func checkWrite(t *testing.T, l []api.Rec) {
	t.Helper()
	b, e := csv.Write(l)
	want, wantE := wantWrite(l)
	if string(b) != want || e != wantE {
		t.Fatalf("Write(%.60q) = %.60q, %d; want %.60q, %d", l, b, e, want, wantE)
	}
	if e != api.OK {
		return
	}
	pieces, n, e := csv.Scan(b)
	if back := records(pieces); !same(back, l) || n != len(b) || e != api.OK {
		t.Errorf("Scan(Write(%.60q)) = %.60q, %d, %d", l, back, n, e)
	}
	if back, e := csv.Read(b, 0, len(b), false, len(b)); !same(back, l) || e != api.OK {
		t.Errorf("Read(Write(%.60q)) = %.60q, %d", l, back, e)
	}
	if !csv.Canon(b) {
		t.Errorf("Write(%.60q) is not canonical", l)
	}
}

// checkRewrite writes the records of the valid part of a file, which gives the
// file if and only if it is canonical.
func checkRewrite(t *testing.T, s string) {
	t.Helper()
	pieces, _, _ := csv.Scan([]byte(s))
	b, e := csv.Write(records(pieces))
	if e != api.OK {
		t.Fatalf("the records of %.60q cannot be written: %d", s, e)
	}
	if (string(b) == s) != csv.Canon([]byte(s)) {
		t.Errorf("the records of %.60q are written as %.60q; Canon is %t", s, b, csv.Canon([]byte(s)))
	}
}

// strung calls check with every string of at most most of the bytes of kinds.
func strung(kinds string, most int, check func(s string)) {
	level := []string{""}
	for range most + 1 {
		var next []string
		for _, s := range level {
			check(s)
			for i := range len(kinds) {
				next = append(next, s+kinds[i:i+1])
			}
		}
		level = next
	}
}

// eachCuts calls check with all ascending cuts from 0 to n, each offset
// between them being in the cuts or not.
func eachCuts(n int, check func(cuts []int)) {
	for set := range 1 << max(n-1, 0) {
		cuts := []int{0}
		for at := 1; at < n; at++ {
			if set>>(at-1)&1 == 1 {
				cuts = append(cuts, at)
			}
		}
		check(append(cuts, n))
	}
}

// randomCuts returns k ascending offsets between 0 and n, some of them equal.
func randomCuts(r *rand.Rand, n, k int) []int {
	cuts := []int{0, n}
	for range k {
		cuts = append(cuts, r.Intn(n+1))
	}
	slices.Sort(cuts)
	return cuts
}

// randomField returns a field of n bytes, of which one in every is one that the
// grammar names.
func randomField(r *rand.Rand, n, every int) string {
	b := make([]byte, n)
	for i := range b {
		b[i] = byte(r.Intn(256))
		if r.Intn(every) == 0 {
			b[i] = kinds[1+r.Intn(4)]
		}
	}
	return string(b)
}

// randomRecords returns n records of at most most fields, some of which are long.
func randomRecords(r *rand.Rand, n, most int) []api.Rec {
	var l []api.Rec
	for range n {
		rec := make(api.Rec, 1+r.Intn(most))
		for i := range rec {
			size := r.Intn(8)
			if r.Intn(10) == 0 {
				size = 990 + r.Intn(11)
			}
			rec[i] = randomField(r, size, 1+r.Intn(50))
		}
		l = append(l, rec)
	}
	return l
}

// randomLine returns a record in any of the ways in which it can be written,
// without an end of line.
func randomLine(r *rand.Rand, rec api.Rec) string {
	var fields []string
	for _, f := range rec {
		q := wantQuote(f)
		if q == f && r.Intn(4) == 0 {
			q = `"` + f + `"`
		}
		fields = append(fields, q)
	}
	return strings.Join(fields, ",")
}

// randomFile returns the records of a list in any of the ways in which they can
// be written.
func randomFile(r *rand.Rand, l []api.Rec) []byte {
	var b []byte
	for i, rec := range l {
		line := randomLine(r, rec)
		ends := []string{"\n", "\r\n"}
		// The last record needs no end of line, if it has a byte.
		if i == len(l)-1 && line != "" {
			ends = append(ends, "")
		}
		b = append(b, line+ends[r.Intn(len(ends))]...)
	}
	return b
}

// damagedFile returns the file of a list, and in some cases with a byte changed
// or with a record beyond the limits.
func damagedFile(r *rand.Rand, l []api.Rec) []byte {
	switch at := r.Intn(len(l) + 1); r.Intn(6) {
	case 0:
		l = slices.Insert(l, at, make(api.Rec, 51))
	case 1:
		l = slices.Insert(l, at, api.Rec{randomField(r, 1001, 1+r.Intn(2000))})
	}
	b := randomFile(r, l)
	if len(b) > 0 && r.Intn(3) == 0 {
		b[r.Intn(len(b))] = kinds[r.Intn(len(kinds))]
	}
	return b
}

// P6.1: F1

func TestScan(t *testing.T) {
	for _, x := range []struct {
		s    string
		want []begun
	}{
		{"", nil},
		{"\n", []begun{{0, api.Rec{""}}}},
		{"\r\n", []begun{{0, api.Rec{""}}}},
		{"\n\n", []begun{{0, api.Rec{""}}, {1, api.Rec{""}}}},
		{"\n\r\n\n", []begun{{0, api.Rec{""}}, {1, api.Rec{""}}, {3, api.Rec{""}}}},
		{"a", []begun{{0, api.Rec{"a"}}}},
		{"a\n", []begun{{0, api.Rec{"a"}}}},
		{"a\r\n", []begun{{0, api.Rec{"a"}}}},
		{"a\nb", []begun{{0, api.Rec{"a"}}, {2, api.Rec{"b"}}}},
		{"a\r\nb\r\n", []begun{{0, api.Rec{"a"}}, {3, api.Rec{"b"}}}},
		{"a,b\nc\n", []begun{{0, api.Rec{"a", "b"}}, {4, api.Rec{"c"}}}},
		// After a comma another field follows, which may be empty.
		{",", []begun{{0, api.Rec{"", ""}}}},
		{"a,", []begun{{0, api.Rec{"a", ""}}}},
		{",a", []begun{{0, api.Rec{"", "a"}}}},
		{",,\n,\r\n", []begun{{0, api.Rec{"", "", ""}}, {3, api.Rec{"", ""}}}},
		{"a,\r\nb", []begun{{0, api.Rec{"a", ""}}, {4, api.Rec{"b"}}}},
		// Quoted fields.
		{`""`, []begun{{0, api.Rec{""}}}},
		{`"",""`, []begun{{0, api.Rec{"", ""}}}},
		{"\"\"\n", []begun{{0, api.Rec{""}}}},
		{`"a"`, []begun{{0, api.Rec{"a"}}}},
		{`"a",b,"c"`, []begun{{0, api.Rec{"a", "b", "c"}}}},
		{"\"a\"\r\n\"b\"\nc", []begun{{0, api.Rec{"a"}}, {5, api.Rec{"b"}}, {9, api.Rec{"c"}}}},
		{`"a,""b",c`, []begun{{0, api.Rec{`a,"b`, "c"}}}},
		{`""""`, []begun{{0, api.Rec{`"`}}}},
		{`""""""`, []begun{{0, api.Rec{`""`}}}},
		{`"""a"""`, []begun{{0, api.Rec{`"a"`}}}},
		{`"a"""`, []begun{{0, api.Rec{`a"`}}}},
		{`""",""",""`, []begun{{0, api.Rec{`","`, ""}}}},
		{"\"\n\"\na", []begun{{0, api.Rec{"\n"}}, {4, api.Rec{"a"}}}},
		{"\"\r\",\"\r\n\",\"\n\r\"", []begun{{0, api.Rec{"\r", "\r\n", "\n\r"}}}},
		{"\"a\n\"\"\n\",b\nc", []begun{{0, api.Rec{"a\n\"\n", "b"}}, {10, api.Rec{"c"}}}},
		// Other bytes are none of the grammar's.
		{" a\t, b\x00\n\x80\xff;'\\\n", []begun{{0, api.Rec{" a\t", " b\x00"}}, {8, api.Rec{"\x80\xff;'\\"}}}},
		{"\ufeffa,\u2028\x85é\n", []begun{{0, api.Rec{"\ufeffa", "\u2028\x85é"}}}},
	} {
		l, n, e := csv.Scan([]byte(x.s))
		if !samePieces(l, x.want) || n != len(x.s) || e != api.OK {
			t.Errorf("Scan(%q) = %v, %d, %d; want %v", x.s, l, n, e, x.want)
		}
	}
	if l, n, e := csv.Scan(nil); len(l) != 0 || n != 0 || e != api.OK {
		t.Errorf("Scan(nil) = %v, %d, %d", l, n, e)
	}
}

func TestScanErrors(t *testing.T) {
	full := strings.Repeat(",", 49)
	for _, x := range []struct {
		s string
		e api.Errno
	}{
		// A quote in an unquoted field.
		{`a"`, api.ErrForm},
		{`a"b"`, api.ErrForm},
		{`a""`, api.ErrForm},
		{` "a"`, api.ErrForm},
		{" a ,\t\"", api.ErrForm},
		{`a,b"` + "\n", api.ErrForm},
		{"\"a\",b\"\n", api.ErrForm},
		// A byte 13 that is not followed by 10.
		{"\r", api.ErrForm},
		{"a\r", api.ErrForm},
		{"a\rb", api.ErrForm},
		{"\r,", api.ErrForm},
		{"a,\r", api.ErrForm},
		{"a\r\r\n", api.ErrForm},
		{"a\r\"\n\"", api.ErrForm},
		{"\"a\"\r", api.ErrForm},
		{"\"a\"\rb", api.ErrForm},
		{"\"a\"\r\r\n", api.ErrForm},
		{"\"a\"\r,b", api.ErrForm},
		// Anything else after a quoted field.
		{`"a"b`, api.ErrForm},
		{`""a`, api.ErrForm},
		{`"a" ,b`, api.ErrForm},
		{`"a" "b"`, api.ErrForm},
		{"\"a\"\x00\n", api.ErrForm},
		{`a,""b`, api.ErrForm},
		{`"a"""b"c`, api.ErrForm},
		// A quoted field without an end.
		{`"`, api.ErrForm},
		{`"a`, api.ErrForm},
		{`"""`, api.ErrForm},
		{`"a""`, api.ErrForm},
		{`a,"`, api.ErrForm},
		{"\"a\nb,\r\n", api.ErrForm},
		{`"","`, api.ErrForm},
		{`""","",`, api.ErrForm},
		// Too many fields.
		{full + ",", api.ErrLarge},
		{full + ",\n", api.ErrLarge},
		{full + ",a", api.ErrLarge},
		{full + `"",""`, api.ErrLarge},
		{strings.Repeat("a,", 50) + "a\r\n", api.ErrLarge},
		{strings.Repeat(",", 1000), api.ErrLarge},
		// A field that is too long.
		{long(1001), api.ErrLarge},
		{long(1001) + "\n", api.ErrLarge},
		{"a," + long(1001) + ",b", api.ErrLarge},
		{full + long(1001), api.ErrLarge},
		{long(100000), api.ErrLarge},
		{`"` + long(1001) + `"`, api.ErrLarge},
		{`"` + strings.Repeat(`""`, 1001) + `"`, api.ErrLarge},
		{`"` + strings.Repeat("\n", 1001) + `"`, api.ErrLarge},
		{`"` + long(1000) + `"""`, api.ErrLarge},
		{strings.Repeat("é", 501), api.ErrLarge},
		// Of several errors the first one counts.
		{long(1001) + `"`, api.ErrLarge},
		{long(1001) + "\r", api.ErrLarge},
		{`"` + long(1001), api.ErrLarge},
		{`"` + long(1000) + `""`, api.ErrLarge},
		{`"` + long(1001) + `"a`, api.ErrLarge},
		{full + `,a"`, api.ErrLarge},
		{full + `,"`, api.ErrLarge},
		{full + ",\r", api.ErrLarge},
		{`a"` + long(1001), api.ErrForm},
		{"a\r" + long(1001), api.ErrForm},
		{`""` + long(1001), api.ErrForm},
		{long(1000) + `"`, api.ErrForm},
		{long(1000) + "\rx", api.ErrForm},
		{`"` + long(1000), api.ErrForm},
		{`"` + long(999) + `""`, api.ErrForm},
		{`"` + long(1000) + `"a`, api.ErrForm},
		{full + `a",`, api.ErrForm},
		{full + "\r,", api.ErrForm},
		{full + `"",` + "x", api.ErrLarge},
		{full + `""x,`, api.ErrForm},
		{`a"` + full + ",", api.ErrForm},
	} {
		for _, before := range []string{"", "\n", "a,b\n", "a\r\n\"b\n\"\n", full + "\n" + long(1000) + "\n"} {
			want, _, _ := wantScan(before)
			for _, after := range []string{"", "\nc\n"} {
				if after != "" && changes(x.s) {
					continue
				}
				l, n, e := csv.Scan([]byte(before + x.s + after))
				if !samePieces(l, want) || n != len(before) || e != x.e {
					t.Errorf("Scan(%.60q) = %.60q, %d, %d; want %d, %d", before+x.s+after, records(l), n, e, len(before), x.e)
				}
			}
		}
	}
}

// changes reports whether a line that follows a file with an error may make
// another file of it: one whose error is that it ends.
func changes(s string) bool {
	return strings.HasSuffix(s, "\r") || wantInside(s, len(s))
}

func TestScanLimits(t *testing.T) {
	// What is just within the limits is valid, in each way of writing it.
	for _, n := range []int{1, 2, 49, 50} {
		for _, f := range []string{"", "a", `""`, `","`, long(1000), `"` + strings.Repeat(`""`, 1000) + `"`} {
			for _, end := range []string{"", "\n", "\r\n"} {
				s := strings.Join(slices.Repeat([]string{f}, n), ",") + end
				if s == "" {
					continue
				}
				l, got, e := csv.Scan([]byte(s))
				if len(l) != 1 || len(l[0].R) != 1 || len(l[0].R[0]) != n || got != len(s) || e != api.OK {
					t.Errorf("%d fields %.60q are not a record: %d, %d", n, f, got, e)
				}
				checkScan(t, s)
			}
		}
	}
	for n := 990; n <= 1000; n++ {
		for _, s := range []string{long(n), `"` + long(n) + `"`, `"` + strings.Repeat("\r", n) + `"`,
			`"` + long(n-1) + `"""`, `"""` + long(n-1) + `"`} {
			l, got, e := csv.Scan([]byte(s))
			if len(l) != 1 || len(l[0].R[0]) != 1 || len(l[0].R[0][0]) != n || got != len(s) || e != api.OK {
				t.Errorf("%.60q of %d bytes is not a record: %d, %d", s, n, got, e)
			}
		}
	}
	// The limits are those of a record and of a field: they begin anew.
	s := strings.Repeat(strings.Repeat(",", 49)+"\n", 100) + strings.Repeat(long(1000)+","+long(1000)+"\r\n", 100)
	if l, n, e := csv.Scan([]byte(s)); len(l) != 200 || n != len(s) || e != api.OK {
		t.Errorf("many records within the limits: %d, %d, %d", len(l), n, e)
	}
	checkScan(t, s)
}

func TestScanOfAllBytes(t *testing.T) {
	for c := range 256 {
		one := string([]byte{byte(c)})
		plain := !strings.Contains(kinds[1:], one)
		for _, s := range []string{"a" + one + "b", one, "a" + one, one + "b", `"a` + one + `b"`, `"` + one + `"`, `"a"` + one, `"a"` + one + "b"} {
			checkScan(t, s)
		}
		l, _, e := csv.Scan([]byte("a" + one + "b"))
		if plain && (e != api.OK || !same(records(l), []api.Rec{{"a" + one + "b"}})) {
			t.Errorf("the byte %d is not one of the field: %v, %d", c, l, e)
		}
		if _, _, e := csv.Scan([]byte(`"a"` + one + "b")); plain && e != api.ErrForm {
			t.Errorf("the byte %d may follow a quoted field: %d", c, e)
		}
		l, _, e = csv.Scan([]byte(`"a` + one + `b"`))
		if c != '"' && (e != api.OK || !same(records(l), []api.Rec{{"a" + one + "b"}})) {
			t.Errorf("the byte %d is not one of the quoted field: %v, %d", c, l, e)
		}
	}
}

func TestGrammar(t *testing.T) {
	// The grammar of the document as a regular expression, without the limits.
	field := `(?:"(?:[^"]|"")*"|[^,"\n\r]*)`
	record := regexp.MustCompile(`^` + field + `(?:,` + field + `)*(?:\r?\n|\z)`)
	strung(kinds, 7, func(s string) {
		at := 0
		var starts []int
		for at < len(s) {
			m := record.FindString(s[at:])
			if m == "" {
				break
			}
			starts = append(starts, at)
			at += len(m)
		}
		l, n, e := csv.Scan([]byte(s))
		if n != at || (e == api.OK) != (at == len(s)) || (e != api.OK && e != api.ErrForm) {
			t.Errorf("Scan(%q) accepts %d bytes, %d; want %d", s, n, e, at)
		}
		for i, p := range l {
			if len(l) != len(starts) || p.At != starts[i] {
				t.Fatalf("the pieces of %q are %v; they begin at %d", s, l, starts)
			}
		}
	})
}

func TestWriteBytes(t *testing.T) {
	for _, x := range []struct {
		l []api.Rec
		b string
	}{
		{nil, ""},
		{[]api.Rec{}, ""},
		{[]api.Rec{{""}}, "\n"},
		{[]api.Rec{{""}, {""}}, "\n\n"},
		{[]api.Rec{{"", ""}}, ",\n"},
		{[]api.Rec{{"a"}}, "a\n"},
		{[]api.Rec{{"a", "b"}, {"c"}}, "a,b\nc\n"},
		{[]api.Rec{{"a,b", `"`, "\n", "\r"}, {"\r\n"}}, "\"a,b\",\"\"\"\",\"\n\",\"\r\"\n\"\r\n\"\n"},
		{[]api.Rec{{` a"b" `, "c"}}, "\" a\"\"b\"\" \",c\n"},
		{[]api.Rec{{"\x00\xff\t\\', é;", " "}}, "\"\x00\xff\t\\', é;\", \n"},
		{[]api.Rec{{"\x00\xff\t\\' é;", ""}}, "\x00\xff\t\\' é;,\n"},
		{[]api.Rec{{long(1000)}, {long(999), long(1000)}}, long(1000) + "\n" + long(999) + "," + long(1000) + "\n"},
		// It is the field that counts, not what is written for it.
		{[]api.Rec{{strings.Repeat(`"`, 1000)}}, strings.Repeat(`"`, 2002) + "\n"},
		{[]api.Rec{{strings.Repeat("é", 500)}}, strings.Repeat("é", 500) + "\n"},
		{[]api.Rec{make(api.Rec, 50)}, strings.Repeat(",", 49) + "\n"},
		{slices.Repeat([]api.Rec{{"ab", "c"}}, 100000), strings.Repeat("ab,c\n", 100000)},
	} {
		b, e := csv.Write(x.l)
		if string(b) != x.b || e != api.OK {
			t.Errorf("Write(%.60q) = %.60q, %d; want %.60q", x.l, b, e, x.b)
		}
	}
}

func TestWriteErrors(t *testing.T) {
	for _, r := range []api.Rec{
		nil,
		{},
		make(api.Rec, 51),
		make(api.Rec, 1000),
		{long(1001)},
		{"a", long(1001)},
		{long(1001), "a"},
		{"a", strings.Repeat(`"`, 1001), "b"},
		{strings.Repeat("é", 501)},
		{long(100000)},
		append(make(api.Rec, 50), long(1001)),
		append(make(api.Rec, 49), long(1001)),
	} {
		for _, l := range [][]api.Rec{
			{r},
			{{"a"}, r},
			{r, {"a"}},
			{{"a"}, r, {"b"}},
			append(slices.Repeat([]api.Rec{{"a", "b"}}, 5000), r),
		} {
			if b, e := csv.Write(l); len(b) != 0 || e != api.ErrDomain {
				t.Errorf("Write(%.60q) = %.60q, %d", l, b, e)
			}
		}
	}
}

func TestCanon(t *testing.T) {
	for _, x := range []struct {
		s    string
		want bool
	}{
		{"", true},
		{"\n", true},
		{"\n\n", true},
		{"a\n", true},
		{"a,b\nc\n", true},
		{",\n", true},
		{"\"a,b\"\n", true},
		{"\"\"\"\"\n", true},
		{"\"\n\"\n\"\r\",\"\r\n\"\n", true},
		{strings.Repeat(",", 49) + "\n", true},
		{long(1000) + "\n", true},
		// The last record does not end with 10, or one ends with 13 and 10.
		{"a", false},
		{"a,b\nc", false},
		{",", false},
		{"\"\n\"", false},
		{"a\r\n", false},
		{"\r\n", false},
		{"a\nb\r\nc\n", false},
		{"\"\n\"\r\n", false},
		// Fields are quoted that need not be.
		{"\"a\"\n", false},
		{"\"\"\n", false},
		{"a,\"\",b\n", false},
		{"\" a\"\n", false},
		{"\"a,b\",\"c\"\n", false},
		// What has an error is not what Write returns.
		{"a\"\n", false},
		{"a\n\"", false},
		{"a\n\r", false},
		{"\"a,b\"c\n", false},
		{strings.Repeat(",", 50) + "\n", false},
		{long(1001) + "\n", false},
		{"a\n" + long(1001) + "\n", false},
		{"\"" + long(1000) + ",\"\n", false},
	} {
		if csv.Canon([]byte(x.s)) != x.want {
			t.Errorf("Canon(%.60q) is not %t", x.s, x.want)
		}
	}
	if !csv.Canon(nil) {
		t.Error("nil is not canonical")
	}
}

// P6.1: F2

func TestQuote(t *testing.T) {
	for _, x := range [][2]string{
		{"", ""},
		{"a", "a"},
		{" ", " "},
		{"\t\v\f\x00'\\;é\xff\u2028", "\t\v\f\x00'\\;é\xff\u2028"},
		{",", `","`},
		{`"`, `""""`},
		{`""`, `""""""`},
		{"\n", "\"\n\""},
		{"\r", "\"\r\""},
		{"a,b", `"a,b"`},
		{`a"b`, `"a""b"`},
		{"a\r\nb", "\"a\r\nb\""},
		{`",` + "\n\r\xff", `""",` + "\n\r\xff\""},
		// Quote has no limit.
		{long(1001), long(1001)},
		{strings.Repeat(`"`, 5000), strings.Repeat(`"`, 10002)},
	} {
		if got := csv.Quote(x[0]); got != x[1] {
			t.Errorf("Quote(%.60q) = %.60q; want %.60q", x[0], got, x[1])
		}
	}
	for c := range 256 {
		for _, s := range []string{string([]byte{byte(c)}), "some text " + string([]byte{byte(c)}) + "é\xff"} {
			if got := csv.Quote(s); got != wantQuote(s) {
				t.Errorf("Quote(%q) = %q", s, got)
			}
		}
	}
	strung(kinds, 6, func(s string) {
		if got := csv.Quote(s); got != wantQuote(s) {
			t.Errorf("Quote(%q) = %q", s, got)
		}
	})
}

func TestInside(t *testing.T) {
	for _, x := range []struct {
		s    string
		want []int
	}{
		{"", nil},
		{"a,b\n", nil},
		{`"`, []int{1, 2, 3, 4}},
		{`""`, []int{1}},
		{`a"b"c`, []int{2, 3}},
		{`"a""b",c"`, []int{1, 2, 4, 5, 9, 10, 11, 12}},
		// Quotes count wherever they are, in what is not valid, too.
		{"a\"\nb\"\n", []int{2, 3, 4}},
		{"\r\"", []int{2, 3, 4, 5}},
	} {
		for at := -3; at <= len(x.s)+3; at++ {
			if got := csv.Inside([]byte(x.s), at); got != slices.Contains(x.want, at) {
				t.Errorf("Inside(%q, %d) = %t", x.s, at, got)
			}
		}
		odd := strings.Count(x.s, `"`)%2 == 1
		if csv.Inside([]byte(x.s), math.MinInt) || csv.Inside([]byte(x.s), math.MaxInt) != odd {
			t.Errorf("Inside(%q) far outside", x.s)
		}
	}
	if csv.Inside(nil, 0) || csv.Inside(nil, 1) || csv.Inside(nil, -1) {
		t.Error("something is inside nil")
	}
}

func TestRead(t *testing.T) {
	// The records begin at 0, 8, 10, 11, 14.
	s := "a,\"b\nc\"\nd\n\ne\r\n\"\"\"\n\"\"\",f"
	first, second, third := api.Rec{"a", "b\nc"}, api.Rec{"d"}, api.Rec{""}
	fourth, fifth := api.Rec{"e"}, api.Rec{"\"\n\"", "f"}
	n := len(s)
	for _, x := range []struct {
		from, to int
		want     []api.Rec
	}{
		{0, n, []api.Rec{first, second, third, fourth, fifth}},
		{0, 0, nil},
		{0, 1, []api.Rec{first}},
		{0, 8, []api.Rec{first}},
		{0, 9, []api.Rec{first, second}},
		{1, 8, nil},
		{1, 9, []api.Rec{second}},
		// The 10 between quotes at 4 ends no record.
		{4, 8, nil},
		{5, 8, nil},
		{5, 9, []api.Rec{second}},
		{6, 9, []api.Rec{second}},
		{7, 9, []api.Rec{second}},
		{8, 8, nil},
		{8, 9, []api.Rec{second}},
		{8, 11, []api.Rec{second, third}},
		{9, 10, nil},
		{9, 11, []api.Rec{third}},
		{10, 11, []api.Rec{third}},
		{11, 12, []api.Rec{fourth}},
		{12, 14, nil},
		// Between 13 and 10.
		{13, 14, nil},
		{13, 15, []api.Rec{fifth}},
		{14, 15, []api.Rec{fifth}},
		// Between two quotes that stand for one.
		{16, n, nil},
		{17, n, nil},
		{18, n, nil},
		{19, n, nil},
		{20, n, nil},
		{n - 1, n, nil},
		{n, n, nil},
	} {
		l, e := csv.Read([]byte(s), x.from, x.to, wantInside(s, x.from), n)
		if !same(l, x.want) || e != api.OK {
			t.Errorf("Read(%d, %d) = %q, %d; want %q", x.from, x.to, l, e, x.want)
		}
	}
	if l, e := csv.Read(nil, 0, 0, false, 0); len(l) != 0 || e != api.OK {
		t.Errorf("Read of an empty file: %q, %d", l, e)
	}
}

func TestReadBeyondValidPart(t *testing.T) {
	// The valid part has 4 bytes; what follows the error is not read.
	s := "a\nb\nc\"\nd\ne\n"
	a, b := api.Rec{"a"}, api.Rec{"b"}
	for _, x := range []struct {
		from, to int
		want     []api.Rec
		e        api.Errno
	}{
		{0, 0, nil, api.OK},
		{0, 2, []api.Rec{a}, api.OK},
		{0, 4, []api.Rec{a, b}, api.OK},
		{0, 5, []api.Rec{a, b}, api.ErrForm},
		{0, 11, []api.Rec{a, b}, api.ErrForm},
		{1, 4, []api.Rec{b}, api.OK},
		{1, 11, []api.Rec{b}, api.ErrForm},
		{3, 4, nil, api.OK},
		{3, 5, nil, api.ErrForm},
		{4, 4, nil, api.OK},
		{4, 5, nil, api.ErrForm},
		{5, 5, nil, api.ErrForm},
		{5, 11, nil, api.ErrForm},
		{7, 11, nil, api.ErrForm},
		{9, 11, nil, api.ErrForm},
		{11, 11, nil, api.ErrForm},
	} {
		l, e := csv.Read([]byte(s), x.from, x.to, wantInside(s, x.from), 4)
		if !same(l, x.want) || e != x.e {
			t.Errorf("Read(%d, %d) = %q, %d; want %q, %d", x.from, x.to, l, e, x.want, x.e)
		}
	}
	// An error of size is ErrForm here, too.
	large := "a\n" + long(1001) + "\n"
	if l, e := csv.Read([]byte(large), 0, 3, false, 2); !same(l, []api.Rec{{"a"}}) || e != api.ErrForm {
		t.Errorf("Read of a file with a long field: %q, %d", l, e)
	}
	if l, e := csv.Read([]byte(`"x`), 0, 1, false, 0); len(l) != 0 || e != api.ErrForm {
		t.Errorf("Read of a file without a valid part: %q, %d", l, e)
	}
	if l, e := csv.Read([]byte(`"x`), 0, 0, false, 0); len(l) != 0 || e != api.OK {
		t.Errorf("Read of an empty split at the end of the valid part: %q, %d", l, e)
	}
}

func TestReadErrors(t *testing.T) {
	for _, s := range []string{"", "\n", "a,b\n\"c\n\"\n", "a\nb"} {
		n := len(s)
		for _, x := range [][3]int{
			{-1, 0, 0}, {-1, n, n}, {-1, -1, 0}, {-2, -1, 0}, {0, -1, 0}, {1, 0, 0}, {n, n - 1, 0}, {n + 1, n, n},
			{0, n + 1, n}, {n, n + 1, n}, {n + 1, n + 1, n}, {n + 1, n + 2, n}, {-1, n + 1, n},
			{0, 0, -1}, {0, n, -1}, {0, 0, n + 1}, {0, n, n + 1}, {n, n, n + 1}, {0, n + 1, n + 1}, {-1, -1, -1},
			{math.MinInt, 0, 0}, {0, math.MinInt, 0}, {math.MinInt, math.MinInt, 0}, {math.MinInt, math.MaxInt, 0},
			{0, math.MaxInt, n}, {math.MaxInt, 0, 0}, {math.MaxInt, math.MaxInt, 0}, {math.MaxInt, math.MinInt, 0},
			{0, n, math.MaxInt}, {0, n, math.MinInt}, {0, 0, math.MinInt}, {math.MaxInt, math.MaxInt, math.MaxInt},
		} {
			for _, inside := range []bool{false, true} {
				if l, e := csv.Read([]byte(s), x[0], x[1], inside, x[2]); len(l) != 0 || e != api.ErrArg {
					t.Errorf("Read(%q, %d, %d, %t, %d) = %q, %d", s, x[0], x[1], inside, x[2], l, e)
				}
			}
		}
	}
}

func TestReadOfOtherArguments(t *testing.T) {
	// Whatever is given as inside and as good, Read ends without a panic, and
	// its error is the one that good tells.
	strung(kinds, 4, func(s string) {
		for from := 0; from <= len(s); from++ {
			for to := from; to <= len(s); to++ {
				for good := 0; good <= len(s); good++ {
					for _, inside := range []bool{false, true} {
						want := api.OK
						if good < to {
							want = api.ErrForm
						}
						if _, e := csv.Read([]byte(s), from, to, inside, good); e != want {
							t.Errorf("Read(%q, %d, %d, %t, %d): %d", s, from, to, inside, good, e)
						}
					}
				}
			}
		}
	})
}

func TestAllShortFiles(t *testing.T) {
	strung(kinds, 6, func(s string) {
		checkScan(t, s)
		checkInside(t, s)
		checkRewrite(t, s)
		l, good, _ := wantScan(s)
		for from := -1; from <= len(s)+1; from++ {
			for to := -1; to <= len(s)+1; to++ {
				checkRead(t, s, from, to, l, good)
			}
		}
	})
}

func TestRandomFiles(t *testing.T) {
	r := rand.New(rand.NewSource(8))
	seen := map[api.Errno]int{}
	for range 2000 {
		s := string(damagedFile(r, randomRecords(r, r.Intn(8), 1+r.Intn(50))))
		checkScan(t, s)
		l, good, e := wantScan(s)
		seen[e]++
		for range 5 {
			cuts := randomCuts(r, len(s), 2)
			checkRead(t, s, cuts[1], cuts[2], l, good)
		}
	}
	for _, e := range []api.Errno{api.OK, api.ErrForm, api.ErrLarge} {
		if seen[e] < 20 {
			t.Errorf("only %d random files have the error %d", seen[e], e)
		}
	}
}

// P6.2

func TestAllSplitsOfShortFiles(t *testing.T) {
	strung(kinds, 6, func(s string) {
		eachCuts(len(s), func(cuts []int) { checkSplits(t, []byte(s), cuts) })
	})
}

func TestEqualCuts(t *testing.T) {
	// Splits without a byte have no records, wherever they are.
	strung(kinds, 5, func(s string) {
		for at := range len(s) + 1 {
			checkSplits(t, []byte(s), []int{0, 0, at, at, at, len(s), len(s)})
		}
	})
}

func TestSplitsOfRandomFiles(t *testing.T) {
	r := rand.New(rand.NewSource(9))
	for range 300 {
		b := damagedFile(r, randomRecords(r, r.Intn(12), 1+r.Intn(50)))
		for range 5 {
			checkSplits(t, b, randomCuts(r, len(b), r.Intn(60)))
		}
	}
}

func TestSplitsOfEachByte(t *testing.T) {
	// Many splits within one field with many quotes and ends of line: only the
	// first split has its record.
	s := "a\n\"" + strings.Repeat("\"\"\n,\r\n", 200) + "\",b\r\n\n" + strings.Repeat(`"",`, 49) + "\nc"
	for _, s := range []string{s, s + `"`, `"` + s, "\n" + s + "\nd\r"} {
		var cuts []int
		for at := range len(s) + 1 {
			cuts = append(cuts, at)
		}
		checkSplits(t, []byte(s), cuts)
	}
}

// P6.3

func TestRoundTripOfRecords(t *testing.T) {
	strung(kinds, 5, func(s string) {
		checkWrite(t, []api.Rec{{s}})
		checkWrite(t, []api.Rec{{s}, {s}})
		checkWrite(t, []api.Rec{{"", s}, {s, "a"}, {""}})
		checkWrite(t, []api.Rec{{}, {s}})
	})
	var l []api.Rec
	for n := range 1001 {
		l = append(l, api.Rec{long(n), strings.Repeat(kinds[n%5:n%5+1], n)})
	}
	for n := range 50 {
		l = append(l, slices.Repeat(api.Rec{kinds[n%5:]}, n+1))
	}
	checkWrite(t, l)
	checkWrite(t, append(l, api.Rec{long(1001)}))
	checkWrite(t, append(l, make(api.Rec, 51)))
	r := rand.New(rand.NewSource(10))
	for range 300 {
		checkWrite(t, randomRecords(r, r.Intn(20), 1+r.Intn(51)))
	}
}

func TestRoundTripOfFiles(t *testing.T) {
	for _, s := range []string{
		"", "\n", "\n\n\n", "a\n", "a,b\nc\n", "\"\r\n\"\n", "\x00\xff\n",
		long(1000) + "\n", "\n" + long(1000) + ",\n" + strings.Repeat(",", 49) + "\n",
		// These are not canonical.
		"a", "a\r\n", `""`, "\"a\"\n", "a\n\"", long(1001) + "\n",
	} {
		checkRewrite(t, s)
	}
	r := rand.New(rand.NewSource(11))
	for range 300 {
		l := randomRecords(r, r.Intn(10), 1+r.Intn(50))
		checkRewrite(t, string(damagedFile(r, l)))
		b, _ := csv.Write(l)
		checkRewrite(t, string(b))
	}
}

func TestEachWayOfWriting(t *testing.T) {
	// However records are written, reading returns them.
	r := rand.New(rand.NewSource(12))
	for range 300 {
		l := randomRecords(r, r.Intn(10), 1+r.Intn(50))
		b := randomFile(r, l)
		if pieces, n, e := csv.Scan(b); !same(records(pieces), l) || n != len(b) || e != api.OK {
			t.Errorf("the records of %.60q are %.60q, %d, %d", b, records(pieces), n, e)
		}
	}
}

// The document's rules for all layers

// roomy returns the bytes of s with memory beyond their length, and all of that memory.
func roomy(s string) ([]byte, []byte) {
	all := append([]byte(s), bytes.Repeat([]byte{'"'}, 40)...)
	return all[:len(s)], all
}

func TestArgumentsStay(t *testing.T) {
	s := "a,\"\"\"\n\"\n\nbc,d"
	b, whole := roomy(s)
	before := bytes.Clone(whole)
	pieces, _, _ := csv.Scan(b)
	l, _ := csv.Read(b, 0, len(b), false, len(b))
	csv.Canon(b)
	csv.Inside(b, 4)
	if !bytes.Equal(whole, before) {
		t.Errorf("the file, or the memory beyond it, became %q", whole)
	}
	clear(whole)
	want := []api.Rec{{"a", "\"\n"}, {""}, {"bc", "d"}}
	if !same(l, want) || !same(records(pieces), want) {
		t.Errorf("writing to the file changed the results: %q, %v", l, pieces)
	}
	r := api.Rec{"a", "x,", "y"}
	given := []api.Rec{r[:2], {"b\""}, {"z"}}
	out, _ := csv.Write(given[:2])
	clear(out[:cap(out)])
	if !slices.Equal(r, api.Rec{"a", "x,", "y"}) || !same(given, []api.Rec{{"a", "x,"}, {"b\""}, {"z"}}) {
		t.Errorf("Write changed its argument: %q", given)
	}
	if again, e := csv.Write(given[:2]); string(again) != "a,\"x,\"\n\"b\"\"\"\n" || e != api.OK {
		t.Errorf("the same records give another file the second time: %q, %d", again, e)
	}
}

func TestMemoryBeyondLengthIsIgnored(t *testing.T) {
	whole := []byte("a\nbc,\"d\"\n")
	if l, n, e := csv.Scan(whole[:3]); len(l) != 2 || !slices.Equal(l[1].R[0], api.Rec{"b"}) || n != 3 || e != api.OK {
		t.Errorf("Scan of a record that goes on beyond the length: %v, %d, %d", l, n, e)
	}
	if l, n, e := csv.Scan(whole[:7]); len(l) != 1 || n != 2 || e != api.ErrForm {
		t.Errorf("Scan of a quoted field that goes on beyond the length: %v, %d, %d", l, n, e)
	}
	if l, e := csv.Read(whole[:3], 1, 3, false, 3); !same(l, []api.Rec{{"b"}}) || e != api.OK {
		t.Errorf("Read of a record that goes on beyond the length: %q, %d", l, e)
	}
	if l, e := csv.Read(whole[:3], 0, 4, false, 3); len(l) != 0 || e != api.ErrArg {
		t.Errorf("Read of a split that goes on beyond the length: %q, %d", l, e)
	}
	if l, e := csv.Read(whole[:3], 0, 3, false, 4); len(l) != 0 || e != api.ErrArg {
		t.Errorf("Read of a valid part that goes on beyond the length: %q, %d", l, e)
	}
	if csv.Canon(whole[:1]) || csv.Inside(whole[:5], 6) {
		t.Error("bytes beyond the length count")
	}
	l := []api.Rec{{"a", "more"}, {}}
	l[0] = l[0][:1]
	if b, e := csv.Write(l[:1]); string(b) != "a\n" || e != api.OK {
		t.Errorf("Write of records that go on beyond the length: %q, %d", b, e)
	}
}

func TestResultsShareNoMemory(t *testing.T) {
	// Writing to one record of a result, its spare capacity included, changes no other one.
	b := []byte("a\nb,c,d\n\n\"e\",f\ng")
	l, _ := csv.Read(b, 0, len(b), false, len(b))
	pieces, _, _ := csv.Scan(b)
	want := []api.Rec{{"a"}, {"b", "c", "d"}, {""}, {"e", "f"}, {"g"}}
	for i := range want {
		own, other := l[i][:cap(l[i])], pieces[i].R[0][:cap(pieces[i].R[0])]
		lists := pieces[i].R[:cap(pieces[i].R)]
		for k := range own {
			own[k] = "changed"
		}
		for k := range other {
			other[k] = "changed"
		}
		for k := range lists {
			lists[k] = api.Rec{"changed"}
		}
		if !same(l[i+1:], want[i+1:]) || !same(records(pieces[i+1:]), want[i+1:]) {
			t.Errorf("writing to record %d changed another one: %q, %v", i, l, pieces)
		}
	}
	if again, _ := csv.Read(b, 0, len(b), false, len(b)); !same(again, want) {
		t.Errorf("the same file has other records the second time: %q", again)
	}
}

func FuzzCSV(f *testing.F) {
	f.Add([]byte("ab,\"c\n\"\"\"\n\nc"), 2, 4)
	f.Add([]byte("a\r\n,\"\r\n\""), 0, 3)
	f.Add([]byte("a\"\n"), -1, 7)
	f.Add([]byte(strings.Repeat(",", 50)), 1, 2)
	f.Add([]byte(long(1001)+"\n"), 1, 1002)
	f.Fuzz(func(t *testing.T, b []byte, from, to int) {
		// Beyond some size the plain functions of this test take too long.
		b = b[:min(len(b), 3000)]
		s := string(b)
		checkScan(t, s)
		checkInside(t, s)
		checkRewrite(t, s)
		checkWrite(t, []api.Rec{{s, s}, {""}})
		l, good, _ := wantScan(s)
		checkRead(t, s, from, to, l, good)
		if 0 <= from && from <= to && to <= len(b) {
			checkSplits(t, b, []int{0, from, to, len(b)})
		}
	})
}
