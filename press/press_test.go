package press_test

import (
	"bytes"
	"math"
	"math/big"
	"math/rand"
	"strings"
	"testing"

	"threshing/api"
	"threshing/press"
	"threshing/varint"
)

// wantMatch tries every distance at position i, as the document describes it.
func wantMatch(b []byte, i int) (int, int) {
	length, distance := 0, 0
	for d := 1; d <= 4096 && d <= i; d++ {
		n := 0
		for n < 200 && i+n < len(b) && b[i+n] == b[i+n-d] {
			n++
		}
		if n > length {
			length, distance = n, d
		}
	}
	return length, distance
}

// wantPress compresses by the words of the document, and counts the tokens.
func wantPress(b []byte) ([]byte, int, int) {
	out := varint.Put(nil, uint64(len(b)))
	literals, matches := 0, 0
	var waiting []byte
	flush := func() {
		for len(waiting) > 0 {
			n := min(64, len(waiting))
			out = append(varint.Put(out, uint64(2*n-2)), waiting[:n]...)
			waiting = waiting[n:]
			literals++
		}
	}
	for i := 0; i < len(b); {
		length, distance := wantMatch(b, i)
		if length < 4 {
			waiting = append(waiting, b[i])
			i++
			continue
		}
		flush()
		out = varint.Put(varint.Put(out, uint64(2*(length-4)+1)), uint64(distance))
		matches++
		i += length
	}
	flush()
	return out, literals, matches
}

// wantExpand expands by the words of the document, with numbers of any size.
// The bytes of a match are not written where there would be too many.
func wantExpand(b []byte, most int) ([]byte, api.Errno) {
	stated, b, e := varint.Take(b)
	if e != api.OK {
		return nil, e
	}
	size := new(big.Int).SetUint64(stated)
	if size.Cmp(big.NewInt(int64(most))) > 0 {
		return nil, api.ErrLarge
	}
	var out []byte
	for len(b) > 0 {
		var c uint64
		if c, b, e = varint.Take(b); e != api.OK {
			return nil, e
		}
		length := new(big.Int).SetUint64(c / 2)
		distance := uint64(0)
		if c%2 == 0 {
			length.Add(length, big.NewInt(1))
			if length.Cmp(big.NewInt(int64(len(b)))) > 0 {
				return nil, api.ErrShort
			}
		} else {
			length.Add(length, big.NewInt(4))
			if distance, b, e = varint.Take(b); e != api.OK {
				return nil, e
			}
			if distance == 0 || distance > 4096 || distance > uint64(len(out)) {
				return nil, api.ErrForm
			}
		}
		after := new(big.Int).Add(length, big.NewInt(int64(len(out))))
		if after.Cmp(size) > 0 {
			return nil, api.ErrForm
		}
		for range length.Int64() {
			if distance == 0 {
				out = append(out, b[0])
				b = b[1:]
			} else {
				out = append(out, out[uint64(len(out))-distance])
			}
		}
	}
	if big.NewInt(int64(len(out))).Cmp(size) < 0 {
		return nil, api.ErrForm
	}
	return out, api.OK
}

// checkPress compares Press, Expand and Marks for the original bytes b.
func checkPress(t *testing.T, b []byte) {
	t.Helper()
	want, literals, matches := wantPress(b)
	got, e := press.Press(b)
	if !bytes.Equal(got, want) || e != api.OK {
		t.Fatalf("Press(%d bytes, %.40x) = %.40x, %d; want %.40x", len(b), b, got, e, want)
	}
	if len(got) > len(b)+len(b)/64+4 {
		t.Errorf("%d bytes became %d", len(b), len(got))
	}
	for _, most := range []int{len(b), len(b) + 1, math.MaxInt} {
		if back, e := press.Expand(got, most); !bytes.Equal(back, b) || e != api.OK {
			t.Errorf("Expand(Press(%d bytes, %.40x), %d) = %.40x, %d", len(b), b, most, back, e)
		}
	}
	if back, e := press.Expand(got, len(b)-1); len(back) != 0 || e != api.ErrLarge {
		t.Errorf("Expand of %d bytes with one less as most = %.40x, %d", len(b), back, e)
	}
	if n, k, e := press.Marks(got); n != literals || k != matches || e != api.OK {
		t.Errorf("Marks of %.40x = %d, %d, %d; want %d, %d", got, n, k, e, literals, matches)
	}
}

// checkExpand compares Expand and Marks for the compressed bytes b.
func checkExpand(t *testing.T, b []byte, most int) {
	t.Helper()
	got, e := press.Expand(b, most)
	want, wantE := wantExpand(b, most)
	if !bytes.Equal(got, want) || e != wantE {
		t.Errorf("Expand(%x, %d) = %.40x, %d; want %.40x, %d", b, most, got, e, want, wantE)
	}
	n, k, e := press.Marks(b)
	if _, wantE = wantExpand(b, 20000); e != wantE || e != api.OK && (n != 0 || k != 0) {
		t.Errorf("Marks(%x) = %d, %d, %d; want %d", b, n, k, e, wantE)
	}
}

// distinct returns bytes of which no four consecutive ones occur twice.
func distinct(n int) []byte {
	b := make([]byte, 0, n+3)
	for i := 0; len(b) < n; i++ {
		b = append(b, byte(i), byte(i>>8), 0xff-byte(i>>8))
	}
	return b[:n]
}

// random returns n bytes of a few kinds, the same ones for the same seed.
func random(seed int64, n, kinds int) []byte {
	r := rand.New(rand.NewSource(seed))
	b := make([]byte, n)
	for i := range b {
		b[i] = byte(r.Intn(kinds))
	}
	return b
}

func TestPressBytes(t *testing.T) {
	for _, x := range []struct{ b, want string }{
		{"", "\x00"},
		{"a", "\x01\x00a"},
		{"aaaa", "\x04\x06aaaa"},
		{"aaaaa", "\x05\x00a\x01\x01"},
		{strings.Repeat("\x07", 20), "\x14\x00\x07\x1f\x01"},
		{"abcdeabcdx", "\x0a\x08abcde\x01\x05\x00x"},
		// Three bytes are no match.
		{"abcdabcx", "\x08\x0eabcdabcx"},
		// Of equal lengths the least distance is taken.
		{"abcd1abcd2abcd", "\x0e\x08abcd1\x01\x05\x002\x01\x05"},
		// The longest match is taken, though another one is nearer.
		{"abcde1abcd2abcde", "\x10\x0aabcde1\x01\x06\x002\x03\x0b"},
		// A match overlaps itself, and ends with the bytes.
		{"abcabcabcabca", "\x0d\x04abc\x0d\x03"},
		// A position inside a match is as good as any other.
		{"0abcdefg1abcdefg2cdefg", "\x16\x100abcdefg1\x07\x08\x002\x03\x06"},
	} {
		got, e := press.Press([]byte(x.b))
		if string(got) != x.want || e != api.OK {
			t.Errorf("Press(%q) = %q, %d; want %q", x.b, got, e, x.want)
		}
		checkPress(t, []byte(x.b))
	}
}

func TestPressOfAllShortBytes(t *testing.T) {
	for n := range 13 {
		for bits := range 1 << n {
			b := make([]byte, n)
			for i := range b {
				b[i] = byte(bits >> i & 1)
			}
			checkPress(t, b)
		}
	}
}

func TestPressOfRuns(t *testing.T) {
	for period := 1; period <= 7; period++ {
		for n := range 620 {
			checkPress(t, bytes.Repeat(distinct(period), n/period+1)[:n])
		}
	}
}

func TestMatchLengths(t *testing.T) {
	source := distinct(300)
	for _, n := range []int{3, 4, 5, 66, 67, 68, 69, 198, 199, 200, 201, 204, 300} {
		b := append(append(bytes.Clone(source), 1, 1), source[:n]...)
		checkPress(t, b)
		checkPress(t, append(b, 1))
	}
	b := append(bytes.Clone(source), source[:201]...)
	got, _ := press.Press(b)
	// The length 200 is followed by the literal for which nothing is left to match.
	if !bytes.HasSuffix(got, append(varint.Put(varint.Put(nil, 393), 300), 0, source[200])) {
		t.Errorf("201 equal bytes: %x", got[len(got)-20:])
	}
}

func TestMatchDistances(t *testing.T) {
	for _, d := range []int{4, 127, 128, 4094, 4095, 4096, 4097, 4098, 8192} {
		source := distinct(d)
		checkPress(t, append(bytes.Clone(source), source[:4]...))
		_, k, _ := press.Marks(pressed(t, append(bytes.Clone(source), source[:4]...)))
		if want := map[bool]int{true: 1, false: 0}[d <= 4096]; k != want {
			t.Errorf("%d matches at the distance %d; want %d", k, d, want)
		}
	}
	// A longer match beyond the farthest distance is not taken for a near one.
	b := append([]byte("abcdefgh"), distinct(4090)...)
	b = append(append(b, "abcdX"...), "abcdefgh"...)
	checkPress(t, b)
}

func pressed(t *testing.T, b []byte) []byte {
	t.Helper()
	got, e := press.Press(b)
	if e != api.OK {
		t.Fatalf("Press of %d bytes: %d", len(b), e)
	}
	return got
}

func TestLiteralTokens(t *testing.T) {
	for _, n := range []int{1, 2, 63, 64, 65, 127, 128, 129, 192, 640, 641} {
		b := distinct(n)
		checkPress(t, b)
		literals, matches, _ := press.Marks(pressed(t, b))
		if literals != (n+63)/64 || matches != 0 {
			t.Errorf("%d bytes: %d literal tokens, %d matches", n, literals, matches)
		}
		// Behind a match the literals are counted anew.
		checkPress(t, append(append(bytes.Repeat([]byte{9}, 50), b...), bytes.Repeat([]byte{9}, 50)...))
	}
}

func TestPressOfRandomBytes(t *testing.T) {
	for seed := range int64(60) {
		for _, kinds := range []int{1, 2, 3, 5, 20, 256} {
			checkPress(t, random(seed, int(seed)*29, kinds))
		}
	}
	for _, kinds := range []int{2, 4, 16} {
		checkPress(t, random(7, 12000, kinds))
	}
}

func TestLimitOfPress(t *testing.T) {
	for _, b := range [][]byte{make([]byte, 20000), distinct(20000), random(1, 20000, 256), bytes.Repeat([]byte("abcdefgh\n"), 2223)[:20000]} {
		checkPress(t, b)
	}
	for _, n := range []int{20001, 20002, 40000, 1 << 20} {
		if b, e := press.Press(make([]byte, n)); len(b) != 0 || e != api.ErrLarge {
			t.Errorf("Press of %d bytes = %.40x, %d", n, b, e)
		}
	}
}

func TestLongestResult(t *testing.T) {
	if n := len(pressed(t, distinct(20000))); n != 20316 {
		t.Errorf("20000 literals became %d bytes", n)
	}
	// Matches of four bytes at great distances, with few literals between them.
	source := distinct(3000)
	b := bytes.Clone(source)
	for i := 0; i+4 <= len(source) && len(b) < 6000; i += 4 {
		b = append(append(b, source[i:i+4]...), byte(i), byte(i>>3))
	}
	checkPress(t, b)
}

func TestExpandErrors(t *testing.T) {
	huge := "\xff\xff\xff\xff\xff\xff\xff\xff\xff\x01"
	even := "\xfe\xff\xff\xff\xff\xff\xff\xff\xff\x01"
	for _, x := range []struct {
		b    string
		most int
		e    api.Errno
	}{
		// The number of bytes.
		{"", 8, api.ErrShort},
		{"\x80", 8, api.ErrShort},
		{"\x80\x00", 8, api.ErrForm},
		{strings.Repeat("\xff", 10), 8, api.ErrForm},
		{strings.Repeat("\xff", 9) + "\x02", 8, api.ErrForm},
		{"", -1, api.ErrShort},
		{"\x80\x00", -1, api.ErrForm},
		// The number is too large, whatever follows.
		{"\x00", -1, api.ErrLarge},
		{"\x00", math.MinInt, api.ErrLarge},
		{"\x05\x00a\x01\x01", -1, api.ErrLarge},
		{"\x05\x00a\x01\x01", 4, api.ErrLarge},
		{"\x01", 0, api.ErrLarge},
		{"\x09\x80\x00", 8, api.ErrLarge},
		{huge, math.MaxInt, api.ErrLarge},
		{"\x80\x80\x80\x80\x80\x80\x80\x80\x80\x01\x00a", math.MaxInt, api.ErrLarge},
		// The numbers of tokens.
		{"\x05\x80", 8, api.ErrShort},
		{"\x05\x80\x00", 8, api.ErrForm},
		{"\x05\x00a\x01", 8, api.ErrShort},
		{"\x05\x00a\x01\x81", 8, api.ErrShort},
		{"\x05\x00a\x01\x81\x00", 8, api.ErrForm},
		{"\x05\x00a" + strings.Repeat("\xff", 9), 8, api.ErrShort},
		{"\x05\x00a" + strings.Repeat("\xff", 10), 8, api.ErrForm},
		// A missing distance comes before a match that is too long.
		{"\x01\x00a\x01", 8, api.ErrShort},
		{"\x01\x01", 8, api.ErrShort},
		{"\x05\x00a" + huge, 8, api.ErrShort},
		// Literal bytes are missing, which comes before too many.
		{"\x01\x00", 8, api.ErrShort},
		{"\x05\x08abcd", 8, api.ErrShort},
		{"\x00\x00", 8, api.ErrShort},
		{"\x01\x00a\x02b", 8, api.ErrShort},
		{"\x05" + even, 8, api.ErrShort},
		{"\x05\x00a" + even + "bcde", 8, api.ErrShort},
		// Distances.
		{"\x05\x00a\x01\x00", 8, api.ErrForm},
		{"\x05\x00a\x01\x02", 8, api.ErrForm},
		{"\x04\x01\x01", 8, api.ErrForm},
		{"\x04\x01\x00", 8, api.ErrForm},
		{"\x05\x00a\x01" + huge, 8, api.ErrForm},
		{"\x05\x00a\x01\x81\x80\x80\x80\x80\x80\x80\x80\x80\x01", 8, api.ErrForm},
		// Too many bytes.
		{"\x00\x00a", 8, api.ErrForm},
		{"\x01\x00a\x00b", 8, api.ErrForm},
		{"\x01\x02ab", 8, api.ErrForm},
		{"\x04\x00a\x01\x01", 8, api.ErrForm},
		{"\x05\x00a\x03\x01", 8, api.ErrForm},
		{"\x05\x00a" + huge + "\x01", 8, api.ErrForm},
		{"\xff\xff\xff\xff\xff\xff\xff\xff\x7f\x00a" + huge + "\x01", math.MaxInt, api.ErrForm},
		// The first error is that of the first token.
		{"\x01\x02ab\x80", 8, api.ErrForm},
		{"\x05\x00a\x01\x02\x80", 8, api.ErrForm},
		{"\x05\x00a\x01\x01\x80", 8, api.ErrShort},
		// Too few bytes.
		{"\x05", 8, api.ErrForm},
		{"\x05\x00a", 8, api.ErrForm},
		{"\x06\x00a\x01\x01", 8, api.ErrForm},
		{"\xff\xff\xff\xff\xff\xff\xff\xff\x7f", math.MaxInt, api.ErrForm},
	} {
		b, e := press.Expand([]byte(x.b), x.most)
		if len(b) != 0 || e != x.e {
			t.Errorf("Expand(%x, %d) = %x, %d; want %d", x.b, x.most, b, e, x.e)
		}
		checkExpand(t, []byte(x.b), x.most)
	}
	if _, e := press.Expand(nil, 8); e != api.ErrShort {
		t.Errorf("Expand(nil): %d", e)
	}
}

func TestExpandOfOtherTokens(t *testing.T) {
	long := strings.Repeat("xyz", 100)
	far := string(distinct(4097))
	for _, x := range []struct{ b, want string }{
		{"\x00", ""},
		{"\x03\x00a\x00b\x00c", "abc"},
		{"\x05\x00a\x01\x01", "aaaaa"},
		{"\x06\x02ab\x01\x02", "ababab"},
		{"\x07\x04abc\x01\x02", "abcbcbc"},
		{"\x0b\x04abc\x01\x03\x01\x02", "abcabcacaca"},
		{"\x09\x00a\x01\x01\x01\x05", "aaaaaaaaa"},
		// A literal token with more than 64 bytes, a match with more than 200.
		{"\xac\x02\xd6\x04" + long, long},
		{"\xac\x02\x04xyz\xcb\x04\x03", long},
		// The greatest distance.
		{"\x85\x20\x80\x40" + far + "\x01\x80\x20", far + far[1:5]},
	} {
		b, e := press.Expand([]byte(x.b), 20000)
		want, wantE := wantExpand([]byte(x.b), 20000)
		if string(b) != string(want) || e != wantE {
			t.Errorf("Expand(%.40x) = %.40x, %d; want %.40x, %d", x.b, b, e, want, wantE)
		}
		if e != api.OK || string(b) != x.want {
			t.Errorf("Expand(%.40x) = %.40x, %d; want %.40x", x.b, b, e, x.want)
		}
	}
	if b, e := press.Expand([]byte("\x85\x20\x80\x40"+far+"\x01\x81\x20"), 20000); len(b) != 0 || e != api.ErrForm {
		t.Errorf("the distance 4097: %.40x, %d", b, e)
	}
}

func TestExpandOfAllShortInputs(t *testing.T) {
	mosts := []int{-1, 0, 4, 20000, math.MaxInt}
	for i := range 256 {
		for j := range 256 {
			for _, most := range mosts {
				checkExpand(t, []byte{byte(i), byte(j)}, most)
			}
		}
	}
	some := []byte{0, 1, 2, 3, 4, 5, 6, 9, 128, 255}
	for code := range 1000000 {
		b := make([]byte, 6)
		for i := range b {
			b[i] = some[code%10]
			code /= 10
		}
		checkExpand(t, b, 8)
	}
}

func TestExpandOfChangedBytes(t *testing.T) {
	for seed := range int64(20) {
		b := pressed(t, random(seed, 150, 3))
		for i := range b {
			for _, x := range []byte{1, 2, 3, 64, 128, 255} {
				changed := bytes.Clone(b)
				changed[i] ^= x
				checkExpand(t, changed, 20000)
			}
			checkExpand(t, b[:i], 20000)
		}
	}
}

func TestExpandDoesNotWriteBeforeAnError(t *testing.T) {
	// A trillion bytes are stated and matched, and then there is an error.
	b := append(varint.Put(nil, 1<<40), 0, 'a')
	b = append(varint.Put(b, 2*(1<<40-5)+1), 1)
	for _, x := range []struct {
		end string
		e   api.Errno
	}{
		{"\x01\x00", api.ErrForm}, {"\x80", api.ErrShort}, {"\x00", api.ErrShort}, {"\x00a", api.ErrForm},
	} {
		if got, e := press.Expand(append(bytes.Clone(b), x.end...), math.MaxInt); len(got) != 0 || e != x.e {
			t.Errorf("%x behind a long match: %.40x, %d; want %d", x.end, got, e, x.e)
		}
	}
}

func TestExpandCountsBeyondTheGreatestNumber(t *testing.T) {
	// 2^63 - 1 bytes are stated and there; a match of 2^63 + 3 bytes makes them
	// 2^64 + 2, and the last one would fill up the 2 that a sum keeps of these.
	b := append(varint.Put(nil, math.MaxInt), 0, 'a')
	b = append(varint.Put(b, 2*(math.MaxInt-5)+1), 1)
	b = append(varint.Put(b, math.MaxUint64), 1)
	b = append(varint.Put(b, 2*(math.MaxInt-6)+1), 1)
	if got, e := press.Expand(b, math.MaxInt); len(got) != 0 || e != api.ErrForm {
		t.Errorf("%d bytes, %d", len(got), e)
	}
}

func TestExpandOfMoreThanMemoryDoesNotPanic(t *testing.T) {
	for _, size := range []uint64{1 << 31, 1 << 40, 1 << 62, math.MaxInt} {
		b := append(varint.Put(nil, size), 0, 'a')
		b = append(varint.Put(b, 2*(size-5)+1), 1)
		if got, e := press.Expand(b, math.MaxInt); len(got) != 0 || e == api.OK {
			t.Errorf("%d bytes: %d, %d", size, len(got), e)
		}
	}
}

func TestExpandBeyondTheLimitOfPress(t *testing.T) {
	b := append(varint.Put(nil, 5000001), 0, 'a')
	b = append(varint.Put(b, 2*(5000000-4)+1), 1)
	want := bytes.Repeat([]byte("a"), 5000001)
	if got, e := press.Expand(b, 5000001); !bytes.Equal(got, want) || e != api.OK {
		t.Errorf("%d bytes, %d", len(got), e)
	}
	// Many tokens take no more than their share of time.
	many := varint.Put(nil, 400000)
	many = append(many, bytes.Repeat([]byte{0, 'b'}, 400000)...)
	if got, e := press.Expand(many, 400000); !bytes.Equal(got, bytes.Repeat([]byte("b"), 400000)) || e != api.OK {
		t.Errorf("%d bytes, %d", len(got), e)
	}
}

func TestMarks(t *testing.T) {
	for _, x := range []struct {
		b        string
		literals int
		matches  int
		e        api.Errno
	}{
		{"\x00", 0, 0, api.OK},
		{"\x01\x00a", 1, 0, api.OK},
		{"\x14\x00\x07\x1f\x01", 1, 1, api.OK},
		{"\x0a\x08abcde\x01\x05\x00x", 2, 1, api.OK},
		{"\x03\x00a\x00b\x00c", 3, 0, api.OK},
		{"\x0d\x00a\x01\x01\x01\x01\x01\x01", 1, 3, api.OK},
		{"", 0, 0, api.ErrShort},
		{"\x80\x00", 0, 0, api.ErrForm},
		{"\x06\x00a\x01\x01", 0, 0, api.ErrForm},
		{"\x05\x00a\x01\x00", 0, 0, api.ErrForm},
		{"\x05\x00a\x01", 0, 0, api.ErrShort},
		{"\x05\x00a\x01\x01\x00", 0, 0, api.ErrShort},
		// 20000 and 20001 bytes.
		{"\xa0\x9c\x01\x00a\xb7\xb8\x02\x01", 1, 1, api.OK},
		{"\xa1\x9c\x01\x00a\xb9\xb8\x02\x01", 0, 0, api.ErrLarge},
		{"\xa1\x9c\x01", 0, 0, api.ErrLarge},
		{"\xa0\x9c\x01", 0, 0, api.ErrForm},
	} {
		n, k, e := press.Marks([]byte(x.b))
		if n != x.literals || k != x.matches || e != x.e {
			t.Errorf("Marks(%x) = %d, %d, %d; want %d, %d, %d", x.b, n, k, e, x.literals, x.matches, x.e)
		}
	}
}

// roomy returns the bytes of s with memory beyond their length, and all of that memory.
func roomy(s string) ([]byte, []byte) {
	all := append([]byte(s), bytes.Repeat([]byte{0xee}, 40)...)
	return all[:len(s)], all
}

func expand(b []byte) ([]byte, api.Errno) { return press.Expand(b, 20000) }

func marks(b []byte) ([]byte, api.Errno) {
	_, _, e := press.Marks(b)
	return nil, e
}

func TestMemory(t *testing.T) {
	for _, x := range []struct {
		name string
		give string
		call func(b []byte) ([]byte, api.Errno)
	}{
		{"Press", "abcdeabcdx", press.Press},
		{"Press of nothing", "", press.Press},
		{"Press of literals", string(distinct(70)), press.Press},
		{"Expand", "\x0a\x08abcde\x01\x05\x00x", expand},
		{"Expand of one literal", "\x05\x08abcde", expand},
		{"Expand of nothing", "\x00", expand},
		{"Expand with an error", "\x05\x08abcde\x00", expand},
		{"Marks", "\x0a\x08abcde\x01\x05\x00x", marks},
	} {
		b, all := roomy(x.give)
		before := bytes.Clone(all)
		got, _ := x.call(b)
		if !bytes.Equal(all, before) {
			t.Errorf("%s changed its argument, or the memory beyond it: %x", x.name, all)
		}
		// The spare capacity is the result's own, too.
		whole := got[:cap(got)]
		for i := range whole {
			whole[i] = 0x55
		}
		if !bytes.Equal(all, before) {
			t.Errorf("%s: writing to the result changed the argument", x.name)
		}
		for i := range all {
			all[i] = 0x77
		}
		if bytes.IndexByte(whole, 0x77) >= 0 {
			t.Errorf("%s: writing to the argument changed the result", x.name)
		}
	}
}

func TestMemoryBeyondLengthIsIgnored(t *testing.T) {
	all := []byte("\x05\x08abcde")
	if _, e := press.Expand(all[:6], 8); e != api.ErrShort {
		t.Errorf("literal bytes that go on beyond the length: %d", e)
	}
	all = []byte("\x05\x00a\x01\x01")
	if _, e := press.Expand(all[:4], 8); e != api.ErrShort {
		t.Errorf("a match that goes on beyond the length: %d", e)
	}
	all = []byte("abcdabcdabcd")
	if b, e := press.Press(all[:6]); string(b) != "\x06\x0aabcdab" || e != api.OK {
		t.Errorf("bytes that go on beyond the length: %x, %d", b, e)
	}
}

func TestCallsAreIndependent(t *testing.T) {
	b := random(3, 2000, 4)
	first := pressed(t, b)
	press.Press(random(4, 3000, 2))
	if again := pressed(t, b); !bytes.Equal(again, first) {
		t.Error("the same bytes are compressed differently the second time")
	}
}

func FuzzExpand(f *testing.F) {
	f.Add([]byte("\x14\x00\x07\x1f\x01"), 20)
	f.Add([]byte("\x0a\x08abcde\x01\x05\x00x"), 9)
	f.Add([]byte("\xff\xff\xff\xff\xff\xff\xff\xff\x7f\x00a\xff\xff\xff\xff\xff\xff\xff\xff\xff\x01\x01"), math.MaxInt)
	f.Fuzz(func(t *testing.T, b []byte, most int) {
		// Beyond some size the plain decoder of this test takes too long.
		checkExpand(t, b, min(most, 1<<20))
		if len(b) <= 3000 {
			checkPress(t, b)
		}
	})
}
