package varint_test

import (
	"bytes"
	"math"
	"math/big"
	"strings"
	"testing"

	"threshing/api"
	"threshing/varint"
)

// edges returns the numbers around every power of 2, where sizes change.
func edges() []uint64 {
	ns := []uint64{0, 300, math.MaxUint64, 0xaaaaaaaaaaaaaaaa, 0x5555555555555555}
	for k := range 64 {
		p := uint64(1) << k
		ns = append(ns, p-1, p, p+1)
	}
	return ns
}

// follow is what may stand behind an encoded value.
var follow = []string{"", "\x00", "\x01", "\x7f", "\x80", "\xff", "\x80\x00", strings.Repeat("\xff", 12)}

// texts are strings around the lengths at which the varint of a length grows.
func texts() []string {
	ts := []string{"", "\x00", "\x80", "ab", "é\xff\xfe"}
	for _, n := range []int{127, 128, 129, 1000, 16383, 16384} {
		ts = append(ts, strings.Repeat("x", n-1)+"y")
	}
	return ts
}

// wantNumber reads a varint by the words of the document, with numbers of any size.
func wantNumber(b []byte) (uint64, int, api.Errno) {
	set := 0
	for set < len(b) && b[set]&128 != 0 {
		set++
	}
	if set >= 10 {
		return 0, 0, api.ErrForm
	}
	if set == len(b) {
		return 0, 0, api.ErrShort
	}
	sum := new(big.Int)
	for i := range set + 1 {
		group := big.NewInt(int64(b[i] & 127))
		sum.Add(sum, group.Lsh(group, uint(7*i)))
	}
	if sum.BitLen() > 64 || set > 0 && b[set] == 0 {
		return 0, 0, api.ErrForm
	}
	return sum.Uint64(), set + 1, api.OK
}

func checkTake(t *testing.T, b []byte) {
	t.Helper()
	n, rest, e := varint.Take(b)
	want, size, wantE := wantNumber(b)
	if n != want || e != wantE || !bytes.Equal(rest, b[size:]) && wantE == api.OK || len(rest) != 0 && wantE != api.OK {
		t.Errorf("Take(%x) = %d, %x, %d; want %d, size %d, %d", b, n, rest, e, want, size, wantE)
	}
	if e == api.OK && !bytes.Equal(varint.Put(nil, n), b[:size]) {
		t.Errorf("Put(%d) is not %x", n, b[:size])
	}
}

func TestPutBytes(t *testing.T) {
	for _, x := range []struct {
		n uint64
		b string
	}{
		{0, "\x00"}, {1, "\x01"}, {127, "\x7f"}, {128, "\x80\x01"}, {129, "\x81\x01"}, {300, "\xac\x02"},
		{16383, "\xff\x7f"}, {16384, "\x80\x80\x01"},
		{1<<63 - 1, "\xff\xff\xff\xff\xff\xff\xff\xff\x7f"},
		{1 << 63, "\x80\x80\x80\x80\x80\x80\x80\x80\x80\x01"},
		{1<<64 - 1, "\xff\xff\xff\xff\xff\xff\xff\xff\xff\x01"},
	} {
		for _, before := range []string{"", "\x07", "\x80", "abc"} {
			if b := varint.Put([]byte(before), x.n); string(b) != before+x.b {
				t.Errorf("Put(%q, %d) = %x", before, x.n, b)
			}
		}
		if b := varint.Put(nil, x.n); string(b) != x.b {
			t.Errorf("Put(nil, %d) = %x", x.n, b)
		}
		if size := varint.Size(x.n); size != len(x.b) {
			t.Errorf("Size(%d) = %d", x.n, size)
		}
	}
}

func TestSizeIsLeast(t *testing.T) {
	for _, n := range edges() {
		want := 1
		for want < 10 && n>>(7*want) != 0 {
			want++
		}
		if size := varint.Size(n); size != want || len(varint.Put(nil, n)) != want {
			t.Errorf("Size(%d) = %d; want %d", n, size, want)
		}
	}
}

func TestNumberRoundTrip(t *testing.T) {
	for _, n := range edges() {
		for _, f := range follow {
			got, rest, e := varint.Take(append(varint.Put(nil, n), f...))
			if got != n || string(rest) != f || e != api.OK {
				t.Errorf("%d before %x: %d, %x, %d", n, f, got, rest, e)
			}
		}
	}
}

func TestTakeErrors(t *testing.T) {
	for _, x := range []struct {
		b string
		e api.Errno
	}{
		{"", api.ErrShort},
		{"\x80", api.ErrShort},
		{strings.Repeat("\xff", 9), api.ErrShort},
		{strings.Repeat("\x80", 9), api.ErrShort},
		{strings.Repeat("\xff", 10), api.ErrForm},
		{strings.Repeat("\x80", 10), api.ErrForm},
		{strings.Repeat("\x80", 10) + "\x01", api.ErrForm},
		{strings.Repeat("\xff", 20), api.ErrForm},
		{strings.Repeat("\xff", 9) + "\x02", api.ErrForm},
		{strings.Repeat("\x80", 9) + "\x02", api.ErrForm},
		{strings.Repeat("\x80", 9) + "\x7f", api.ErrForm},
		{strings.Repeat("\x80", 9) + "\x00", api.ErrForm},
		{strings.Repeat("\xff", 9) + "\x00", api.ErrForm},
		{"\x80\x00", api.ErrForm},
		{"\xff\x00\x01", api.ErrForm},
		{"\x80\x80\x00", api.ErrForm},
	} {
		n, rest, e := varint.Take([]byte(x.b))
		if n != 0 || len(rest) != 0 || e != x.e {
			t.Errorf("Take(%x) = %d, %x, %d; want %d", x.b, n, rest, e, x.e)
		}
	}
	if _, _, e := varint.Take(nil); e != api.ErrShort {
		t.Errorf("Take(nil): %d", e)
	}
}

func TestTakeOfAllShortInputs(t *testing.T) {
	checkTake(t, nil)
	for i := range 256 {
		checkTake(t, []byte{byte(i)})
		for j := range 256 {
			checkTake(t, []byte{byte(i), byte(j)})
		}
	}
}

func TestTakeOfLongInputs(t *testing.T) {
	ends := []byte{0, 1, 2, 3, 64, 127, 128, 129, 255}
	for _, fill := range []byte{128, 129, 0xaa, 255} {
		for length := range 13 {
			head := bytes.Repeat([]byte{fill}, length)
			for _, x := range ends {
				for _, y := range ends {
					checkTake(t, append(append([]byte{}, head...), x, y))
				}
			}
		}
	}
}

func TestFrameBytes(t *testing.T) {
	for _, x := range []struct{ s, b string }{
		{"", "\x00"}, {"a", "\x01a"}, {"\x00\xff", "\x02\x00\xff"},
		{strings.Repeat("z", 127), "\x7f" + strings.Repeat("z", 127)},
		{strings.Repeat("z", 128), "\x80\x01" + strings.Repeat("z", 128)},
	} {
		for _, before := range []string{"", "\x07", "abc"} {
			if b := varint.Frame([]byte(before), x.s); string(b) != before+x.b {
				t.Errorf("Frame(%q, %q) = %x", before, x.s, b)
			}
		}
	}
}

func TestFrameRoundTrip(t *testing.T) {
	for _, s := range texts() {
		for _, f := range follow {
			b := append(varint.Frame(nil, s), f...)
			for _, most := range []int{len(s), len(s) + 1, math.MaxInt} {
				got, rest, e := varint.TakeFrame(b, most)
				if got != s || string(rest) != f || e != api.OK {
					t.Errorf("%d bytes before %x, most %d: %d bytes, %x, %d", len(s), f, most, len(got), rest, e)
				}
				if again := append(varint.Frame(nil, got), rest...); !bytes.Equal(again, b) {
					t.Errorf("%d bytes: encoded again they differ", len(s))
				}
			}
		}
	}
}

func TestTakeFrameErrors(t *testing.T) {
	huge := "\xff\xff\xff\xff\xff\xff\xff\xff\xff\x01"
	for _, x := range []struct {
		b    string
		most int
		e    api.Errno
	}{
		{"", 9, api.ErrShort},
		{"\x80", 9, api.ErrShort},
		{"\x80\x00", 9, api.ErrForm},
		{strings.Repeat("\xff", 10), 9, api.ErrForm},
		{strings.Repeat("\xff", 9) + "\x02", 9, api.ErrForm},
		// The errors of the length come first.
		{"", -1, api.ErrShort},
		{"\x80", -1, api.ErrShort},
		{"\x80\x00", -1, api.ErrForm},
		// Too large comes before incomplete.
		{"\x03ab", 2, api.ErrLarge},
		{"\x03abc", 2, api.ErrLarge},
		{"\x01", 0, api.ErrLarge},
		{"\x00", -1, api.ErrLarge},
		{"\x00", math.MinInt, api.ErrLarge},
		{"\x05", math.MinInt, api.ErrLarge},
		{"\x05abcde", -1, api.ErrLarge},
		{huge, math.MaxInt, api.ErrLarge},
		{huge, -1, api.ErrLarge},
		{huge + "abc", 1000, api.ErrLarge},
		{"\x80\x80\x80\x80\x80\x80\x80\x80\x80\x01", math.MaxInt, api.ErrLarge},
		{"\x81\x80\x80\x80\x80\x80\x80\x80\x80\x01a", math.MaxInt, api.ErrLarge},
		{"\xff\xff\xff\xff\xff\xff\xff\xff\x7f", math.MaxInt, api.ErrShort},
		{"\xff\xff\xff\xff\xff\xff\xff\xff\x7fabc", math.MaxInt, api.ErrShort},
		{"\x01", 1, api.ErrShort},
		{"\x03ab", 3, api.ErrShort},
		{"\x80\x01" + strings.Repeat("z", 127), 128, api.ErrShort},
	} {
		s, rest, e := varint.TakeFrame([]byte(x.b), x.most)
		if s != "" || len(rest) != 0 || e != x.e {
			t.Errorf("TakeFrame(%x, %d) = %q, %x, %d; want %d", x.b, x.most, s, rest, e, x.e)
		}
	}
	if s, rest, e := varint.TakeFrame([]byte("\x00\x05"), 0); s != "" || string(rest) != "\x05" || e != api.OK {
		t.Errorf("the empty string with most 0: %q, %x, %d", s, rest, e)
	}
}

func TestTakeFrameIgnoresMemoryBeyondLength(t *testing.T) {
	all := []byte("\x03abc")
	if _, _, e := varint.TakeFrame(all[:3], 9); e != api.ErrShort {
		t.Errorf("a string that goes on beyond the length: %d", e)
	}
	if _, _, e := varint.Take([]byte("\x80\x01")[:1]); e != api.ErrShort {
		t.Errorf("a number that goes on beyond the length: %d", e)
	}
}

func TestPairBytes(t *testing.T) {
	b := varint.Pair([]byte("x"), api.Pair{K: "ab", V: ""})
	if string(b) != "x\x02ab\x00" {
		t.Errorf("%x", b)
	}
	b = varint.Pair(nil, api.Pair{K: "", V: "c"})
	if string(b) != "\x00\x01c" {
		t.Errorf("%x", b)
	}
}

func TestPairRoundTrip(t *testing.T) {
	for _, k := range texts() {
		for _, v := range texts() {
			p := api.Pair{K: k, V: v}
			for _, f := range follow {
				b := append(varint.Pair(nil, p), f...)
				got, rest, e := varint.TakePair(b, max(len(k), len(v)))
				if got != p || string(rest) != f || e != api.OK {
					t.Errorf("%d and %d bytes before %x: %x, %d", len(k), len(v), f, rest, e)
				}
				if again := append(varint.Pair(nil, got), rest...); !bytes.Equal(again, b) {
					t.Errorf("%d and %d bytes: encoded again they differ", len(k), len(v))
				}
			}
		}
	}
}

func TestTakePairErrors(t *testing.T) {
	for _, x := range []struct {
		b    string
		most int
		e    api.Errno
	}{
		{"", 9, api.ErrShort},
		{"\x80\x00", 9, api.ErrForm},
		{"\x02a", 9, api.ErrShort},
		{"\x02ab", 9, api.ErrShort},
		{"\x02ab\x80", 9, api.ErrShort},
		{"\x02ab\x80\x00", 9, api.ErrForm},
		{"\x02ab\x01", 9, api.ErrShort},
		{"\x02ab\x03abc", 2, api.ErrLarge},
		{"\x03abc\x02ab", 2, api.ErrLarge},
		// The error of the key comes first.
		{"\x03abc\x80\x00", 2, api.ErrLarge},
		{"\x03ab", 2, api.ErrLarge},
		{"\x00\x00", -1, api.ErrLarge},
		{"\x00\x00", math.MinInt, api.ErrLarge},
		{"", -1, api.ErrShort},
		{"\x00\x01", 0, api.ErrLarge},
		{"\x00\xff\xff\xff\xff\xff\xff\xff\xff\xff\x01", math.MaxInt, api.ErrLarge},
		{"\x00\xff\xff\xff\xff\xff\xff\xff\xff\x7f", math.MaxInt, api.ErrShort},
	} {
		p, rest, e := varint.TakePair([]byte(x.b), x.most)
		if p != (api.Pair{}) || len(rest) != 0 || e != x.e {
			t.Errorf("TakePair(%x, %d) = %q, %x, %d; want %d", x.b, x.most, p, rest, e, x.e)
		}
	}
}

func TestFold(t *testing.T) {
	for _, x := range []struct {
		n int
		u uint64
	}{
		{0, 0}, {-1, 1}, {1, 2}, {-2, 3}, {2, 4}, {-150, 299}, {150, 300},
		{math.MaxInt64, math.MaxUint64 - 1}, {math.MinInt64, math.MaxUint64},
		{math.MinInt64 + 1, math.MaxUint64 - 2},
	} {
		if u := varint.Fold(x.n); u != x.u {
			t.Errorf("Fold(%d) = %d; want %d", x.n, u, x.u)
		}
		if n := varint.Unfold(x.u); n != x.n {
			t.Errorf("Unfold(%d) = %d; want %d", x.u, n, x.n)
		}
	}
}

func TestFoldRoundTrip(t *testing.T) {
	for _, u := range edges() {
		if back := varint.Fold(varint.Unfold(u)); back != u {
			t.Errorf("Fold(Unfold(%d)) = %d", u, back)
		}
		n := int(u)
		if back := varint.Unfold(varint.Fold(n)); back != n {
			t.Errorf("Unfold(Fold(%d)) = %d", n, back)
		}
	}
}

// calls are the functions that are given bytes and return bytes.
var calls = []struct {
	name string
	give string
	call func(b []byte) []byte
}{
	{"Put", "abc", func(b []byte) []byte { return varint.Put(b, 300) }},
	{"Frame", "abc", func(b []byte) []byte { return varint.Frame(b, "de") }},
	{"Frame of nothing", "abc", func(b []byte) []byte { return varint.Frame(b, "") }},
	{"Pair", "abc", func(b []byte) []byte { return varint.Pair(b, api.Pair{K: "d", V: "e"}) }},
	{"Take", "\xac\x02abc", restOfTake},
	{"Take of all", "\x05", restOfTake},
	{"Take with an error", "\x80\x00abc", restOfTake},
	{"TakeFrame", "\x02deabc", restOfTakeFrame},
	{"TakeFrame of all", "\x02de", restOfTakeFrame},
	{"TakeFrame with an error", "\x09abc", restOfTakeFrame},
	{"TakePair", "\x01d\x01eabc", restOfTakePair},
	{"TakePair of all", "\x01d\x01e", restOfTakePair},
	{"TakePair with an error", "\x01d\x09abc", restOfTakePair},
}

func restOfTake(b []byte) []byte {
	_, rest, _ := varint.Take(b)
	return rest
}

func restOfTakeFrame(b []byte) []byte {
	_, rest, _ := varint.TakeFrame(b, 9)
	return rest
}

func restOfTakePair(b []byte) []byte {
	_, rest, _ := varint.TakePair(b, 9)
	return rest
}

// roomy returns the bytes of s with memory beyond their length, and all of that memory.
func roomy(s string) ([]byte, []byte) {
	all := append([]byte(s), bytes.Repeat([]byte{0xee}, 40)...)
	return all[:len(s)], all
}

func TestArgumentsStay(t *testing.T) {
	for _, c := range calls {
		b, all := roomy(c.give)
		before := bytes.Clone(all)
		c.call(b)
		if !bytes.Equal(all, before) {
			t.Errorf("%s changed its argument, or the memory beyond it: %x", c.name, all)
		}
	}
}

func TestResultsShareNoMemory(t *testing.T) {
	for _, c := range calls {
		b, all := roomy(c.give)
		before := bytes.Clone(all)
		got := c.call(b)
		// The spare capacity is the result's own, too.
		whole := got[:cap(got)]
		for i := range whole {
			whole[i] = 0x55
		}
		if !bytes.Equal(all, before) {
			t.Errorf("%s: writing to the result changed the argument", c.name)
		}
		for i := range all {
			all[i] = 0x77
		}
		if bytes.IndexByte(whole, 0x77) >= 0 {
			t.Errorf("%s: writing to the argument changed the result", c.name)
		}
	}
}

func TestTextsShareNoMemory(t *testing.T) {
	b, all := roomy("\x02de\x02fgabc")
	s, _, _ := varint.TakeFrame(b, 9)
	p, _, _ := varint.TakePair(b, 9)
	clear(all)
	if s != "de" || p.K != "de" || p.V != "fg" {
		t.Errorf("writing to the argument changed %q, %q", s, p)
	}
}

func FuzzDecode(f *testing.F) {
	f.Add([]byte("\x02ab\x00"), 2)
	f.Add([]byte("\xff\xff\xff\xff\xff\xff\xff\xff\xff\x01"), math.MaxInt)
	f.Add([]byte("\x80\x00"), -1)
	f.Fuzz(func(t *testing.T, b []byte, most int) {
		checkTake(t, b)
		if s, rest, e := varint.TakeFrame(b, most); e == api.OK {
			if !bytes.Equal(append(varint.Frame(nil, s), rest...), b) || len(s) > most {
				t.Errorf("TakeFrame(%x, %d) = %q, %x", b, most, s, rest)
			}
		}
		if p, rest, e := varint.TakePair(b, most); e == api.OK {
			if !bytes.Equal(append(varint.Pair(nil, p), rest...), b) || max(len(p.K), len(p.V)) > most {
				t.Errorf("TakePair(%x, %d) = %q, %x", b, most, p, rest)
			}
		}
	})
}
