package crc_test

import (
	"bytes"
	"hash/crc32"
	"slices"
	"strings"
	"testing"

	"threshing/api"
	"threshing/crc"
)

// texts are bytes of several lengths, with every value of a byte among them.
func texts() [][]byte {
	all := make([]byte, 256)
	for i := range all {
		all[i] = byte(i)
	}
	return [][]byte{
		nil, {}, {0}, {0xff}, {0, 0, 0, 0}, {0xff, 0xff, 0xff, 0xff}, []byte("a"), []byte("abc"), []byte("abcd"),
		[]byte("123456789"), all, bytes.Repeat(all, 40), bytes.Repeat([]byte{0}, 1000),
	}
}

// otherTable returns 256 numbers that are not the table.
func otherTable() []uint32 {
	t := make([]uint32, 256)
	for i := range t {
		t[i] = uint32(i)*0x9e3779b1 + 12345
	}
	return t
}

// wrongTables returns tables that do not have 256 entries.
func wrongTables() [][]uint32 {
	l := crc.Table()
	return [][]uint32{nil, {}, l[:1], l[:255], append(slices.Clone(l), 0), append(slices.Clone(l), l...)}
}

// wantMore updates a register by the words of the document, with numbers of 64 bits.
func wantMore(t []uint32, c uint32, b []byte) uint32 {
	r := uint64(c)
	for _, x := range b {
		index := r%256 ^ uint64(x)
		r = uint64(t[index]) ^ r/256
	}
	return uint32(r)
}

// wantSeal is b followed by the number c in four bytes, the lowest first.
func wantSeal(b []byte, c uint32) []byte {
	return append(bytes.Clone(b), byte(c%256), byte(c/256%256), byte(c/65536%256), byte(c/16777216))
}

func TestTable(t *testing.T) {
	l := crc.Table()
	if len(l) != 256 {
		t.Fatalf("%d entries", len(l))
	}
	for i, want := range crc32.MakeTable(0xedb88320) {
		if l[i] != want {
			t.Errorf("entry %d is %x; want %x", i, l[i], want)
		}
	}
}

func TestTableIsNew(t *testing.T) {
	l := crc.Table()
	clear(l[:cap(l)])
	if !crc.Right(crc.Table()) || crc.Right(l) {
		t.Error("changing a table changed the next one")
	}
}

func TestRight(t *testing.T) {
	if !crc.Right(crc.Table()) {
		t.Error("the table is not right")
	}
	for i := range 256 {
		for _, bit := range []int{0, 7, 8, 31} {
			l := crc.Table()
			l[i] ^= 1 << bit
			if crc.Right(l) {
				t.Errorf("right with another entry %d", i)
			}
		}
	}
	for _, l := range wrongTables() {
		if crc.Right(l) {
			t.Errorf("right with %d entries", len(l))
		}
	}
	if crc.Right(otherTable()) || crc.Right(make([]uint32, 256)) {
		t.Error("right with other entries")
	}
}

func TestSum(t *testing.T) {
	l := crc.Table()
	for _, b := range texts() {
		if c, e := crc.Sum(l, b); c != crc32.ChecksumIEEE(b) || e != api.OK {
			t.Errorf("Sum of %d bytes = %x, %d", len(b), c, e)
		}
	}
	if c, e := crc.Sum(l, []byte("123456789")); c != 0xcbf43926 || e != api.OK {
		t.Errorf("Sum(123456789) = %x, %d", c, e)
	}
	if c, e := crc.Sum(l, nil); c != 0 || e != api.OK {
		t.Errorf("Sum of nothing = %x, %d", c, e)
	}
}

func TestMore(t *testing.T) {
	for _, l := range [][]uint32{crc.Table(), otherTable(), make([]uint32, 256)} {
		for _, c := range []uint32{0, 1, 255, 256, 0x80000000, 0x12345678, 0xffffffff} {
			for _, b := range texts() {
				got, e := crc.More(l, c, b)
				if want := wantMore(l, c, b); got != want || e != api.OK {
					t.Errorf("More(%x, %d bytes) = %x, %d; want %x", c, len(b), got, e, want)
				}
			}
		}
	}
}

func TestMoreOfEveryByte(t *testing.T) {
	l := otherTable()
	for x := range 256 {
		for _, c := range []uint32{0, 0xa5, 0xabcdef12} {
			got, _ := crc.More(l, c, []byte{byte(x)})
			if want := wantMore(l, c, []byte{byte(x)}); got != want {
				t.Errorf("More(%x, %x) = %x; want %x", c, x, got, want)
			}
		}
	}
}

func TestMoreOfNothingKeepsTheRegister(t *testing.T) {
	for _, c := range []uint32{0, 7, 0xffffffff} {
		if got, e := crc.More(crc.Table(), c, nil); got != c || e != api.OK {
			t.Errorf("More(%x, nothing) = %x, %d", c, got, e)
		}
	}
}

func TestSumIsAnInvertedRegister(t *testing.T) {
	for _, l := range [][]uint32{crc.Table(), otherTable()} {
		for _, b := range texts() {
			c, e := crc.Sum(l, b)
			if want := ^wantMore(l, 0xffffffff, b); c != want || e != api.OK {
				t.Errorf("Sum of %d bytes = %x, %d; want %x", len(b), c, e, want)
			}
		}
	}
}

func TestPieceByPiece(t *testing.T) {
	text := []byte("The first split has the line that begins at 0.\x00\xff\x80")
	for _, l := range [][]uint32{crc.Table(), otherTable()} {
		for _, c := range []uint32{0, 0xffffffff, 0x13579bdf} {
			whole, _ := crc.More(l, c, text)
			for i := range len(text) + 1 {
				for j := i; j <= len(text); j++ {
					r, _ := crc.More(l, c, text[:i])
					r, _ = crc.More(l, r, text[i:j])
					r, e := crc.More(l, r, text[j:])
					if r != whole || e != api.OK {
						t.Errorf("from %x, cut at %d and %d: %x, %d; want %x", c, i, j, r, e, whole)
					}
				}
			}
		}
	}
}

func TestByteByByte(t *testing.T) {
	l := crc.Table()
	for _, b := range texts() {
		r := uint32(0xffffffff)
		for i := range b {
			r, _ = crc.More(l, r, b[i:i+1])
		}
		if c, _ := crc.Sum(l, b); c != ^r {
			t.Errorf("%d bytes: %x one by one, %x at once", len(b), ^r, c)
		}
	}
}

func TestSeal(t *testing.T) {
	for _, l := range [][]uint32{crc.Table(), otherTable()} {
		for _, b := range texts() {
			want := wantSeal(b, ^wantMore(l, 0xffffffff, b))
			sealed, e := crc.Seal(l, b)
			if !bytes.Equal(sealed, want) || e != api.OK {
				t.Errorf("Seal of %d bytes = %x, %d; want %x", len(b), sealed, e, want)
			}
			opened, e := crc.Open(l, sealed)
			if !bytes.Equal(opened, b) || e != api.OK {
				t.Errorf("Open of %d bytes = %x, %d", len(sealed), opened, e)
			}
		}
	}
	if b, _ := crc.Seal(crc.Table(), []byte("123456789")); string(b) != "123456789\x26\x39\xf4\xcb" {
		t.Errorf("Seal(123456789) = %x", b)
	}
}

func TestOpenErrors(t *testing.T) {
	l := crc.Table()
	for _, x := range []struct {
		b string
		e api.Errno
	}{
		{"", api.ErrShort},
		{"\x00", api.ErrShort},
		{"\x00\x00\x00", api.ErrShort},
		{"abc", api.ErrShort},
		{"\x00\x00\x00\x01", api.ErrSum},
		{"\x01\x00\x00\x00", api.ErrSum},
		{"abcd", api.ErrSum},
		{"123456789\xcb\xf4\x39\x26", api.ErrSum},
		{"123456789\xd9\xc6\x0b\x34", api.ErrSum},
		{"123456789\x26\x39\xf4\xcb\x00", api.ErrSum},
		{"123456789\x26\x39\xf4", api.ErrSum},
		{"12345678\x26\x39\xf4\xcb", api.ErrSum},
		{strings.Repeat("\x00", 5), api.ErrSum},
	} {
		if b, e := crc.Open(l, []byte(x.b)); len(b) != 0 || e != x.e {
			t.Errorf("Open(%x) = %x, %d; want %d", x.b, b, e, x.e)
		}
	}
	if b, e := crc.Open(l, []byte{0, 0, 0, 0}); len(b) != 0 || e != api.OK {
		t.Errorf("Open of nothing sealed = %x, %d", b, e)
	}
	if b, e := crc.Open(otherTable(), []byte("123456789\x26\x39\xf4\xcb")); len(b) != 0 || e != api.ErrSum {
		t.Errorf("Open by other entries = %x, %d", b, e)
	}
}

func TestWrongTables(t *testing.T) {
	for _, l := range wrongTables() {
		for _, s := range []string{"", "abc", "abcd", "\x00\x00\x00\x00", "123456789\x26\x39\xf4\xcb"} {
			b := []byte(s)
			if c, e := crc.More(l, 5, b); c != 0 || e != api.ErrArg {
				t.Errorf("More by %d entries, %q: %x, %d", len(l), s, c, e)
			}
			if c, e := crc.Sum(l, b); c != 0 || e != api.ErrArg {
				t.Errorf("Sum by %d entries, %q: %x, %d", len(l), s, c, e)
			}
			if out, e := crc.Seal(l, b); len(out) != 0 || e != api.ErrArg {
				t.Errorf("Seal by %d entries, %q: %x, %d", len(l), s, out, e)
			}
			if out, e := crc.Open(l, b); len(out) != 0 || e != api.ErrArg {
				t.Errorf("Open by %d entries, %q: %x, %d", len(l), s, out, e)
			}
		}
	}
}

func TestOneChangedByteIsDetected(t *testing.T) {
	l := crc.Table()
	for _, s := range []string{"", "a", "123456789", "\x00\x00\x00\x00\x00\x00", strings.Repeat("\xff", 40)} {
		sealed, _ := crc.Seal(l, []byte(s))
		for i := range sealed {
			for x := 1; x < 256; x++ {
				changed := bytes.Clone(sealed)
				changed[i] ^= byte(x)
				if b, e := crc.Open(l, changed); len(b) != 0 || e != api.ErrSum {
					t.Errorf("%q with byte %d changed by %x: %x, %d", s, i, x, b, e)
				}
			}
		}
	}
}

// roomy returns the bytes of s with memory beyond their length, and all of that memory.
func roomy(s string) ([]byte, []byte) {
	all := append([]byte(s), bytes.Repeat([]byte{0xee}, 40)...)
	return all[:len(s)], all
}

func TestMemory(t *testing.T) {
	for _, x := range []struct {
		name string
		give string
		call func(t []uint32, b []byte) ([]byte, api.Errno)
	}{
		{"Seal", "123456789", crc.Seal},
		{"Seal of nothing", "", crc.Seal},
		{"Open", "123456789\x26\x39\xf4\xcb", crc.Open},
		{"Open of nothing", "\x00\x00\x00\x00", crc.Open},
		{"Open with an error", "123456789\x26\x39\xf4\xcc", crc.Open},
	} {
		b, all := roomy(x.give)
		before := bytes.Clone(all)
		l := crc.Table()
		got, _ := x.call(l, b)
		if !bytes.Equal(all, before) || !crc.Right(l) {
			t.Errorf("%s changed an argument, or the memory beyond it: %x", x.name, all)
		}
		// The spare capacity is the result's own, too.
		whole := got[:cap(got)]
		for i := range whole {
			whole[i] = 0x55
		}
		if !bytes.Equal(all, before) {
			t.Errorf("%s: writing to the result changed the argument", x.name)
		}
		for i := range all {
			all[i] = 0x77
		}
		if bytes.IndexByte(whole, 0x77) >= 0 {
			t.Errorf("%s: writing to the argument changed the result", x.name)
		}
	}
}

func TestArgumentsOfSumsStay(t *testing.T) {
	b, all := roomy("123456789")
	before := bytes.Clone(all)
	l := crc.Table()
	crc.More(l, 9, b)
	crc.Sum(l, b)
	crc.Right(l)
	if !bytes.Equal(all, before) || !crc.Right(l) {
		t.Error("an argument changed")
	}
}

func TestMemoryBeyondLengthIsIgnored(t *testing.T) {
	all := []byte("123456789\x26\x39\xf4\xcb")
	if _, e := crc.Open(crc.Table(), all[:12]); e != api.ErrSum {
		t.Errorf("a checksum that goes on beyond the length: %d", e)
	}
	if _, e := crc.Sum(crc.Table()[:255], all); e != api.ErrArg {
		t.Errorf("a table that goes on beyond its length: %d", e)
	}
}

func FuzzOpen(f *testing.F) {
	f.Add([]byte(""), uint(0))
	f.Add([]byte("123456789\x26\x39\xf4\xcb"), uint(4))
	f.Fuzz(func(t *testing.T, b []byte, cut uint) {
		l := crc.Table()
		at := int(cut % uint(len(b)+1))
		r, _ := crc.More(l, 0xffffffff, b[:at])
		r, _ = crc.More(l, r, b[at:])
		if c, e := crc.Sum(l, b); c != ^r || c != crc32.ChecksumIEEE(b) || e != api.OK {
			t.Errorf("Sum(%x) = %x, %d", b, c, e)
		}
		out, e := crc.Open(l, b)
		again, _ := crc.Seal(l, out)
		if e == api.OK && !bytes.Equal(again, b) {
			t.Errorf("Open(%x) = %x", b, out)
		}
		sealed, _ := crc.Seal(l, b)
		if back, e := crc.Open(l, sealed); !bytes.Equal(back, b) || e != api.OK {
			t.Errorf("Open(Seal(%x)) = %x, %d", b, back, e)
		}
	})
}
