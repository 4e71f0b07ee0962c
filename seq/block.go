package seq

import (
	"bytes"
	"iter"

	"threshing/api"
	"threshing/crc"
	"threshing/varint"
)

const (
	// perBlock is how many records each block of a canonical file has, but for
	// the last one.
	perBlock = 3
	// mostRecords is how many records a block has at most.
	mostRecords = 100
	// fields is how many fields each record has: a key and a value.
	fields = 2
	// varintSize is how many bytes a varint has at most.
	varintSize = 10
)

// blocks visits what is stored from the offset from on, marker by marker: each
// offset below to, with the bytes up to the next marker or to the end of b.
func blocks(b []byte, from, to int) iter.Seq2[int, []byte] {
	return func(yield func(int, []byte) bool) {
		for at := from; at < to; {
			end := Marker(b, at+1)
			if !yield(at, b[at:end]) {
				return
			}
			at = end
		}
	}
}

// records returns the records of a block, and whether it is valid.
func records(t []uint32, block []byte) ([]api.Rec, bool) {
	rest, ok := bytes.CutPrefix(block, []byte(marker))
	if !ok {
		return nil, false
	}
	sealed, e := Unescape(rest)
	if e != api.OK {
		return nil, false
	}
	contents, e := crc.Open(t, sealed)
	if e != api.OK {
		return nil, false
	}
	return takeContents(contents)
}

// takeContents returns the records whose contents are b, and whether b has the
// contents of a block.
func takeContents(b []byte) ([]api.Rec, bool) {
	n, rest, ok := takeCount(b)
	if !ok {
		return nil, false
	}
	l := make([]api.Rec, n)
	for i := range l {
		l[i], rest, ok = takeRecord(rest)
		if !ok {
			return nil, false
		}
	}
	return l, len(rest) == 0
}

// takeCount returns the number of records that b begins with, and the remaining
// bytes. Take is given no more than a varint can have: it copies what remains.
func takeCount(b []byte) (int, []byte, bool) {
	start := b[:min(len(b), varintSize)]
	n, left, e := varint.Take(start)
	if e != api.OK || n < 1 || n > mostRecords {
		return 0, nil, false
	}
	return int(n), b[len(start)-len(left):], true
}

// takeRecord returns the record that b begins with, and the remaining bytes.
func takeRecord(b []byte) (api.Rec, []byte, bool) {
	r := make(api.Rec, fields)
	for i := range r {
		// TakeFrame is given no more than the frame can have: it copies what
		// remains.
		start := b[:min(len(b), varintSize+api.MaxField)]
		s, left, e := varint.TakeFrame(start, api.MaxField)
		if e != api.OK {
			return nil, nil, false
		}
		r[i] = s
		b = b[len(start)-len(left):]
	}
	return r, b, true
}

// may reports whether the records can be written.
func may(l []api.Rec) bool {
	for _, r := range l {
		if len(r) != fields {
			return false
		}
		for _, s := range r {
			if len(s) > api.MaxField {
				return false
			}
		}
	}
	return true
}

// addBlock appends the block of the records.
func addBlock(out []byte, t []uint32, l []api.Rec) []byte {
	contents := varint.Put(nil, uint64(len(l)))
	for _, r := range l {
		for _, s := range r {
			contents = append(contents, varint.Frame(nil, s)...)
		}
	}
	// The table has all its entries, so that there is no error.
	sealed, _ := crc.Seal(t, contents)
	out = append(out, marker...)
	return append(out, Escape(sealed)...)
}
