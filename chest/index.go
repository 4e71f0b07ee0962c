package chest

import (
	"bytes"

	"threshing/api"
	"threshing/crc"
	"threshing/varint"
)

const (
	// tail is what each file ends with.
	tail = "CHST"
	// sizeBytes is how many bytes the size of the index has.
	sizeBytes = 4
	// mostBlocks is how many blocks a file has at most.
	mostBlocks = 5000
	// mostRecords is how many records a block has at most.
	mostRecords = 5000
	// varintSize is how many bytes a varint has at most.
	varintSize = 10
)

// entry is what the index says of a block, and the offset that follows from it.
type entry struct {
	at    int
	size  int
	count int
}

// end returns the offset after the block.
func (x entry) end() int { return x.at + x.size }

// indexOf returns the entries of the index of b, and whether it is valid.
func indexOf(t []uint32, b []byte) ([]entry, bool) {
	rest, ok := bytes.CutSuffix(b, []byte(tail))
	if !ok || len(rest) < sizeBytes {
		return nil, false
	}
	end := len(rest) - sizeBytes
	size := takeSize(rest[end:])
	if size > uint64(end) {
		return nil, false
	}
	start := end - int(size)
	index, e := crc.Open(t, rest[start:end])
	if e != api.OK {
		return nil, false
	}
	return takeEntries(index, start)
}

// takeEntries returns the entries that b encodes, and whether it encodes those
// of blocks that together have so many bytes.
func takeEntries(b []byte, blocks int) ([]entry, bool) {
	n, b, ok := takeNumber(b, 0, mostBlocks)
	if !ok {
		return nil, false
	}
	l := make([]entry, n)
	at := 0
	for i := range l {
		l[i], b, ok = takeEntry(b, at)
		if !ok {
			return nil, false
		}
		at = l[i].end()
	}
	if len(b) > 0 || at != blocks {
		return nil, false
	}
	return l, true
}

// takeEntry returns the entry that b begins with, of a block that begins at
// the offset at, and the remaining bytes.
func takeEntry(b []byte, at int) (entry, []byte, bool) {
	size, b, ok := takeNumber(b, 1, mostBytes)
	if !ok {
		return entry{}, nil, false
	}
	count, b, ok := takeNumber(b, 1, mostRecords)
	if !ok {
		return entry{}, nil, false
	}
	return entry{at: at, size: size, count: count}, b, true
}

// takeNumber returns the number whose varint b begins with, if it is from least
// to most, and the remaining bytes. Take is given no more than a varint can
// have: it copies what remains.
func takeNumber(b []byte, least, most uint64) (int, []byte, bool) {
	start := b[:min(len(b), varintSize)]
	n, left, e := varint.Take(start)
	if e != api.OK || n < least || n > most {
		return 0, nil, false
	}
	return int(n), b[len(start)-len(left):], true
}

// addIndex appends the index, its size and the tail to the blocks.
func addIndex(out []byte, t []uint32, l []entry) []byte {
	index := varint.Put(nil, uint64(len(l)))
	for _, x := range l {
		index = append(index, varint.Put(nil, uint64(x.size))...)
		index = append(index, varint.Put(nil, uint64(x.count))...)
	}
	// The table has all its entries, so that there is no error.
	sealed, _ := crc.Seal(t, index)
	out = append(out, sealed...)
	out = addSize(out, len(sealed))
	return append(out, tail...)
}

// takeSize returns the number of the bytes b, the lowest of which is the first.
func takeSize(b []byte) uint64 {
	n := uint64(0)
	for i, c := range b {
		n |= uint64(c) << (8 * i)
	}
	return n
}

// addSize appends the bytes of the size of the index, the lowest first.
func addSize(out []byte, n int) []byte {
	for i := range sizeBytes {
		out = append(out, byte(n>>(8*i)))
	}
	return out
}
