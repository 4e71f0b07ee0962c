package chest

import (
	"threshing/api"
	"threshing/crc"
	"threshing/field"
	"threshing/press"
)

// mostBytes is how many bytes a block has at most, and how many its encoded
// records have before they are compressed.
const mostBytes = 20000

// records returns the records of the block of b that an entry of the index
// tells of, and whether they are as many as it says.
func records(t []uint32, b []byte, x entry) ([]api.Rec, bool) {
	pressed, e := crc.Open(t, b[x.at:x.end()])
	if e != api.OK {
		return nil, false
	}
	encoded, e := press.Expand(pressed, mostBytes)
	if e != api.OK {
		return nil, false
	}
	l, e := field.Decode(encoded)
	if e != api.OK || len(l) != x.count {
		return nil, false
	}
	return l, true
}

// blockOf returns the block of the records, and whether they can be written.
func blockOf(t []uint32, l []api.Rec) ([]byte, bool) {
	encoded, e := field.Encode(l)
	if e != api.OK || len(encoded) > mostBytes {
		return nil, false
	}
	// Neither is refused: the bytes are not too many, and the table is whole.
	pressed, _ := press.Press(encoded)
	block, _ := crc.Seal(t, pressed)
	return block, len(block) <= mostBytes
}
