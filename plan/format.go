package plan

import (
	"threshing/api"
	"threshing/bundle"
	"threshing/chest"
	"threshing/csv"
	"threshing/fixed"
	"threshing/seq"
	"threshing/text"
)

// format is the functions of a format, for files of one width.
type format struct {
	scan  func(b []byte) ([]api.Piece, int, api.Errno)
	write func(l []api.Rec) ([]byte, api.Errno)
	// inside reports whether the number of quotes before the offset at is odd.
	inside func(b []byte, at int) bool
}

// formatOf returns the functions of the format with the number, and whether
// there is such a format and its files can have the width.
func formatOf(number, width int) (format, bool) {
	if number == api.Fixed {
		return fixedOf(width), width >= 1 && width <= api.MaxField
	}
	x, ok := unsized(number)
	return x, ok && width == 0
}

// unsized returns the functions of a format whose files have no width, and
// whether there is such a format with the number.
func unsized(number int) (format, bool) {
	switch number {
	case api.Text:
		return format{scan: text.Scan, write: text.Write, inside: outside}, true
	case api.CSV:
		return format{scan: csv.Scan, write: csv.Write, inside: csv.Inside}, true
	case api.Seq:
		return format{scan: seq.Scan, write: seq.Write, inside: outside}, true
	case api.Chest:
		return format{scan: chest.Scan, write: chest.Write, inside: outside}, true
	case api.Bundle:
		return format{scan: bundle.Scan, write: bundle.Write, inside: outside}, true
	}
	return format{}, false
}

// fixedOf returns the functions of the format Fixed, which keep the width that
// they have to be told at each call.
func fixedOf(width int) format {
	return format{
		scan:   func(b []byte) ([]api.Piece, int, api.Errno) { return fixed.Scan(b, width) },
		write:  func(l []api.Rec) ([]byte, api.Errno) { return fixed.Write(l, width) },
		inside: outside,
	}
}

// outside is what reports of a format without quotes that no offset is inside.
func outside([]byte, int) bool { return false }

// insides returns for each of the cuts of b whether it is inside quotes. Only
// the bytes since the cut before it are looked at, so that many cuts take no
// more time than few.
func (x format) insides(b []byte, cuts []int) []bool {
	l := make([]bool, len(cuts))
	for i := 1; i < len(cuts); i++ {
		from := cuts[i-1]
		odd := x.inside(b[from:], cuts[i]-from)
		l[i] = l[i-1] != odd
	}
	return l
}
