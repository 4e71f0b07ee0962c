package split

import (
	"cmp"
	"slices"

	"threshing/api"
	"threshing/bundle"
	"threshing/chest"
	"threshing/csv"
	"threshing/fixed"
	"threshing/plan"
	"threshing/seq"
	"threshing/text"
)

// split is where a split begins and ends, and whether it begins inside quotes.
type split struct {
	from, to int
	inside   bool
}

// reader returns the records of a split of one file, and the error that the
// split reports.
type reader func(s split) ([]api.Rec, api.Errno)

// splitOf returns split i of p.
func splitOf(p plan.Plan, i int) split {
	return split{from: p.Cuts[i], to: p.Cuts[i+1], inside: p.Inside[i]}
}

// splitsOf returns all splits of p.
func splitsOf(p plan.Plan) []split {
	l := make([]split, Count(p))
	for i := range l {
		l[i] = splitOf(p, i)
	}
	return l
}

// readerOf returns the reader of f, the valid part of which has good bytes.
func readerOf(f plan.File, good int) reader {
	switch f.Format {
	case api.Text:
		return func(s split) ([]api.Rec, api.Errno) { return text.Read(f.B, s.from, s.to) }
	case api.CSV:
		return func(s split) ([]api.Rec, api.Errno) { return csv.Read(f.B, s.from, s.to, s.inside, good) }
	case api.Seq:
		return func(s split) ([]api.Rec, api.Errno) { return seq.Read(f.B, s.from, s.to, good) }
	case api.Chest:
		return chestReader(f.B, good)
	case api.Fixed:
		return func(s split) ([]api.Rec, api.Errno) { return fixed.Read(f.B, s.from, s.to, f.Width) }
	}
	return bundleReader(f.B)
}

// chestReader returns the reader of the chest b, the valid part of which has
// good bytes. It keeps the pieces, since Read of chest looks at the whole index
// for each split, so that many splits would take very long.
func chestReader(b []byte, good int) reader {
	pieces, _, _ := chest.Scan(b)
	return func(s split) ([]api.Rec, api.Errno) {
		l := collect(within(pieces, s), recordsOf)
		if good < s.to {
			return l, api.ErrForm
		}
		return l, api.OK
	}
}

// bundleReader returns the reader of the bundle b. It keeps the pieces, since
// Read of bundle looks at the whole bundle for each split.
func bundleReader(b []byte) reader {
	pieces, _, e := bundle.Scan(b)
	return func(s split) ([]api.Rec, api.Errno) {
		l := collect(within(pieces, s), recordsOf)
		if s.from > 0 {
			return l, api.OK
		}
		return l, e
	}
}

// within returns the pieces that begin in s.
func within(l []api.Piece, s split) []api.Piece {
	return l[countBefore(l, s.from):countBefore(l, s.to)]
}

// countBefore returns how many pieces begin before the offset at.
func countBefore(l []api.Piece, at int) int {
	i, _ := slices.BinarySearchFunc(l, at, func(p api.Piece, at int) int { return cmp.Compare(p.At, at) })
	return i
}

// recordsOf returns the records of p.
func recordsOf(p api.Piece) []api.Rec { return p.R }

// collect returns the records that each element of l has, in order.
func collect[T any](l []T, records func(x T) []api.Rec) []api.Rec {
	var out []api.Rec
	for _, x := range l {
		out = append(out, records(x)...)
	}
	return out
}
