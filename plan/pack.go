package plan

import (
	"cmp"
	"slices"

	"threshing/api"
)

// mostSizes is how many sizes Pack accepts.
const mostSizes = 500

// bin is the indices of the sizes in it, and how much more it can take. What is
// left is kept rather than the total, as a total with a size may be too great
// for an int.
type bin struct {
	indices []int
	left    int
}

// Pack returns the indices of the sizes, distributed to bins of the capacity
// most.
func Pack(sizes []int, most int) ([][]int, api.Errno) {
	if !mayPack(sizes, most) {
		return nil, api.ErrArg
	}
	var bins []bin
	for _, i := range descending(sizes) {
		k := slices.IndexFunc(bins, func(x bin) bool { return sizes[i] <= x.left })
		if k < 0 {
			k = len(bins)
			bins = append(bins, bin{left: most})
		}
		bins[k].indices = append(bins[k].indices, i)
		bins[k].left -= sizes[i]
	}
	out := make([][]int, len(bins))
	for k, x := range bins {
		slices.Sort(x.indices)
		out[k] = x.indices
	}
	return out, api.OK
}

// mayPack reports whether there are not too many sizes, and each fits into a
// bin of its own.
func mayPack(sizes []int, most int) bool {
	if len(sizes) > mostSizes {
		return false
	}
	for _, n := range sizes {
		if n < 0 || n > most {
			return false
		}
	}
	return true
}

// descending returns the indices of the sizes, that of the greatest one first,
// and of equal ones the least index first.
func descending(sizes []int) []int {
	l := make([]int, len(sizes))
	for i := range l {
		l[i] = i
	}
	slices.SortStableFunc(l, func(i, k int) int { return cmp.Compare(sizes[k], sizes[i]) })
	return l
}
