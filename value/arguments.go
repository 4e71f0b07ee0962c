package value

import (
	"strconv"
	"strings"

	"threshing/api"
)

const (
	// mostDigits is how many digits a string that represents a number has at
	// most.
	mostDigits = 18
	// caseBit is the bit in which a capital letter and its small one differ.
	caseBit = 'a' ^ 'A'
)

// arguments are the values that an operation takes, which are of the kinds of
// the operation; those that it does not take are zero.
type arguments [mostArguments]api.Val

func (a arguments) add() api.Val { return Num(a[0].N + a[1].N) }

func (a arguments) sub() api.Val { return Num(a[0].N - a[1].N) }

func (a arguments) mul() api.Val { return Num(a[0].N * a[1].N) }

// div divides. The least number by -1 is the least number in Go, too.
func (a arguments) div() api.Val {
	if a[1].N == 0 {
		return Num(0)
	}
	return Num(a[0].N / a[1].N)
}

// mod returns the remainder. Of the least number by -1 it is 0 in Go, too.
func (a arguments) mod() api.Val {
	if a[1].N == 0 {
		return Num(0)
	}
	return Num(a[0].N % a[1].N)
}

func (a arguments) join() api.Val { return Text(a[0].S + a[1].S) }

func (a arguments) length() api.Val { return Num(len(a[0].S)) }

// slice cuts a part out. The number of bytes is compared with what is there
// rather than added to the offset, as the sum may be too great for an int.
func (a arguments) slice() api.Val {
	s := a[0].S
	rest := s[min(max(a[1].N, 0), len(s)):]
	return Text(rest[:min(max(a[2].N, 0), len(rest))])
}

func (a arguments) upper() api.Val { return Text(otherCase(a[0].S, 'a', 'z')) }

func (a arguments) lower() api.Val { return Text(otherCase(a[0].S, 'A', 'Z')) }

func (a arguments) eq() api.Val { return truth(Compare(a[0], a[1]) == 0) }

func (a arguments) less() api.Val { return truth(Compare(a[0], a[1]) < 0) }

func (a arguments) not() api.Val { return truth(a[0].N == 0) }

func (a arguments) choose() api.Val {
	if a[0].N != 0 {
		return a[1]
	}
	return a[2]
}

func (a arguments) num() api.Val { return Num(represented(a[0].S)) }

func (a arguments) text() api.Val { return Text(strconv.Itoa(a[0].N)) }

func (a arguments) hash() api.Val { return Num(Hash(a[0].S)) }

func (a arguments) find() api.Val { return Num(strings.Index(a[0].S, a[1].S)) }

// truth returns the number that stands for a truth value.
func truth(b bool) api.Val {
	if b {
		return Num(1)
	}
	return Num(0)
}

// otherCase returns s, where the letters from first to last are replaced by
// those of the other case. It looks at bytes rather than runes, as a string may
// have bytes that are no runes.
func otherCase(s string, first, last byte) string {
	b := []byte(s)
	for i, c := range b {
		if first <= c && c <= last {
			b[i] = c ^ caseBit
		}
	}
	return string(b)
}

// represented returns the number that s represents, or 0 if it represents none.
// (The library's parsers accept a plus sign and more digits.)
func represented(s string) int {
	digits, negative := strings.CutPrefix(s, "-")
	if len(digits) > mostDigits {
		return 0
	}
	n := 0
	for i := range len(digits) {
		c := digits[i]
		if c < '0' || c > '9' {
			return 0
		}
		n = 10*n + int(c-'0')
	}
	if negative {
		return -n
	}
	return n
}
