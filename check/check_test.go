package check_test

import (
	"math"
	"math/rand"
	"slices"
	"strings"
	"testing"

	"threshing/api"
	"threshing/check"
)

const (
	least    = math.MinInt64
	greatest = math.MaxInt64
)

// Below, the kinds of a stack are a string with a letter for each element, the
// bottom one first: n for a number, t for a string.

// pushed has the kind that an instruction pushes, A for that of the accumulator
// of a fold, and I for that of its value.
var pushed = map[int]string{0: "n", 1: "t", 2: "t", 3: "n", 22: "A", 23: "I"}

// taken has for each operation the kinds that it may take, each with the kind of
// the result for them.
var taken = map[int]map[string]string{
	4: {"nn": "n"}, 5: {"nn": "n"}, 6: {"nn": "n"}, 7: {"nn": "n"}, 8: {"nn": "n"},
	9: {"tt": "t"}, 10: {"t": "n"}, 11: {"tnn": "t"}, 12: {"t": "t"}, 13: {"t": "t"},
	14: {"nn": "n", "tt": "n"}, 15: {"nn": "n", "tt": "n"}, 16: {"n": "n"}, 17: {"nnn": "n", "ntt": "t"},
	18: {"t": "n"}, 19: {"n": "t"}, 20: {"t": "n"}, 21: {"tt": "n"},
}

// folds are the folds that may be given, from none to all pairs of kinds.
var folds = []string{"", "nn", "nt", "tn", "tt"}

// noFolds are the kinds of no fold.
var noFolds = []string{"n", "t", "nnn", "ttt", "ntn", "nnnn", "tttttttttt", strings.Repeat("n", 30), strings.Repeat("t", 201)}

// noOps are numbers of no instructions.
var noOps = []int{least, -1 << 32, -256, -24, -3, -2, -1, 24, 25, 26, 99, 255, 256, 256 + 4, 1 << 32, 1<<32 + 4, greatest}

// notValid are instructions that are not valid, for all numbers.
var notValid = []api.Ins{
	{S: "a"}, {N: 1, S: "1"}, {Op: 1, N: 1}, {Op: 1, N: -1, S: "a"}, {Op: 1, S: strings.Repeat("x", 1001)},
	{Op: 2, N: -1}, {Op: 2, N: 50}, {Op: 2, N: 1000}, {Op: 2, N: least}, {Op: 2, N: greatest}, {Op: 2, S: "a"}, {Op: 2, N: 49, S: "a"},
	{Op: 3, N: 1}, {Op: 3, S: "a"}, {Op: 4, N: 1}, {Op: 10, S: "a"}, {Op: 17, N: -1}, {Op: 21, S: "a"},
	{Op: 22, N: 1}, {Op: 22, S: "a"}, {Op: 23, N: 1}, {Op: 23, S: "a"},
}

// kinds returns the kinds with the given letters.
func kinds(letters string) []bool {
	var l []bool
	for _, c := range letters {
		l = append(l, c == 't')
	}
	return l
}

// letters returns the letters of the given kinds.
func letters(l []bool) string {
	var b strings.Builder
	for _, isText := range l {
		if isText {
			b.WriteByte('t')
		} else {
			b.WriteByte('n')
		}
	}
	return b.String()
}

// pushing returns a program that leaves a stack of the given kinds.
func pushing(letters string) []api.Ins {
	var p []api.Ins
	for i, c := range letters {
		switch {
		case c == 'n' && i%2 == 0:
			p = append(p, api.Ins{N: i - 3})
		case c == 'n':
			p = append(p, api.Ins{Op: 3})
		case i%2 == 0:
			p = append(p, api.Ins{Op: 1, S: "a"})
		default:
			p = append(p, api.Ins{Op: 2, N: i})
		}
	}
	return p
}

// isValid reports whether x is valid, by the words of chapter 14.
func isValid(x api.Ins) bool {
	switch {
	case x.Op == 0:
		return x.S == ""
	case x.Op == 1:
		return x.N == 0 && len(x.S) <= 1000
	case x.Op == 2:
		return 0 <= x.N && x.N <= 49 && x.S == ""
	}
	return 3 <= x.Op && x.Op <= 23 && x.N == 0 && x.S == ""
}

// after returns the stack after the instruction x, or why it cannot be executed.
func after(stack string, x api.Ins, fold string) (string, api.Errno) {
	if !isValid(x) || x.Op >= 22 && fold == "" {
		return "", api.ErrArg
	}
	if kind, ok := pushed[x.Op]; ok {
		if fold != "" {
			kind = strings.NewReplacer("A", fold[:1], "I", fold[1:]).Replace(kind)
		}
		if len(stack) >= 30 {
			return "", api.ErrStack
		}
		return stack + kind, api.OK
	}
	for args, kind := range taken[x.Op] {
		if len(stack) < len(args) {
			return "", api.ErrStack
		}
		if rest, ok := strings.CutSuffix(stack, args); ok {
			return rest + kind, api.OK
		}
	}
	return "", api.ErrType
}

// result is what Stack returns, and Depth.
type result struct {
	stack string
	n     int
	e     api.Errno
	most  int
}

// resume returns the result of a program that is executed on a stack.
func resume(stack string, p []api.Ins, fold string) result {
	r := result{stack: stack, most: len(stack)}
	for _, x := range p {
		next, e := after(r.stack, x, fold)
		if e != api.OK {
			r.e = e
			return r
		}
		r.stack = next
		r.n++
		r.most = max(r.most, len(next))
	}
	return r
}

// want returns the result of a program.
func want(p []api.Ins, fold string) result {
	switch {
	case len(fold) != 0 && len(fold) != 2:
		return result{e: api.ErrArg}
	case len(p) > 200:
		return result{e: api.ErrLarge}
	}
	return resume("", p, fold)
}

// got returns the result of a program by the functions of the package.
func got(p []api.Ins, fold string) result {
	l, n, e := check.Stack(p, kinds(fold))
	return result{letters(l), n, e, check.Depth(p, kinds(fold))}
}

// verify checks all functions for a program and a fold.
func verify(t *testing.T, p []api.Ins, fold string) {
	t.Helper()
	before := slices.Clone(p)
	w := want(p, fold)
	if g := got(p, fold); g != w {
		t.Fatalf("%v in the fold %q: %+v, want %+v", short(p), fold, g, w)
	}
	for _, s := range []string{w.stack, "", "n", "t", w.stack + "n", "t" + w.stack, other(w.stack)} {
		e := w.e
		if e == api.OK && s != w.stack {
			e = api.ErrType
		}
		if f := check.Check(p, kinds(fold), kinds(s)); f != e {
			t.Fatalf("Check(%v, %q, %q) = %d, want %d", short(p), fold, s, f, e)
		}
	}
	needs := 0
	for n := range 50 {
		if slices.Contains(p, api.Ins{Op: 2, N: n}) {
			needs = n + 1
		}
	}
	if n := check.Needs(p); n != needs {
		t.Fatalf("Needs(%v) = %d, want %d", short(p), n, needs)
	}
	if n := check.Cost(p); n != 65*len(p) {
		t.Fatalf("Cost(%v) = %d, want %d", short(p), n, 65*len(p))
	}
	if !slices.Equal(p, before) {
		t.Fatalf("%v was changed to %v", short(before), short(p))
	}
}

// short returns the beginning of a program, for a message.
func short(p []api.Ins) []api.Ins { return p[:min(len(p), 40)] }

// other returns a stack of which the last element has the other kind.
func other(stack string) string {
	if rest, ok := strings.CutSuffix(stack, "n"); ok {
		return rest + "t"
	}
	return strings.TrimSuffix(stack, "t") + "n"
}

// listed calls each with all lists of at most most of the elements.
func listed[T any](elements []T, most int, each func(l []T)) {
	lists := [][]T{nil}
	for n := 0; ; n++ {
		var next [][]T
		for _, l := range lists {
			each(l)
			for _, x := range elements {
				if n < most {
					next = append(next, append(slices.Clone(l), x))
				}
			}
		}
		if n == most {
			return
		}
		lists = next
	}
}

// stacks returns all stacks of at most most elements.
func stacks(most int) []string {
	var l []string
	listed([]string{"n", "t"}, most, func(s []string) { l = append(l, strings.Join(s, "")) })
	return l
}

// all returns an instruction of each number, from below the least one to beyond
// the greatest one, and instructions that are not valid.
func all() []api.Ins {
	var l []api.Ins
	for op := -3; op < 27; op++ {
		l = append(l, api.Ins{Op: op})
	}
	for _, op := range noOps {
		l = append(l, api.Ins{Op: op})
	}
	l = append(l, api.Ins{N: least}, api.Ins{Op: 1, S: strings.Repeat("x", 1000)}, api.Ins{Op: 2, N: 49})
	return append(l, notValid...)
}

func TestStackExamples(t *testing.T) {
	num, text := api.Ins{N: 1}, api.Ins{Op: 1, S: "a"}
	for _, c := range []struct {
		p    []api.Ins
		fold string
		w    result
	}{
		{[]api.Ins{num, text, {Op: 4}}, "", result{"nt", 2, api.ErrType, 2}},
		{nil, "", result{"", 0, api.OK, 0}},
		{[]api.Ins{}, "tn", result{"", 0, api.OK, 0}},
		{[]api.Ins{num}, "", result{"n", 1, api.OK, 1}},
		{[]api.Ins{{Op: 2}, {Op: 10}, num, {Op: 4}, {Op: 19}}, "", result{"t", 5, api.OK, 2}},
		{[]api.Ins{num, text, num, num, {Op: 11}, {Op: 3}}, "", result{"ntn", 6, api.OK, 4}},
		{[]api.Ins{text, num, num, text, text, {Op: 17}}, "", result{"tnt", 6, api.OK, 5}},
		{[]api.Ins{num, text, num, {Op: 17}, num}, "", result{"ntn", 3, api.ErrType, 3}},
		{[]api.Ins{num, num, {Op: 17}}, "", result{"nn", 2, api.ErrStack, 2}},
		{[]api.Ins{text, {Op: 4}}, "", result{"t", 1, api.ErrStack, 1}},
		{[]api.Ins{{Op: 10}}, "", result{"", 0, api.ErrStack, 0}},
		{[]api.Ins{num, num, num, {Op: 4}, {Op: 4}, {Op: 4}}, "", result{"n", 5, api.ErrStack, 3}},
		{[]api.Ins{num, {Op: 22}}, "", result{"n", 1, api.ErrArg, 1}},
		{[]api.Ins{num, {Op: 23}}, "", result{"n", 1, api.ErrArg, 1}},
		{[]api.Ins{{Op: 22}, {Op: 23}}, "tn", result{"tn", 2, api.OK, 2}},
		{[]api.Ins{{Op: 23}, {Op: 22}}, "tn", result{"nt", 2, api.OK, 2}},
		{[]api.Ins{{Op: 22}, {Op: 23}, {Op: 9}}, "tn", result{"tn", 2, api.ErrType, 2}},
		{[]api.Ins{num, {Op: 99}}, "", result{"n", 1, api.ErrArg, 1}},
		{[]api.Ins{{Op: 4, N: 1}}, "", result{"", 0, api.ErrArg, 0}},
		{[]api.Ins{{Op: 2, N: 50}}, "", result{"", 0, api.ErrArg, 0}},
	} {
		if g := got(c.p, c.fold); g != c.w {
			t.Errorf("%v in the fold %q: %+v, want %+v", c.p, c.fold, g, c.w)
		}
		verify(t, c.p, c.fold)
	}
}

// TestEachInstruction executes each instruction on each stack of at most four
// elements, in each fold.
func TestEachInstruction(t *testing.T) {
	for _, stack := range stacks(4) {
		for _, x := range all() {
			for _, fold := range folds {
				verify(t, append(pushing(stack), x), fold)
				verify(t, append(pushing(stack), x, api.Ins{Op: 3}), fold)
			}
		}
	}
}

// TestAllPrograms executes all programs of up to three instructions, and longer
// ones of a few instructions.
func TestAllPrograms(t *testing.T) {
	one := []api.Ins{{Op: -1}, {Op: 24}, {Op: 2, N: 50}}
	for op := range 24 {
		one = append(one, api.Ins{Op: op})
	}
	listed(one, 3, func(p []api.Ins) {
		verify(t, p, "")
		verify(t, p, "nt")
	})
	few := []api.Ins{{N: 5}, {Op: 1, S: "a"}, {Op: 2, N: 3}, {Op: 14}, {Op: 17}, {Op: 19}, {Op: 22}}
	listed(few, 5, func(p []api.Ins) { verify(t, p, "tn") })
}

func TestWrongFolds(t *testing.T) {
	for _, fold := range noFolds {
		for _, p := range [][]api.Ins{nil, {}, {{N: 1}}, {{Op: 22}}, {{Op: 99}}, {{Op: 4}}, make([]api.Ins, 31), make([]api.Ins, 200), make([]api.Ins, 201), make([]api.Ins, 1000)} {
			if g, w := got(p, fold), (result{e: api.ErrArg}); g != w {
				t.Errorf("%d instructions in the fold %q: %+v, want %+v", len(p), fold, g, w)
			}
			if e := check.Check(p, kinds(fold), nil); e != api.ErrArg {
				t.Errorf("Check of %d instructions in the fold %q: %d", len(p), fold, e)
			}
			verify(t, p, fold)
		}
	}
	for _, none := range [][]bool{nil, {}, make([]bool, 0, 2), kinds("tt")[:0]} {
		for _, op := range []int{22, 23} {
			p := []api.Ins{{N: 1}, {Op: op}}
			if l, n, e := check.Stack(p, none); letters(l) != "n" || n != 1 || e != api.ErrArg {
				t.Errorf("Op %d without a fold: %v, %d, %d", op, l, n, e)
			}
			if e := check.Check(p, none, kinds("n")); e != api.ErrArg {
				t.Errorf("Check of Op %d without a fold: %d", op, e)
			}
		}
	}
}

// long returns a program of n instructions that needs two elements.
func long(n int) []api.Ins {
	var p []api.Ins
	for i := range n {
		p = append(p, []api.Ins{{N: i}, {Op: 3}, {Op: 4}, {Op: 19}, {Op: 10}, {Op: 16}}[min(i, 2+i%4)])
	}
	return p
}

func TestLongPrograms(t *testing.T) {
	for _, n := range []int{197, 198, 199, 200, 201, 202, 203, 400, 5000} {
		for _, p := range [][]api.Ins{long(n), append(long(n-1), api.Ins{Op: 2, N: 7}), slices.Repeat([]api.Ins{{Op: 99}}, n), make([]api.Ins, n)} {
			for _, fold := range folds {
				verify(t, p, fold)
			}
		}
	}
	p := []api.Ins{{N: 1}}
	for len(p) < 200 {
		p = append(p, api.Ins{Op: 16})
	}
	if g, w := got(p, ""), (result{"n", 200, api.OK, 1}); g != w {
		t.Errorf("200 instructions: %+v, want %+v", g, w)
	}
	if g, w := got(append(p, api.Ins{Op: 16}), ""), (result{e: api.ErrLarge}); g != w {
		t.Errorf("201 instructions: %+v, want %+v", g, w)
	}
	if e := check.Check(append(p, api.Ins{Op: 16}), nil, nil); e != api.ErrLarge {
		t.Errorf("Check of 201 instructions: %d", e)
	}
}

// TestFullStacks executes each instruction on stacks of 28 to 30 elements, of
// all kinds at the top.
func TestFullStacks(t *testing.T) {
	for n := 28; n <= 30; n++ {
		for _, top := range stacks(3) {
			stack := strings.Repeat("nnt", 10)[:n-len(top)] + top
			for _, x := range all() {
				for _, fold := range []string{"", "tn"} {
					p := append(pushing(stack), x)
					verify(t, p, fold)
					verify(t, append(p, api.Ins{Op: 2}, api.Ins{N: 1}, api.Ins{Op: 17}), fold)
				}
			}
		}
	}
	full := pushing(strings.Repeat("nt", 15))
	for _, c := range []struct {
		x    api.Ins
		fold string
		w    result
	}{
		{api.Ins{N: 1}, "", result{strings.Repeat("nt", 15), 30, api.ErrStack, 30}},
		{api.Ins{Op: 22}, "tt", result{strings.Repeat("nt", 15), 30, api.ErrStack, 30}},
		{api.Ins{Op: 22}, "", result{strings.Repeat("nt", 15), 30, api.ErrArg, 30}},
		{api.Ins{S: "a"}, "", result{strings.Repeat("nt", 15), 30, api.ErrArg, 30}},
		{api.Ins{Op: 10}, "", result{strings.Repeat("nt", 14) + "nn", 31, api.OK, 30}},
		{api.Ins{Op: 12}, "", result{strings.Repeat("nt", 15), 31, api.OK, 30}},
		{api.Ins{Op: 4}, "", result{strings.Repeat("nt", 15), 30, api.ErrType, 30}},
	} {
		if g := got(append(full, c.x), c.fold); g != c.w {
			t.Errorf("%v on a full stack in the fold %q: %+v, want %+v", c.x, c.fold, g, c.w)
		}
	}
}

func TestCheck(t *testing.T) {
	for _, stack := range stacks(4) {
		for _, want := range stacks(4) {
			e := api.ErrType
			if stack == want {
				e = api.OK
			}
			if f := check.Check(pushing(stack), nil, kinds(want)); f != e {
				t.Errorf("Check of the stack %q with %q: %d, want %d", stack, want, f, e)
			}
			// The kinds before an instruction that cannot be executed are not those
			// after the program.
			if f := check.Check(append(pushing(stack), api.Ins{Op: 99}), nil, kinds(want)); f != api.ErrArg {
				t.Errorf("Check of the stack %q before an error with %q: %d", stack, want, f)
			}
		}
	}
	for _, none := range [][]bool{nil, {}} {
		if e := check.Check(nil, none, none); e != api.OK {
			t.Errorf("Check of no instructions: %d", e)
		}
	}
	if e := check.Check(pushing("n"), nil, make([]bool, 31)); e != api.ErrType {
		t.Errorf("Check with 31 kinds: %d", e)
	}
}

func TestDepth(t *testing.T) {
	for n := range 35 {
		p := slices.Repeat([]api.Ins{{N: 1}}, n)
		if d := check.Depth(p, nil); d != min(n, 30) {
			t.Errorf("Depth of %d numbers: %d", n, d)
		}
		if n == 0 || n > 30 {
			continue
		}
		for range n - 1 {
			p = append(p, api.Ins{Op: 4})
		}
		if d := check.Depth(p, nil); d != n {
			t.Errorf("Depth of the sum of %d numbers: %d", n, d)
		}
		p = append(p, api.Ins{Op: 10}, api.Ins{N: 1}, api.Ins{N: 1}, api.Ins{N: 1})
		if d := check.Depth(p, nil); d != n {
			t.Errorf("Depth after what cannot be executed, for %d numbers: %d", n, d)
		}
	}
}

func TestNeeds(t *testing.T) {
	for _, c := range []struct {
		p    []api.Ins
		want int
	}{
		{nil, 0}, {[]api.Ins{{N: 7}, {Op: 1, S: "a"}, {Op: 3}}, 0}, {[]api.Ins{{Op: 2}}, 1}, {[]api.Ins{{Op: 2, N: 49}}, 50},
		{[]api.Ins{{Op: 2, N: 3}, {Op: 2, N: 8}, {Op: 2, N: 5}}, 9}, {[]api.Ins{{N: 49}, {Op: 2, N: 4}, {N: 49}}, 5},
		{[]api.Ins{{Op: 2, N: 50}}, 0}, {[]api.Ins{{Op: 2, N: -1}}, 0}, {[]api.Ins{{Op: 2, N: greatest}}, 0}, {[]api.Ins{{Op: 2, N: 9, S: "a"}}, 0},
		{[]api.Ins{{Op: 2, N: 1}, {Op: 2, N: 50}, {Op: 2, N: least}, {Op: 2, N: 30, S: "a"}}, 2},
		{[]api.Ins{{Op: 4}, {Op: 2, N: 6}}, 7}, {[]api.Ins{{Op: 99}, {Op: 2, N: 6}, {Op: 22}}, 7},
		{append(make([]api.Ins, 300), api.Ins{Op: 2, N: 11}), 12},
	} {
		if n := check.Needs(c.p); n != c.want {
			t.Errorf("Needs(%v) = %d, want %d", short(c.p), n, c.want)
		}
	}
	for n := -60; n < 120; n++ {
		w := 0
		if 0 <= n && n < 50 {
			w = n + 1
		}
		if g := check.Needs([]api.Ins{{Op: 2, N: n}}); g != w {
			t.Errorf("Needs of the field %d: %d", n, g)
		}
	}
}

func TestCost(t *testing.T) {
	for n, want := range map[int]int{0: 0, 1: 65, 2: 130, 199: 12935, 200: 13000, 201: 13065, 1000: 65000} {
		for _, x := range []api.Ins{{N: 1}, {Op: 9}, {Op: 17}, {Op: 99}} {
			if g := check.Cost(slices.Repeat([]api.Ins{x}, n)); g != want {
				t.Errorf("Cost of %d instructions: %d", n, g)
			}
		}
	}
}

// TestMemory checks that arguments are not modified, and that results are not
// modified by later calls and do not share memory with them.
func TestMemory(t *testing.T) {
	p := append(pushing("tn"), api.Ins{Op: 22}, api.Ins{Op: 23}, api.Ins{Op: 99}, api.Ins{Op: 98})
	fold, wanted := kinds("tnntn"), kinds("tntntn")
	for range 2 {
		l, n, e := check.Stack(p[:4], fold[:2])
		if letters(l) != "tntn" || n != 4 || e != api.OK {
			t.Fatalf("%v, %d, %d", l, n, e)
		}
		m, _, _ := check.Stack(p[:4], fold[:2])
		for i := range m {
			m[i] = !m[i]
		}
		_ = append(m[:1], true, true, true, true)
		if e := check.Check(p[:4], fold[:2], wanted[:4]); e != api.OK {
			t.Errorf("Check: %d", e)
		}
		if d := check.Depth(p[:4], fold[:2]); d != 4 {
			t.Errorf("Depth: %d", d)
		}
		if letters(l) != "tntn" || letters(fold) != "tnntn" || letters(wanted) != "tntntn" {
			t.Errorf("%v, %v, %v", l, fold, wanted)
		}
	}
	if p[4].Op != 99 || p[5].Op != 98 {
		t.Errorf("%v", p)
	}
}

// random returns a random instruction that can be executed on the stack, or if
// it need not, any instruction.
func random(r *rand.Rand, stack, fold string, need bool) api.Ins {
	l := all()
	for {
		x := l[r.Intn(len(l))]
		if r.Intn(3) == 0 {
			x = api.Ins{Op: r.Intn(4)}
		}
		if x.Op == 2 && x.N == 0 {
			x.N = r.Intn(50)
		}
		if _, e := after(stack, x, fold); e == api.OK || !need {
			return x
		}
	}
}

// program returns a random program, which can be executed as far as the first
// instruction that need not.
func program(r *rand.Rand, most int, fold string) []api.Ins {
	var p []api.Ins
	stack, wild := "", r.Intn(3) == 0
	for range r.Intn(most + 1) {
		x := random(r, stack, fold, !wild || r.Intn(30) > 0)
		p = append(p, x)
		stack, _ = after(stack, x, fold)
	}
	return p
}

func TestRandomPrograms(t *testing.T) {
	r := rand.New(rand.NewSource(15))
	for range 2000 {
		fold := folds[r.Intn(len(folds))]
		verify(t, program(r, 20, fold), fold)
		verify(t, program(r, 210, fold), fold)
	}
}

// TestComposition checks that the rest of a program is checked from the stack
// that its beginning leaves, which is the one that other instructions push.
func TestComposition(t *testing.T) {
	r := rand.New(rand.NewSource(16))
	for range 300 {
		fold := folds[r.Intn(len(folds))]
		p := program(r, 80, fold)
		whole := got(p, fold)
		for at := range whole.n + 1 {
			start := got(p[:at], fold)
			if start.e != api.OK || start.n != at {
				t.Fatalf("the first %d of %v: %+v", at, p, start)
			}
			rest := got(append(pushing(start.stack), p[at:]...), fold)
			if rest.stack != whole.stack || rest.e != whole.e || rest.n-len(start.stack) != whole.n-at {
				t.Fatalf("%v from %d: %+v, at once: %+v", p, at, rest, whole)
			}
			if max(start.most, rest.most) != whole.most {
				t.Fatalf("%v from %d: depths %d and %d, at once: %d", p, at, start.most, rest.most, whole.most)
			}
			if w := resume(start.stack, p[at:], fold); w.stack != whole.stack || w.e != whole.e || w.n != whole.n-at {
				t.Fatalf("%v resumed at %d: %+v, at once: %+v", p, at, w, whole)
			}
		}
	}
}

func FuzzCheck(f *testing.F) {
	f.Add([]byte{0, 1, 4}, 0, "", uint8(0))
	f.Add([]byte{22, 23, 9, 2, 9, 10, 19}, 7, "a", uint8(4))
	f.Add(make([]byte, 201), 0, "", uint8(1))
	f.Fuzz(func(t *testing.T, ops []byte, n int, s string, fold uint8) {
		var p []api.Ins
		for _, op := range ops {
			switch x := (api.Ins{Op: int(op)}); {
			case op == 0 || op == 2:
				x.N = n
				p = append(p, x)
			case op == 1:
				x.S = s
				p = append(p, x)
			case op >= 250:
				p = append(p, api.Ins{Op: n, S: s})
			default:
				p = append(p, api.Ins{Op: int(op) % 25})
			}
		}
		verify(t, p, slices.Concat(folds, noFolds)[int(fold)%(len(folds)+len(noFolds))])
	})
}
