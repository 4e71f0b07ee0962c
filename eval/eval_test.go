package eval_test

import (
	"math"
	"math/rand"
	"slices"
	"strings"
	"testing"

	"threshing/api"
	"threshing/check"
	"threshing/eval"
	"threshing/value"
)

const (
	least    = math.MinInt64
	greatest = math.MaxInt64
)

// arity has the number of values that each operation takes.
var arity = map[int]int{
	4: 2, 5: 2, 6: 2, 7: 2, 8: 2, 9: 2, 10: 1, 11: 3, 12: 1, 13: 1, 14: 2, 15: 2, 16: 1, 17: 3, 18: 1, 19: 1, 20: 1, 21: 2,
}

// num returns a number.
func num(n int) api.Val { return api.Val{N: n} }

// text returns a string.
func text(s string) api.Val { return api.Val{IsText: true, S: s} }

// long returns a string of n bytes, all of which matter.
func long(n int) string {
	b := make([]byte, n)
	for i := range b {
		b[i] = byte('a' + i%23)
	}
	return string(b)
}

// pushing returns an instruction that pushes the value.
func pushing(v api.Val) api.Ins {
	if v.IsText {
		return api.Ins{Op: 1, S: v.S}
	}
	return api.Ins{N: v.N}
}

// values returns a program that pushes the values.
func values(l ...api.Val) []api.Ins {
	var p []api.Ins
	for _, v := range l {
		p = append(p, pushing(v))
	}
	return p
}

// kinds returns the kinds of the values.
func kinds(l []api.Val) []bool {
	var k []bool
	for _, v := range l {
		k = append(k, v.IsText)
	}
	return k
}

// short returns the beginning of a program, for a message.
func short(p []api.Ins) []api.Ins { return p[:min(len(p), 40)] }

// inputs are what a program is executed on.
type inputs struct {
	r         api.Rec
	sum, item api.Val
}

// next returns the stack after an instruction, and the cost of this instruction.
func next(stack []api.Val, x api.Ins, in inputs) ([]api.Val, int) {
	rest := len(stack) - arity[x.Op]
	args := stack[rest:]
	n := 0
	for _, v := range args {
		n += len(v.S)
	}
	var v api.Val
	switch x.Op {
	case 0:
		v = num(x.N)
	case 1:
		v = text(x.S)
	case 2:
		v = text("")
		if x.N < len(in.r) {
			v = text(in.r[x.N])
		}
		if len(v.S) > 1000 {
			v = text(v.S[:1000])
		}
	case 3:
		v = num(len(in.r))
	case 22:
		v = in.sum
	case 23:
		v = in.item
	default:
		v, _ = value.Do(x.Op, args)
	}
	return append(slices.Clone(stack[:rest]), v), 1 + n/64
}

// result is what an execution leaves.
type result struct {
	stack []api.Val
	left  int
	e     api.Errno
}

// same reports whether two results are equal.
func same(a, b result) bool {
	return slices.Equal(a.stack, b.stack) && a.left == b.left && a.e == b.e
}

// executed returns the result of a program that passes the check.
func executed(p []api.Ins, in inputs, fuel int) result {
	var stack []api.Val
	for _, x := range p {
		after, cost := next(stack, x, in)
		if cost > fuel {
			return result{e: api.ErrFuel}
		}
		stack, fuel = after, fuel-cost
	}
	return result{stack: stack, left: fuel}
}

// costOf returns how much fuel a program needs that passes the check.
func costOf(p []api.Ins, in inputs) int {
	return greatest - executed(p, in, greatest).left
}

// wantRun returns what Run is to return.
func wantRun(p []api.Ins, r api.Rec, fuel int) result {
	if _, _, e := check.Stack(p, nil); e != api.OK {
		return result{nil, fuel, e}
	}
	return executed(p, inputs{r: r}, fuel)
}

// wantOne returns what One is to return, with no or one value.
func wantOne(p []api.Ins, r api.Rec, fuel int) result {
	k, _, e := check.Stack(p, nil)
	if e == api.OK && len(k) != 1 {
		e = api.ErrType
	}
	if e != api.OK {
		return result{nil, fuel, e}
	}
	return executed(p, inputs{r: r}, fuel)
}

// wantYes returns what Yes is to return: a number is 1 if it is to be true.
func wantYes(p []api.Ins, r api.Rec, fuel int) result {
	if len(p) == 0 {
		return result{[]api.Val{num(1)}, fuel, api.OK}
	}
	w := wantOne(p, r, fuel)
	if k, _, e := check.Stack(p, nil); e == api.OK && len(k) == 1 && k[0] {
		return result{nil, fuel, api.ErrType}
	}
	if len(w.stack) == 1 && w.stack[0].N != 0 {
		w.stack = []api.Val{num(1)}
	}
	return w
}

// isValue reports whether v is a value, by the words of chapter 13.
func isValue(v api.Val) bool {
	return v.IsText && v.N == 0 && len(v.S) <= 1000 || !v.IsText && v.S == ""
}

// wantFold returns what Fold is to return, with no or one value.
func wantFold(p []api.Ins, sum, item api.Val, fuel int) result {
	if !isValue(sum) || !isValue(item) {
		return result{nil, fuel, api.ErrArg}
	}
	k, _, e := check.Stack(p, []bool{sum.IsText, item.IsText})
	if e == api.OK && (len(k) != 1 || k[0] != sum.IsText) {
		e = api.ErrType
	}
	if e != api.OK {
		return result{nil, fuel, e}
	}
	return executed(p, inputs{sum: sum, item: item}, fuel)
}

// lone returns the result of a function that returns a single value, which is
// the zero value if there is an error.
func lone(t *testing.T, v api.Val, left int, e api.Errno) result {
	t.Helper()
	if e == api.OK {
		return result{[]api.Val{v}, left, e}
	}
	if v != (api.Val{}) {
		t.Fatalf("the value %v with the error %d", v, e)
	}
	return result{nil, left, e}
}

// truth returns true and false as numbers.
func truth(yes bool) api.Val {
	if yes {
		return num(1)
	}
	return num(0)
}

// expect checks that a function returns what it is to return.
func expect(t *testing.T, name string, p []api.Ins, fuel int, g, w result) {
	t.Helper()
	if !same(g, w) {
		t.Fatalf("%s(%v) with the fuel %d: %v, %d, %d, want %v, %d, %d", name, short(p), fuel, g.stack, g.left, g.e, w.stack, w.left, w.e)
	}
}

// verify checks Run, One and Yes for a program.
func verify(t *testing.T, p []api.Ins, r api.Rec, fuel int) {
	t.Helper()
	program, record := slices.Clone(p), slices.Clone(r)
	l, left, e := eval.Run(p, r, fuel)
	if e != api.OK && len(l) != 0 {
		t.Fatalf("Run(%v): %v with the error %d", short(p), l, e)
	}
	expect(t, "Run", p, fuel, result{l, left, e}, wantRun(p, r, fuel))
	v, left, e := eval.One(p, r, fuel)
	expect(t, "One", p, fuel, lone(t, v, left, e), wantOne(p, r, fuel))
	yes, left, e := eval.Yes(p, r, fuel)
	expect(t, "Yes", p, fuel, lone(t, truth(yes), left, e), wantYes(p, r, fuel))
	if !slices.Equal(p, program) || !slices.Equal(r, record) {
		t.Fatalf("%v and %v were changed to %v and %v", short(program), record, short(p), r)
	}
}

// verifyFold checks Fold for a program.
func verifyFold(t *testing.T, p []api.Ins, sum, item api.Val, fuel int) {
	t.Helper()
	program := slices.Clone(p)
	v, left, e := eval.Fold(p, sum, item, fuel)
	expect(t, "Fold", p, fuel, lone(t, v, left, e), wantFold(p, sum, item, fuel))
	if !slices.Equal(p, program) {
		t.Fatalf("%v was changed to %v", short(program), short(p))
	}
}

// fuels returns amounts of fuel, those around what the program needs among them.
func fuels(p []api.Ins, in inputs) []int {
	l := []int{least, -65, -1, 0, 1, 2, check.Cost(p), greatest - 1, greatest}
	if _, _, e := check.Stack(p, []bool{in.sum.IsText, in.item.IsText}); e == api.OK {
		cost := costOf(p, in)
		l = append(l, cost-2, cost-1, cost, cost+1, cost+65)
	}
	return l
}

// verifyAll checks all functions for a program, with much and with little fuel.
func verifyAll(t *testing.T, p []api.Ins, in inputs) {
	t.Helper()
	for _, fuel := range fuels(p, in) {
		verify(t, p, in.r, fuel)
		verifyFold(t, p, in.sum, in.item, fuel)
	}
}

// ins returns a program of instructions of the given Ops.
func ins(ops ...int) []api.Ins {
	var p []api.Ins
	for _, op := range ops {
		p = append(p, api.Ins{Op: op})
	}
	return p
}

func TestRunExamples(t *testing.T) {
	one, a := num(1), text("a")
	for _, c := range []struct {
		p    []api.Ins
		r    api.Rec
		fuel int
		w    result
	}{
		{ins(2, 10), api.Rec{"abc"}, 5, result{[]api.Val{num(3)}, 3, api.OK}},
		{ins(2, 10), api.Rec{"abc"}, 2, result{[]api.Val{num(3)}, 0, api.OK}},
		{ins(2, 10), api.Rec{"abc"}, 1, result{nil, 0, api.ErrFuel}},
		{ins(2, 10), api.Rec{"abc"}, 0, result{nil, 0, api.ErrFuel}},
		{ins(2, 10), api.Rec{"abc"}, -7, result{nil, 0, api.ErrFuel}},
		{ins(2, 10), api.Rec{"abc"}, least, result{nil, 0, api.ErrFuel}},
		{ins(2, 10), api.Rec{long(63)}, 9, result{[]api.Val{num(63)}, 7, api.OK}},
		{ins(2, 10), api.Rec{long(64)}, 9, result{[]api.Val{num(64)}, 6, api.OK}},
		{ins(2, 10), api.Rec{long(64)}, 2, result{nil, 0, api.ErrFuel}},
		{ins(2, 10), api.Rec{long(1000)}, 17, result{[]api.Val{num(1000)}, 0, api.OK}},
		{ins(2, 10), api.Rec{long(1001)}, 17, result{[]api.Val{num(1000)}, 0, api.OK}},
		{ins(2, 10), api.Rec{long(5000)}, 16, result{nil, 0, api.ErrFuel}},
		{nil, api.Rec{"a"}, 5, result{nil, 5, api.OK}},
		{nil, nil, 0, result{nil, 0, api.OK}},
		{nil, nil, -7, result{nil, -7, api.OK}},
		{values(one, a), nil, 2, result{[]api.Val{one, a}, 0, api.OK}},
		{ins(3), nil, 9, result{[]api.Val{num(0)}, 8, api.OK}},
		{ins(3), api.Rec{"", "", ""}, 9, result{[]api.Val{num(3)}, 8, api.OK}},
		{ins(3), make(api.Rec, 73), 9, result{[]api.Val{num(73)}, 8, api.OK}},
		{[]api.Ins{{Op: 2, N: 1}, {Op: 2}, {Op: 2, N: 2}}, api.Rec{"x", "y"}, 9, result{[]api.Val{text("y"), text("x"), text("")}, 6, api.OK}},
		{values(num(7), num(2)), nil, 9, result{[]api.Val{num(7), num(2)}, 7, api.OK}},
		{append(values(num(7), num(2)), ins(5)...), nil, 9, result{[]api.Val{num(5)}, 6, api.OK}},
		{append(values(one, text("abc"), one, num(5)), ins(11)...), nil, 5, result{[]api.Val{one, text("bc")}, 0, api.OK}},
		{append(values(num(0), a, text("b")), ins(17)...), nil, 5, result{[]api.Val{text("b")}, 1, api.OK}},
		{append(values(one, a), ins(4)...), nil, 7, result{nil, 7, api.ErrType}},
		{append(values(one, a), ins(4)...), nil, 0, result{nil, 0, api.ErrType}},
		{append(values(one, a), ins(4)...), nil, least, result{nil, least, api.ErrType}},
		{ins(4), nil, 7, result{nil, 7, api.ErrStack}},
		{ins(22), nil, 7, result{nil, 7, api.ErrArg}},
		{ins(23), nil, 7, result{nil, 7, api.ErrArg}},
		{ins(99), nil, 7, result{nil, 7, api.ErrArg}},
		{[]api.Ins{{Op: 2, N: 50}}, make(api.Rec, 60), 7, result{nil, 7, api.ErrArg}},
		{make([]api.Ins, 30), nil, 30, result{make([]api.Val, 30), 0, api.OK}},
		{make([]api.Ins, 31), nil, 7, result{nil, 7, api.ErrStack}},
		{make([]api.Ins, 201), nil, 7, result{nil, 7, api.ErrLarge}},
	} {
		l, left, e := eval.Run(c.p, c.r, c.fuel)
		if g := (result{l, left, e}); !same(g, c.w) {
			t.Errorf("Run(%v, %d fields, %d): %v, want %v", short(c.p), len(c.r), c.fuel, g, c.w)
		}
		verify(t, c.p, c.r, c.fuel)
	}
}

func TestOneExamples(t *testing.T) {
	for _, c := range []struct {
		p    []api.Ins
		fuel int
		w    result
	}{
		{ins(2), 1, result{[]api.Val{text("abc")}, 0, api.OK}},
		{ins(2, 10), 7, result{[]api.Val{num(3)}, 5, api.OK}},
		{nil, 7, result{nil, 7, api.ErrType}},
		{ins(3, 3), 7, result{nil, 7, api.ErrType}},
		{ins(3, 3), 0, result{nil, 0, api.ErrType}},
		{ins(3, 2, 4), 7, result{nil, 7, api.ErrType}},
		{ins(3, 4), 7, result{nil, 7, api.ErrStack}},
		{ins(22), 7, result{nil, 7, api.ErrArg}},
		{make([]api.Ins, 201), 7, result{nil, 7, api.ErrLarge}},
		{ins(3), 0, result{nil, 0, api.ErrFuel}},
		{ins(3), -1, result{nil, 0, api.ErrFuel}},
	} {
		v, left, e := eval.One(c.p, api.Rec{"abc"}, c.fuel)
		if g := lone(t, v, left, e); !same(g, c.w) {
			t.Errorf("One(%v, %d): %v, want %v", short(c.p), c.fuel, g, c.w)
		}
	}
}

func TestYesExamples(t *testing.T) {
	for _, c := range []struct {
		p    []api.Ins
		fuel int
		yes  bool
		left int
		e    api.Errno
	}{
		{nil, 7, true, 7, api.OK},
		{[]api.Ins{}, 0, true, 0, api.OK},
		{nil, -7, true, -7, api.OK},
		{values(num(0)), 7, false, 6, api.OK},
		{values(num(1)), 7, true, 6, api.OK},
		{values(num(-1)), 1, true, 0, api.OK},
		{values(num(least)), 1, true, 0, api.OK},
		{values(num(1 << 32)), 1, true, 0, api.OK},
		{values(num(256)), 1, true, 0, api.OK},
		{ins(3, 16), 2, false, 0, api.OK},
		{ins(3, 16), 1, false, 0, api.ErrFuel},
		{ins(3), 0, false, 0, api.ErrFuel},
		{ins(3), least, false, 0, api.ErrFuel},
		{ins(2), 7, false, 7, api.ErrType},
		{ins(2), 0, false, 0, api.ErrType},
		{ins(3, 3), 7, false, 7, api.ErrType},
		{ins(3, 2), 7, false, 7, api.ErrType},
		{ins(4), 7, false, 7, api.ErrStack},
		{ins(3, 22), 7, false, 7, api.ErrArg},
		{make([]api.Ins, 201), 7, false, 7, api.ErrLarge},
	} {
		if yes, left, e := eval.Yes(c.p, api.Rec{"abc"}, c.fuel); yes != c.yes || left != c.left || e != c.e {
			t.Errorf("Yes(%v, %d): %v, %d, %d, want %v, %d, %d", short(c.p), c.fuel, yes, left, e, c.yes, c.left, c.e)
		}
	}
}

func TestFoldExamples(t *testing.T) {
	for _, c := range []struct {
		p         []api.Ins
		sum, item api.Val
		fuel      int
		w         result
	}{
		{ins(22, 23, 4), num(3), num(4), 3, result{[]api.Val{num(7)}, 0, api.OK}},
		{ins(22, 23, 4), num(3), num(4), 2, result{nil, 0, api.ErrFuel}},
		{ins(22, 23, 4), num(3), num(4), -2, result{nil, 0, api.ErrFuel}},
		{ins(22, 23, 5), num(3), num(4), 9, result{[]api.Val{num(-1)}, 6, api.OK}},
		{ins(22, 23, 9), text("a"), text("b"), 9, result{[]api.Val{text("ab")}, 6, api.OK}},
		{ins(23, 22, 9), text("a"), text("b"), 9, result{[]api.Val{text("ba")}, 6, api.OK}},
		{ins(22, 23, 9), text(long(40)), text(long(24)), 9, result{[]api.Val{text(long(40) + long(24))}, 5, api.OK}},
		{ins(22, 23, 10, 4), num(3), text("ab"), 9, result{[]api.Val{num(5)}, 5, api.OK}},
		{ins(22, 23, 19, 9), text("a"), num(-5), 9, result{[]api.Val{text("a-5")}, 5, api.OK}},
		{ins(23), num(3), num(4), 9, result{[]api.Val{num(4)}, 8, api.OK}},
		{ins(22), num(3), text("x"), 9, result{[]api.Val{num(3)}, 8, api.OK}},
		{ins(23), num(3), text("x"), 9, result{nil, 9, api.ErrType}},
		{ins(22), text("x"), num(3), 9, result{[]api.Val{text("x")}, 8, api.OK}},
		{ins(23), text("x"), num(3), 9, result{nil, 9, api.ErrType}},
		{ins(3), num(3), num(4), 9, result{[]api.Val{num(0)}, 8, api.OK}},
		{ins(2), text("x"), num(4), 9, result{[]api.Val{text("")}, 8, api.OK}},
		{nil, num(3), num(4), 9, result{nil, 9, api.ErrType}},
		{ins(22, 23), num(3), num(4), 9, result{nil, 9, api.ErrType}},
		{ins(22, 4), num(3), num(4), 9, result{nil, 9, api.ErrStack}},
		{ins(99), num(3), num(4), 9, result{nil, 9, api.ErrArg}},
		{make([]api.Ins, 201), num(3), num(4), 9, result{nil, 9, api.ErrLarge}},
		{ins(22), api.Val{N: 3, S: "a"}, num(4), 9, result{nil, 9, api.ErrArg}},
		{ins(22), num(3), api.Val{IsText: true, N: 1}, 9, result{nil, 9, api.ErrArg}},
		{ins(22), text(long(1000)), text(long(1000)), 9, result{[]api.Val{text(long(1000))}, 8, api.OK}},
		{ins(22), text(long(1001)), text(long(1000)), 9, result{nil, 9, api.ErrArg}},
		{ins(22), text(long(1000)), text(long(1001)), 9, result{nil, 9, api.ErrArg}},
	} {
		v, left, e := eval.Fold(c.p, c.sum, c.item, c.fuel)
		if g := lone(t, v, left, e); !same(g, c.w) {
			t.Errorf("Fold(%v, %v, %v, %d): %v, want %v", short(c.p), c.sum, c.item, c.fuel, g, c.w)
		}
		verifyFold(t, c.p, c.sum, c.item, c.fuel)
	}
}

// TestNotValues checks that Fold refuses what is not a value before it looks at
// the program.
func TestNotValues(t *testing.T) {
	good := []api.Val{num(0), num(least), num(greatest), text(""), text("a"), text(long(1000))}
	bad := []api.Val{{N: 1, S: "a"}, {S: "a"}, {S: long(1001)}, {IsText: true, N: 1}, {IsText: true, N: -1, S: "a"}, text(long(1001)), text(long(5000))}
	for _, p := range [][]api.Ins{nil, ins(22), ins(23), ins(3), ins(99), ins(4), ins(22, 23), make([]api.Ins, 31), make([]api.Ins, 201)} {
		for _, fuel := range []int{least, -1, 0, 1, 9, greatest} {
			for _, v := range append(slices.Clone(bad), good...) {
				for _, w := range bad {
					for _, l := range [][2]api.Val{{v, w}, {w, v}} {
						if v, left, e := eval.Fold(p, l[0], l[1], fuel); v != (api.Val{}) || left != fuel || e != api.ErrArg {
							t.Fatalf("Fold(%v, %d) of what is not a value: %v, %d, %d", short(p), fuel, v, left, e)
						}
					}
				}
			}
			for _, v := range good {
				for _, w := range good {
					verifyFold(t, p, v, w, fuel)
				}
			}
		}
	}
}

// samples returns values: numbers at the limits of what they may be, and strings
// of lengths at which the cost changes.
func samples() []api.Val {
	l := []api.Val{num(0), num(1), num(-1), num(7), num(-3), num(64), num(least), num(greatest)}
	for _, n := range []int{0, 1, 31, 32, 33, 63, 64, 65, 127, 128, 936, 999, 1000} {
		l = append(l, text(long(n)))
	}
	return append(l, text("-12"), text("Ab\x00\xff"))
}

// TestCostOfOperations checks each operation on all samples of its kinds.
func TestCostOfOperations(t *testing.T) {
	for op, n := range arity {
		all := [][]api.Val{nil}
		for range n {
			var longer [][]api.Val
			for _, l := range all {
				for _, v := range samples() {
					longer = append(longer, append(slices.Clone(l), v))
				}
			}
			all = longer
		}
		for _, l := range all {
			w, e := value.Do(op, l)
			if e != api.OK {
				continue
			}
			bytes := 0
			for _, v := range l {
				bytes += len(v.S)
			}
			cost := 1 + bytes/64
			p := append(values(l...), ins(op)...)
			v, left, e := eval.One(p, nil, n+cost+5)
			if v != w || left != 5 || e != api.OK {
				t.Fatalf("%v: %v, %d, %d, want %v, 5", p, v, left, e, w)
			}
			if v, left, e := eval.One(p, nil, n+cost-1); v != (api.Val{}) || left != 0 || e != api.ErrFuel {
				t.Fatalf("%v with one less: %v, %d, %d", p, v, left, e)
			}
		}
	}
}

// TestCostOfOthers checks that what is pushed costs nothing beside the
// instruction, however long it is, nor what stays on the stack.
func TestCostOfOthers(t *testing.T) {
	v := text(long(1000))
	r := api.Rec{v.S, v.S + v.S}
	for _, p := range [][]api.Ins{values(v), {{Op: 2, N: 1}}, append(values(v, num(1)), ins(16)...), append(values(v, num(1), num(2)), ins(4)...)} {
		if l, left, e := eval.Run(p, r, len(p)); len(l) == 0 || l[0] != v || left != 0 || e != api.OK {
			t.Errorf("%v: %v, %d, %d", p, l, left, e)
		}
	}
	for _, op := range []int{22, 23} {
		if w, left, e := eval.Fold(ins(op), v, v, 1); w != v || left != 0 || e != api.OK {
			t.Errorf("Op %d: %v, %d, %d", op, w, left, e)
		}
	}
}

// TestFields reads each field of records, of which some are longer than a value.
func TestFields(t *testing.T) {
	for _, n := range []int{0, 1, 2, 3, 49, 50, 51, 100} {
		r := make(api.Rec, n)
		for i := range r {
			r[i] = long(i * 40)
		}
		for at := range 50 {
			w := text("")
			if at < n {
				w = text(long(min(at*40, 1000)))
			}
			if v, left, e := eval.One([]api.Ins{{Op: 2, N: at}}, r, 7); v != w || left != 6 || e != api.OK {
				t.Errorf("the field %d of %d: %v, %d, %d", at, n, v, left, e)
			}
			// The memory beyond the record has no fields of it.
			if v, _, e := eval.One([]api.Ins{{Op: 2, N: at}}, r[:min(n, 2)], 7); at >= 2 && v != text("") || e != api.OK {
				t.Errorf("the field %d of %d: %v, %d", at, min(n, 2), v, e)
			}
		}
		if v, _, e := eval.One(ins(3), r, 7); v != num(n) || e != api.OK {
			t.Errorf("%d fields: %v, %d", n, v, e)
		}
	}
	for _, s := range []string{"\x00", "\xff\xfe", "\xe4\xf6", "ä", "a\nb", long(999), long(1000), long(1001), strings.Repeat("ä", 501)} {
		if v, _, e := eval.One(ins(2), api.Rec{s}, 7); v != text(s[:min(len(s), 1000)]) || e != api.OK {
			t.Errorf("the field %q: %v, %d", s, v, e)
		}
	}
}

// listed calls each with all lists of at most most of the elements.
func listed[T any](elements []T, most int, each func(l []T)) {
	lists := [][]T{nil}
	for n := 0; ; n++ {
		var longer [][]T
		for _, l := range lists {
			each(l)
			for _, x := range elements {
				if n < most {
					longer = append(longer, append(slices.Clone(l), x))
				}
			}
		}
		if n == most {
			return
		}
		lists = longer
	}
}

// all returns an instruction of each number, from below the least one to beyond
// the greatest one, and instructions that are not valid.
func all() []api.Ins {
	var l []api.Ins
	for op := -3; op < 27; op++ {
		l = append(l, api.Ins{Op: op})
	}
	return append(l, []api.Ins{
		{N: least}, {N: greatest}, {N: 64}, {N: 1, S: "1"}, {Op: 1, S: long(90)}, {Op: 1, S: long(1000)}, {Op: 1, S: long(1001)}, {Op: 1, N: 1},
		{Op: 2, N: 1}, {Op: 2, N: 49}, {Op: 2, N: 50}, {Op: 2, N: -1}, {Op: 2, S: "a"}, {Op: 3, N: 1}, {Op: 4, N: 1}, {Op: 9, S: "a"},
		{Op: 22, N: 1}, {Op: 23, S: "a"}, {Op: least}, {Op: greatest}, {Op: 256 + 4},
	}...)
}

// record is one of which fields are short, empty, long and too long.
func record() api.Rec { return api.Rec{"-12", "", long(64), long(1000), long(1001), "x,y", long(130)} }

// TestEachInstruction executes each instruction on each stack of at most three
// values.
func TestEachInstruction(t *testing.T) {
	few := []api.Val{num(0), num(-5), text("b"), text(long(100))}
	listed(few, 3, func(stack []api.Val) {
		for _, x := range all() {
			verifyAll(t, append(values(stack...), x), inputs{record(), num(3), text("ab")})
			verifyAll(t, append(values(stack...), x, api.Ins{Op: 3}), inputs{record(), text(long(40)), num(3)})
		}
	})
}

// TestAllPrograms executes all programs of up to three instructions, and longer
// ones of a few instructions.
func TestAllPrograms(t *testing.T) {
	one := []api.Ins{{Op: -1}, {Op: 2, N: 2}, {N: 5}}
	for op := range 25 {
		one = append(one, api.Ins{Op: op})
	}
	in := inputs{api.Rec{"abc", "-7", long(70)}, num(3), text(long(65))}
	listed(one, 3, func(p []api.Ins) {
		for _, fuel := range []int{0, 2, 3, 4, 5, greatest} {
			verify(t, p, in.r, fuel)
			verifyFold(t, p, in.sum, in.item, fuel)
			verifyFold(t, p, in.item, in.sum, fuel)
		}
	})
	few := []api.Ins{{N: 5}, {Op: 2, N: 2}, {Op: 9}, {Op: 10}, {Op: 17}, {Op: 19}, {Op: 22}}
	listed(few, 5, func(p []api.Ins) { verifyAll(t, p, in) })
}

// random returns a random value.
func random(r *rand.Rand) api.Val {
	l := samples()
	switch r.Intn(3) {
	case 0:
		return num(r.Intn(200) - 100)
	case 1:
		return text(long(r.Intn(300)))
	}
	return l[r.Intn(len(l))]
}

// randomRecord returns a random record.
func randomRecord(r *rand.Rand) api.Rec {
	var l api.Rec
	for range r.Intn(60) {
		l = append(l, strings.Repeat(random(r).S, r.Intn(3)))
	}
	return l
}

// program returns a random program, most of which can be executed.
func program(r *rand.Rand, most int, fold []bool) []api.Ins {
	var p []api.Ins
	l, wild := all(), r.Intn(4) == 0
	for range r.Intn(most + 1) {
		x := l[r.Intn(len(l))]
		switch r.Intn(5) {
		case 0:
			x = pushing(random(r))
		case 1:
			x = api.Ins{Op: 2, N: r.Intn(50)}
		}
		if _, n, e := check.Stack(append(p, x), fold); e == api.OK || wild && n == len(p) && r.Intn(60) == 0 {
			p = append(p, x)
		}
	}
	return p
}

func TestRandomPrograms(t *testing.T) {
	r := rand.New(rand.NewSource(16))
	for range 600 {
		in := inputs{randomRecord(r), random(r), random(r)}
		verifyAll(t, program(r, 60, nil), in)
		verifyAll(t, program(r, 60, kinds([]api.Val{in.sum, in.item})), in)
		verifyAll(t, program(r, 500, nil), in)
	}
}

// TestTotality checks that a program that passes the check yields values of the
// kinds that it reports, and the same values with more fuel.
func TestTotality(t *testing.T) {
	r := rand.New(rand.NewSource(17))
	for range 600 {
		p, rec := program(r, 600, nil), randomRecord(r)
		k, _, e := check.Stack(p, nil)
		if e != api.OK {
			continue
		}
		enough := check.Cost(p)
		l, left, e := eval.Run(p, rec, enough)
		if e != api.OK || !slices.Equal(kinds(l), k) || left < 0 {
			t.Fatalf("%v: %v, %d, %d, want the kinds %v", short(p), l, left, e, k)
		}
		for _, v := range l {
			if !isValue(v) {
				t.Fatalf("%v yields %v", short(p), v)
			}
		}
		for _, more := range []int{1, 64, 1 << 40, greatest - enough} {
			if m, n, e := eval.Run(p, rec, enough+more); e != api.OK || !slices.Equal(m, l) || n != left+more {
				t.Fatalf("%v with %d more: %v, %d, %d", short(p), more, m, n, e)
			}
		}
		if m, n, e := eval.Run(p, rec, enough-left); e != api.OK || !slices.Equal(m, l) || n != 0 {
			t.Fatalf("%v with what it needs: %v, %d, %d", short(p), m, n, e)
		}
		if m, n, e := eval.Run(p, rec, enough-left-1); enough > left && (e != api.ErrFuel || len(m) != 0 || n != 0) {
			t.Fatalf("%v with less than it needs: %v, %d, %d", short(p), m, n, e)
		}
	}
}

// TestTotalityOfFolds checks the same of folds.
func TestTotalityOfFolds(t *testing.T) {
	r := rand.New(rand.NewSource(18))
	for range 3000 {
		sum, item := random(r), random(r)
		fold := kinds([]api.Val{sum, item})
		p := program(r, 40, fold)
		if check.Check(p, fold, fold[:1]) != api.OK {
			continue
		}
		enough := check.Cost(p)
		v, left, e := eval.Fold(p, sum, item, enough)
		if e != api.OK || v.IsText != sum.IsText || !isValue(v) || left < 0 {
			t.Fatalf("%v of %v and %v: %v, %d, %d", short(p), sum, item, v, left, e)
		}
		if w, n, e := eval.Fold(p, sum, item, greatest); w != v || n != greatest-enough+left || e != api.OK {
			t.Fatalf("%v of %v and %v with more fuel: %v, %d, %d", short(p), sum, item, w, n, e)
		}
	}
}

// TestDearestPrograms checks that the dearest instructions do not cost more than
// Cost says.
func TestDearestPrograms(t *testing.T) {
	s := text(long(1000))
	p := values(s, s)
	for len(p) < 200 {
		p = append(p, api.Ins{Op: 9}, pushing(s))
	}
	for _, q := range [][]api.Ins{p, append(values(num(1), s, s), ins(17)...), append(values(s, s), ins(21)...), append(values(s, s), ins(14)...)} {
		verifyAll(t, q, inputs{nil, num(1), num(2)})
		if l, left, e := eval.Run(q, nil, check.Cost(q)); e != api.OK || left < 0 || len(l) == 0 {
			t.Errorf("%v: %d, %d", short(q), left, e)
		}
	}
}

// TestMemory checks that arguments are not modified, also beyond their lengths,
// and that results are not modified by later calls and do not share memory with
// them.
func TestMemory(t *testing.T) {
	p := append(ins(2, 3, 2), api.Ins{Op: 2, N: 1}, api.Ins{Op: 99}, api.Ins{Op: 98})
	r := api.Rec{"a", "bc", "x", "y"}
	w := []api.Val{text("a"), num(2), text("a"), text("bc")}
	for range 2 {
		l, _, e := eval.Run(p[:4], r[:2], 9)
		if !slices.Equal(l, w) || e != api.OK {
			t.Fatalf("%v, %d", l, e)
		}
		m, _, _ := eval.Run(p[:4], r[:2], 9)
		for i := range m {
			m[i] = num(77)
		}
		_ = append(m[:1], w...)
		if !slices.Equal(l, w) {
			t.Fatalf("%v", l)
		}
		n, _, _ := eval.Run(p[:2], r[:2], 9)
		if !slices.Equal(n, w[:2]) || !slices.Equal(l, w) {
			t.Fatalf("%v, %v", n, l)
		}
	}
	if !slices.Equal(p, append(ins(2, 3, 2), api.Ins{Op: 2, N: 1}, api.Ins{Op: 99}, api.Ins{Op: 98})) || !slices.Equal(r, api.Rec{"a", "bc", "x", "y"}) {
		t.Errorf("%v, %v", p, r)
	}
}

func FuzzEval(f *testing.F) {
	f.Add([]byte{2, 10}, 0, "abc", 5, false)
	f.Add([]byte{22, 23, 9, 2, 9, 10, 19}, 7, "a", 20, true)
	f.Add([]byte{1, 1, 9, 0, 0, 11, 20}, 3, "abcdefgh", 300, true)
	f.Fuzz(func(t *testing.T, ops []byte, n int, s string, fuel int, isText bool) {
		var p []api.Ins
		for _, op := range ops {
			switch x := (api.Ins{Op: int(op) % 26}); x.Op {
			case 0:
				p = append(p, api.Ins{N: n + int(op)/26})
			case 1:
				p = append(p, api.Ins{Op: 1, S: s})
			case 2:
				p = append(p, api.Ins{Op: 2, N: int(op) / 26})
			case 25:
				p = append(p, api.Ins{Op: n, S: s})
			default:
				p = append(p, x)
			}
		}
		in := inputs{append(strings.Split(s, ","), s+s), num(n), text(s[:min(len(s), 1000)])}
		if isText {
			in.sum, in.item = in.item, in.sum
		}
		verify(t, p, in.r, fuel)
		verifyAll(t, p, in)
	})
}
