package check

import (
	"threshing/api"
	"threshing/code"
	"threshing/value"
)

// The instructions that are no operations.
const (
	insNum   = 0
	insText  = 1
	insField = 2
	insCount = 3
	insAcc   = 22
	insItem  = 23
)

const (
	// mostInstructions is how many instructions a program has at most.
	mostInstructions = 200
	// mostElements is how many elements a stack has at most.
	mostElements = 30
	// foldKinds is how many kinds are given for a fold: that of the accumulator,
	// and that of the value.
	foldKinds = 2
)

// stack is the stack of a program that is executed on kinds instead of values.
type stack struct {
	// kinds tells for each element, the bottom one first, whether it is a string.
	kinds []bool
	// most is the greatest number of elements so far.
	most int
}

// execute executes the program p as far as it can be executed. It returns how
// many instructions were executed, and why the next one cannot be.
func (s *stack) execute(p []api.Ins, fold []bool) (int, api.Errno) {
	if len(fold) != 0 && len(fold) != foldKinds {
		return 0, api.ErrArg
	}
	if len(p) > mostInstructions {
		return 0, api.ErrLarge
	}
	for i, x := range p {
		if e := s.step(x, fold); e != api.OK {
			return i, e
		}
	}
	return len(p), api.OK
}

// step executes the instruction x, or leaves the stack as it is if x cannot be
// executed.
func (s *stack) step(x api.Ins, fold []bool) api.Errno {
	change, e := effectOf(x, fold)
	if e != api.OK {
		return e
	}
	if e := change(s); e != api.OK {
		return e
	}
	s.most = max(s.most, len(s.kinds))
	return api.OK
}

// effect changes a stack as an instruction does. It returns an error, and leaves
// the stack as it is, if the instruction cannot be executed on this stack.
type effect func(s *stack) api.Errno

// effectOf returns the effect of the instruction x, or ErrArg if x cannot be
// executed on any stack.
func effectOf(x api.Ins, fold []bool) (effect, api.Errno) {
	if !code.May(x) {
		return nil, api.ErrArg
	}
	switch x.Op {
	case insNum, insCount:
		return push(false).apply, api.OK
	case insText, insField:
		return push(true).apply, api.OK
	case insAcc, insItem:
		if len(fold) == 0 {
			return nil, api.ErrArg
		}
		return push(fold[x.Op-insAcc]).apply, api.OK
	}
	return operation(x.Op).apply, api.OK
}

// push is an instruction that pushes a value; it tells whether that is a string.
type push bool

// apply pushes the kind of the value.
func (k push) apply(s *stack) api.Errno {
	if len(s.kinds) == mostElements {
		return api.ErrStack
	}
	s.kinds = append(s.kinds, bool(k))
	return api.OK
}

// operation is an instruction that does an operation, which has this number.
type operation int

// apply replaces the kinds of the arguments by that of the result. As there is
// at least one argument, the stack does not grow.
func (o operation) apply(s *stack) api.Errno {
	rest := len(s.kinds) - value.Arity(int(o))
	if rest < 0 {
		return api.ErrStack
	}
	isText, e := value.Result(int(o), s.kinds[rest:])
	if e != api.OK {
		return e
	}
	s.kinds = append(s.kinds[:rest], isText)
	return api.OK
}
