package value

import "threshing/api"

// The operations.
const (
	opAdd = iota + 4
	opSub
	opMul
	opDiv
	opMod
	opJoin
	opLen
	opSlice
	opUpper
	opLower
	opEq
	opLess
	opNot
	opIf
	opNum
	opText
	opHash
	opFind
)

// mostArguments is how many values an operation takes at most.
const mostArguments = 3

// kind is what a value has to be.
type kind uint8

const (
	// none is the kind of an argument that is not taken.
	none kind = iota
	number
	text
	// alike is the kind of a number or a string, the same one for all arguments
	// of this kind and for the result.
	alike
)

// kinds are the kinds of the arguments of an operation.
type kinds [mostArguments]kind

// operation is what an operation takes and returns, and how it does it. If
// there are arguments of the kind alike, the last one is among them.
type operation struct {
	takes   kinds
	returns kind
	do      func(a arguments) api.Val
}

// operationOf returns the operation op, and whether there is one.
func operationOf(op int) (operation, bool) {
	if op < opAdd || op > opFind {
		return operation{}, false
	}
	table := [...]operation{
		opAdd:   {kinds{number, number}, number, arguments.add},
		opSub:   {kinds{number, number}, number, arguments.sub},
		opMul:   {kinds{number, number}, number, arguments.mul},
		opDiv:   {kinds{number, number}, number, arguments.div},
		opMod:   {kinds{number, number}, number, arguments.mod},
		opJoin:  {kinds{text, text}, text, arguments.join},
		opLen:   {kinds{text}, number, arguments.length},
		opSlice: {kinds{text, number, number}, text, arguments.slice},
		opUpper: {kinds{text}, text, arguments.upper},
		opLower: {kinds{text}, text, arguments.lower},
		opEq:    {kinds{alike, alike}, number, arguments.eq},
		opLess:  {kinds{alike, alike}, number, arguments.less},
		opNot:   {kinds{number}, number, arguments.not},
		opIf:    {kinds{number, alike, alike}, alike, arguments.choose},
		opNum:   {kinds{text}, number, arguments.num},
		opText:  {kinds{number}, text, arguments.text},
		opHash:  {kinds{text}, number, arguments.hash},
		opFind:  {kinds{text, text}, number, arguments.find},
	}
	return table[op], true
}

// arity returns how many values o takes.
func (o operation) arity() int {
	n := 0
	for _, k := range o.takes {
		if k != none {
			n++
		}
	}
	return n
}

// mayTake reports whether o takes arguments of which args tells whether they
// are strings.
func (o operation) mayTake(args []bool) bool {
	if len(args) != o.arity() {
		return false
	}
	for i, isText := range args {
		if kindOf(isText) != decided(o.takes[i], args) {
			return false
		}
	}
	return true
}

// resultOf returns the kind of the result of o for arguments that it takes.
func (o operation) resultOf(args []bool) kind {
	return decided(o.returns, args)
}

// decided returns the kind k, or what the kind alike is for arguments of which
// args tells whether they are strings.
func decided(k kind, args []bool) kind {
	if k == alike {
		return kindOf(args[len(args)-1])
	}
	return k
}

// kindOf returns the kind of a value that is a string or is not.
func kindOf(isText bool) kind {
	if isText {
		return text
	}
	return number
}
