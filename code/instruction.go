package code

import (
	"slices"
	"strconv"
	"strings"

	"threshing/api"
)

// The instructions; those from insAdd to insFind are the operations.
const (
	insNum = iota
	insText
	insField
	insCount
	insAdd
	insSub
	insMul
	insDiv
	insMod
	insJoin
	insLen
	insSlice
	insUpper
	insLower
	insEq
	insLess
	insNot
	insIf
	insToNum
	insToText
	insHash
	insFind
	insAcc
	insItem
)

const (
	// gap is between the name of an instruction and its operand.
	gap = " "
	// quote is at both ends of a string.
	quote = `"`
)

// names returns the names of the instructions, by their numbers.
func names() [insItem + 1]string {
	return [...]string{
		insNum:    "num",
		insText:   "text",
		insField:  "field",
		insCount:  "count",
		insAdd:    "add",
		insSub:    "sub",
		insMul:    "mul",
		insDiv:    "div",
		insMod:    "mod",
		insJoin:   "join",
		insLen:    "len",
		insSlice:  "slice",
		insUpper:  "upper",
		insLower:  "lower",
		insEq:     "eq",
		insLess:   "less",
		insNot:    "not",
		insIf:     "if",
		insToNum:  "tonum",
		insToText: "totext",
		insHash:   "hash",
		insFind:   "find",
		insAcc:    "acc",
		insItem:   "item",
	}
}

// numberOf returns the number of the instructions with the given name, or -1 if
// there are none.
func numberOf(name string) int {
	all := names()
	return slices.Index(all[:], name)
}

// hasOperand reports whether the lines of the instructions with the number op
// have operands.
func hasOperand(op int) bool {
	return op == insNum || op == insText || op == insField
}

// operandOf returns the operand of the line of x.
func operandOf(x api.Ins) string {
	if x.Op == insText {
		return quoted(x.S)
	}
	return strconv.Itoa(x.N)
}

// withOperand returns the instruction with the number op and the given operand,
// if there is one; otherwise it returns any other instruction.
func withOperand(op int, operand string) api.Ins {
	x := api.Ins{Op: op}
	switch op {
	case insNum, insField:
		x.N, _ = strconv.Atoi(operand)
	case insText:
		x.S = unquoted(operand)
	}
	return x
}

// quoted returns s as the operand of a line.
func quoted(s string) string {
	r := strings.NewReplacer(`\`, `\\`, quote, `\"`, end, `\n`)
	return quote + r.Replace(s) + quote
}

// unquoted returns the string of which quoted returns s, if there is one;
// otherwise it returns any other string.
func unquoted(s string) string {
	s = strings.TrimPrefix(s, quote)
	s = strings.TrimSuffix(s, quote)
	r := strings.NewReplacer(`\\`, `\`, `\"`, quote, `\n`, end)
	return r.Replace(s)
}
