package job

import (
	"threshing/api"
	"threshing/check"
	"threshing/code"
)

const (
	// mostParts is how many partitions a job has at most.
	mostParts = 8
	// mostFuel is how much fuel a job gives to an execution at most.
	mostFuel = 100000
)

// The instructions that push a value.
const (
	insNum  = 0
	insText = 1
)

// programsFit reports whether the programs of j can be executed, and yield what
// is required. (Without the Op Fold, there is nothing that the program Fold could
// be executed on.)
func programsFit(j Job) bool {
	if len(j.Where) > 0 && !yields(j.Where, nil, false) {
		return false
	}
	if !yields(j.Key, nil, true) {
		return false
	}
	text, ok := kindOf(j.Value)
	if !ok {
		return false
	}
	switch j.Op {
	case Sum, Min, Max:
		return !text
	case Join:
		return text
	case Fold:
		return yields(j.Fold, []bool{j.Init.IsText, text}, j.Init.IsText)
	}
	return true
}

// yields reports whether the program p can be executed and yields one value,
// which is a string or a number, as text says. In a fold, fold has the kinds of
// the accumulator and of the value.
func yields(p []api.Ins, fold []bool, text bool) bool {
	return check.Check(p, fold, []bool{text}) == api.OK
}

// kindOf reports whether the program p yields a string, and whether it can be
// executed and yields one value at all.
func kindOf(p []api.Ins) (bool, bool) {
	kinds, _, e := check.Stack(p, nil)
	if e != api.OK || len(kinds) != 1 {
		return false, false
	}
	return kinds[0], true
}

// numbersFit reports whether the numbers of j are in their ranges.
func numbersFit(j Job) bool {
	return Sum <= j.Op && j.Op <= Fold && 1 <= j.Parts && j.Parts <= mostParts && 0 <= j.Fuel && j.Fuel <= mostFuel
}

// aggregationFits reports whether Combine, Fold and Init of j are set only for an
// Op that permits it, and Init is a value.
func aggregationFits(j Job) bool {
	if j.Combine && j.Op != Sum && j.Op != Min && j.Op != Max {
		return false
	}
	if j.Op == Fold {
		return code.May(pushing(j.Init))
	}
	return len(j.Fold) == 0 && j.Init == api.Val{}
}

// pushing returns the instruction that pushes v, which is valid if v is a value.
func pushing(v api.Val) api.Ins {
	x := api.Ins{Op: insNum, N: v.N, S: v.S}
	if v.IsText {
		x.Op = insText
	}
	return x
}
