package job

import (
	"strconv"
	"strings"

	"threshing/api"
	"threshing/code"
)

// end is what follows each line of a text form.
const end = "\n"

// What the lines of a text form begin with.
const (
	setWords   = "words"
	setCombine = "combine"
	setDown    = "down"
	setNumeric = "numeric"
	leadOp     = "op "
	leadParts  = "parts "
	leadFuel   = "fuel "
	leadInit   = "init "
	headWhere  = "where:"
	headKey    = "key:"
	headValue  = "value:"
	headFold   = "fold:"
)

// writer writes the text form of a valid job.
type writer struct {
	strings.Builder
}

// job writes all lines of j.
func (w *writer) job(j Job) {
	w.flag(setWords, j.Words)
	w.flag(setCombine, j.Combine)
	w.flag(setDown, j.Down)
	w.flag(setNumeric, j.Numeric)
	w.line(leadOp, strconv.Itoa(j.Op))
	w.line(leadParts, strconv.Itoa(j.Parts))
	w.line(leadFuel, strconv.Itoa(j.Fuel))
	if j.Op == Fold {
		push, _ := code.Line(pushing(j.Init))
		w.line(leadInit, push)
	}
	w.program(headWhere, j.Where)
	w.program(headKey, j.Key)
	w.program(headValue, j.Value)
	w.program(headFold, j.Fold)
}

// line writes a line that consists of lead and rest.
func (w *writer) line(lead, rest string) {
	w.WriteString(lead)
	w.WriteString(rest)
	w.WriteString(end)
}

// flag writes the line name if it is set.
func (w *writer) flag(name string, set bool) {
	if set {
		w.line(name, "")
	}
}

// program writes the line head and the lines of the program p, if it has any.
func (w *writer) program(head string, p []api.Ins) {
	if len(p) == 0 {
		return
	}
	w.line(head, "")
	lines, _ := code.Print(p)
	w.WriteString(lines)
}

// reader reads a job from its text form. Of any other string, it reads some job.
type reader struct {
	// rest is what was not read yet.
	rest string
}

// job reads all lines of a job.
func (r *reader) job() Job {
	var j Job
	j.Words = r.skip(setWords + end)
	j.Combine = r.skip(setCombine + end)
	j.Down = r.skip(setDown + end)
	j.Numeric = r.skip(setNumeric + end)
	j.Op = r.number(leadOp)
	j.Parts = r.number(leadParts)
	j.Fuel = r.number(leadFuel)
	j.Init = r.pushed(leadInit)
	j.Where = r.program(headWhere)
	j.Key = r.program(headKey)
	j.Value = r.program(headValue)
	j.Fold = r.program(headFold)
	return j
}

// skip reads prefix, and reports whether it was there.
func (r *reader) skip(prefix string) bool {
	rest, found := strings.CutPrefix(r.rest, prefix)
	r.rest = rest
	return found
}

// line reads the rest of a line that begins with lead, or nothing if the next
// line does not begin with it.
func (r *reader) line(lead string) string {
	if !r.skip(lead) {
		return ""
	}
	line, rest, _ := strings.Cut(r.rest, end)
	r.rest = rest
	return line
}

// number reads a line that consists of lead and a number.
func (r *reader) number(lead string) int {
	n, _ := strconv.Atoi(r.line(lead))
	return n
}

// pushed reads a line that consists of lead and the line of an instruction, and
// returns what this instruction pushes.
func (r *reader) pushed(lead string) api.Val {
	x, _ := code.Parse(r.line(lead))
	return api.Val{IsText: x.Op == insText, N: x.N, S: x.S}
}

// program reads the line head and the lines of instructions that follow it, or
// nothing if the next line is not head.
func (r *reader) program(head string) []api.Ins {
	if !r.skip(head + end) {
		return nil
	}
	var p []api.Ins
	for {
		line, rest, _ := strings.Cut(r.rest, end)
		x, e := code.Parse(line)
		if e != api.OK {
			return p
		}
		p = append(p, x)
		r.rest = rest
	}
}
