package eval

import (
	"threshing/api"
	"threshing/value"
)

// The instructions that are no operations.
const (
	insNum   = 0
	insText  = 1
	insField = 2
	insCount = 3
	insAcc   = 22
	insItem  = 23
)

// unitBytes is how many bytes of the strings that an operation pops cost as much
// as an instruction.
const unitBytes = 64

// machine executes programs that have passed the check: it does not look for
// values that are missing or have the wrong kind.
type machine struct {
	// rec is the record, which a fold does not have.
	rec api.Rec
	// sum and item are the accumulator and the value of a fold.
	sum, item api.Val
	// fuel is what is left of the fuel.
	fuel int
	// stack has the values, the bottom one first.
	stack []api.Val
}

// execute executes the program p, or returns ErrFuel, with no values and no fuel
// left, if there is too little fuel.
func (m *machine) execute(p []api.Ins) api.Errno {
	for _, x := range p {
		cost := m.costOf(x)
		if cost > m.fuel {
			m.fuel, m.stack = 0, nil
			return api.ErrFuel
		}
		m.fuel -= cost
		act := instruction(x).action()
		act(m)
	}
	return api.OK
}

// costOf returns the cost of the instruction x, if it is the next one.
func (m *machine) costOf(x api.Ins) int {
	n := 0
	for _, v := range m.top(value.Arity(x.Op)) {
		n += len(v.S)
	}
	return 1 + n/unitBytes
}

// top returns the n values at the top of the stack, the top one last.
func (m *machine) top(n int) []api.Val {
	return m.stack[len(m.stack)-n:]
}

// push puts the value v on the stack.
func (m *machine) push(v api.Val) {
	m.stack = append(m.stack, v)
}

// instruction is an instruction whose action can be bound to it.
type instruction api.Ins

// action returns what the instruction does.
func (x instruction) action() func(m *machine) {
	switch x.Op {
	case insNum:
		return x.pushNum
	case insText:
		return x.pushText
	case insField:
		return x.pushField
	case insCount:
		return x.pushCount
	case insAcc:
		return x.pushSum
	case insItem:
		return x.pushItem
	}
	return x.operate
}

// pushNum pushes the number of the instruction.
func (x instruction) pushNum(m *machine) { m.push(value.Num(x.N)) }

// pushText pushes the string of the instruction.
func (x instruction) pushText(m *machine) { m.push(value.Text(x.S)) }

// pushField pushes a field of the record, or the empty string if there is no
// such field.
func (x instruction) pushField(m *machine) {
	s := ""
	if x.N < len(m.rec) {
		s = m.rec[x.N]
	}
	m.push(value.Text(s))
}

// pushCount pushes the number of fields of the record.
func (x instruction) pushCount(m *machine) { m.push(value.Num(len(m.rec))) }

// pushSum pushes the accumulator of the fold.
func (x instruction) pushSum(m *machine) { m.push(m.sum) }

// pushItem pushes the value of the fold.
func (x instruction) pushItem(m *machine) { m.push(m.item) }

// operate replaces the arguments of an operation by its result. As the arguments
// are of the kinds that the operation takes, there is no error.
func (x instruction) operate(m *machine) {
	n := value.Arity(x.Op)
	v, _ := value.Do(x.Op, m.top(n))
	m.stack = append(m.stack[:len(m.stack)-n], v)
}
