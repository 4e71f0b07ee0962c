package csv

import "threshing/api"

const (
	comma          = ','
	quote          = '"'
	newline        = '\n'
	carriageReturn = '\r'
	// end is what a parser is given after the last byte of the file.
	end = -1
)

// parser parses one record, byte by byte.
type parser struct {
	// next processes the next byte, or the end of the file.
	next   func(c int)
	record api.Rec
	field  []byte
	done   bool
	e      api.Errno
}

// parse returns the record with which b begins, and the number of its bytes
// including the end of line; b is not empty.
func parse(b []byte) (api.Rec, int, api.Errno) {
	p := &parser{}
	p.next = p.begin
	for i, c := range b {
		p.next(int(c))
		if p.done {
			return p.record, i + 1, p.e
		}
	}
	p.next(end)
	return p.record, len(b), p.e
}

// begin processes the first byte of a field.
func (p *parser) begin(c int) {
	if c == quote {
		p.next = p.quoted
		return
	}
	p.next = p.unquoted
	p.unquoted(c)
}

// unquoted processes a byte of an unquoted field, or the byte after it.
func (p *parser) unquoted(c int) {
	switch c {
	case comma, quote, newline, carriageReturn, end:
		p.afterField(c)
	default:
		p.add(c)
	}
}

// quoted processes a byte after the quote that begins a quoted field.
func (p *parser) quoted(c int) {
	switch c {
	case quote:
		p.next = p.afterQuote
	case end:
		p.fail(api.ErrForm)
	default:
		p.add(c)
	}
}

// afterQuote processes the byte after a quote in a quoted field: the quote
// ended the field unless this is another one.
func (p *parser) afterQuote(c int) {
	if c == quote {
		p.next = p.quoted
		p.add(c)
		return
	}
	p.afterField(c)
}

// afterField processes the byte after a field.
func (p *parser) afterField(c int) {
	switch c {
	case comma:
		p.endField()
		p.next = p.begin
		// After a comma there is another field, whatever follows.
		if len(p.record) == api.MaxFields {
			p.fail(api.ErrLarge)
		}
	case carriageReturn:
		p.next = p.afterReturn
	case newline, end:
		p.endField()
		p.done = true
	default:
		p.fail(api.ErrForm)
	}
}

// afterReturn processes the byte after a byte 13 that follows a field.
func (p *parser) afterReturn(c int) {
	if c != newline {
		p.fail(api.ErrForm)
		return
	}
	p.afterField(c)
}

// add adds a byte to the field.
func (p *parser) add(c int) {
	if len(p.field) == api.MaxField {
		p.fail(api.ErrLarge)
		return
	}
	p.field = append(p.field, byte(c))
}

// endField adds the field to the record.
func (p *parser) endField() {
	p.record = append(p.record, string(p.field))
	p.field = p.field[:0]
}

// fail ends the record with an error.
func (p *parser) fail(e api.Errno) {
	p.record, p.e, p.done = nil, e, true
}
