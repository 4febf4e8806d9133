package stream

import "quarry/api"

// state: in what the place stands to which a text has been read.
type state int

const (
	between    state = iota // in no document
	inWord                  // in one that is a word
	inBrackets              // in one with brackets, so many as the depth says
	inQuotes                // between marks, whether there are brackets around them or not
	inBad                   // at the bad place, or behind it
)

// kind: what a byte is to a state.
type kind int

const (
	other kind = iota // a word byte, if it is outside
	blank
	mark
	opening
	closing
	separator
)

// read goes on through the text with its next piece: the spans in it of the documents that are known with it, and where begins in it what isn't told yet: of a document, or from the bad place on. What began in an earlier piece begins at 0 here.
func (p *Splitter) read(s string) (spans []api.Span, from int) {
	at := 0
	var x kind
	switch p.state {
	case inWord:
		goto word
	case inBrackets, inQuotes:
		goto enclosed
	case inBad:
		return nil, 0
	}
outside:
	if at == len(s) {
		return spans, p.stop(between, at)
	}
	x = p.next(s[at])
begin:
	from = at
	at++
	switch x {
	case blank:
		goto outside
	case other:
		goto word
	case mark:
		p.state = inQuotes
		goto enclosed
	case opening:
		p.state, p.depth = inBrackets, 1
		goto enclosed
	}
	return spans, p.stop(inBad, from)
word:
	if at == len(s) {
		return spans, p.stop(inWord, from)
	}
	if x = p.next(s[at]); x == other {
		at++
		goto word
	}
	spans = append(spans, api.Span{From: from, To: at})
	goto begin
enclosed:
	if at = p.finish(s, at); p.state != between {
		return spans, from
	}
	spans = append(spans, api.Span{From: from, To: at})
	goto outside
}

// finish goes on to behind the document with brackets or marks around it; if the piece ends ahead of that, the state stays one within it.
func (p *Splitter) finish(s string, at int) int {
	var x kind
	if p.state == inQuotes {
		goto quotes
	}
brackets:
	if at == len(s) {
		return p.stop(inBrackets, at)
	}
	x = p.next(s[at])
	at++
	switch x {
	case mark:
		goto quotes
	case opening:
		p.depth++
	case closing:
		p.depth--
	}
behind:
	if p.depth > 0 {
		goto brackets
	}
	return p.stop(between, at)
quotes:
	if at == len(s) {
		return p.stop(inQuotes, at)
	}
	x = p.next(s[at])
	if at++; x != mark {
		goto quotes
	}
	goto behind
}

// stop leaves off in a state, and hands on a place.
func (p *Splitter) stop(in state, place int) int {
	p.state = in
	return place
}

// next: what the byte is that comes next. Backslashes count wherever they stand.
func (p *Splitter) next(c byte) kind {
	escaped := p.escaped
	p.escaped = c == '\\' && !escaped
	switch c {
	case ' ', '\t', '\n', '\r':
		return blank
	case '{', '[':
		return opening
	case '}', ']':
		return closing
	case ':', ',':
		return separator
	case '"':
		if !escaped {
			return mark
		}
	}
	return other
}
