package stream

import (
	"strings"

	"quarry/api"
	"quarry/bitmap"
	"quarry/levels"
	"quarry/marks"
	"quarry/quotes"
)

// The chapter's words, said once more: a plain splitting asks the layers below for each document, and goes through the whole anew.

// split: the documents of a text, and where it is bad.
func split(s string) (docs []api.Span, bad int) {
	blanks := marks.Blanks(s)
	for at := 0; at < len(s); {
		if bitmap.Get(blanks, at) {
			at++
			continue
		}
		to := behind(s, at)
		if to < 0 {
			return docs, at
		}
		docs = append(docs, api.Span{From: at, To: to})
		at = to
	}
	return docs, -1
}

// behind: the place behind the document that begins at a place outside; -1, if none does.
func behind(s string, at int) int {
	switch marks.Kind(s, at) {
	case '{', '[':
		if end := levels.Close(s, at); end >= 0 {
			return end + 1
		}
	case '"':
		if end := bitmap.Next(quotes.Marks(s), at+1); end >= 0 {
			return end + 1
		}
	case 'w':
		for word := range marks.Words(s) {
			if word.From == at {
				return word.To
			}
		}
	}
	return -1
}

// And once more without those layers, place by place from the text's beginning on.

// classes: of each byte what it is: a quote (") for a mark, i inside, _ for a blank, w for a word byte, else the structural byte itself.
func classes(s string) string {
	var list strings.Builder
	inside := false
	for at := range len(s) {
		ahead := s[:at]
		escaped := (len(ahead)-len(strings.TrimRight(ahead, "\\")))%2 == 1
		switch c := s[at]; {
		case c == '"' && !escaped:
			inside = !inside
			list.WriteByte('"')
		case inside:
			list.WriteByte('i')
		case strings.IndexByte("{}[]:,", c) >= 0:
			list.WriteByte(c)
		case strings.IndexByte(" \t\n\r", c) >= 0:
			list.WriteByte('_')
		default:
			list.WriteByte('w')
		}
	}
	return list.String()
}

// byHand: the same as split.
func byHand(s string) (docs []api.Span, bad int) {
	is := classes(s)
	for at := 0; at < len(is); {
		n := 0
		switch is[at] {
		case '_':
			at++
			continue
		case '{', '[':
			n = closed(is[at:])
		case '"':
			if end := strings.IndexByte(is[at+1:], '"'); end >= 0 {
				n = end + 2
			}
		case 'w':
			n = len(is[at:]) - len(strings.TrimLeft(is[at:], "w"))
		}
		if n == 0 {
			return docs, at
		}
		docs = append(docs, api.Span{From: at, To: at + n})
		at += n
	}
	return docs, -1
}

// closed: how long the row of classes is from its opening bracket to behind the closing one; 0, if it isn't closed.
func closed(is string) int {
	open := 0
	for n := range len(is) {
		switch is[n] {
		case '{', '[':
			open++
		case '}', ']':
			open--
		}
		if open == 0 {
			return n + 1
		}
	}
	return 0
}

// plain is a Splitter that keeps all, and splits it anew with each piece.
type plain struct {
	all  string
	told int // so many documents
	of   func(string) ([]api.Span, int)
}

func (p *plain) feed(s string) []string {
	p.all += s
	docs, _ := p.of(p.all)
	if n := len(docs); n > 0 && docs[n-1].To == len(p.all) && classes(p.all)[len(p.all)-1] == 'w' {
		docs = docs[:n-1] // it may go on
	}
	list := cut(p.all, docs[p.told:])
	p.told = len(docs)
	return list
}

func (p *plain) end() (doc string, ok bool, rest string) {
	docs, bad := p.of(p.all)
	if left := cut(p.all, docs[p.told:]); len(left) > 0 {
		doc, ok = left[0], true
	}
	if bad >= 0 {
		rest = p.all[bad:]
	}
	*p = plain{of: p.of}
	return doc, ok, rest
}

// cut: the texts at some spans.
func cut(s string, spans []api.Span) (list []string) {
	for _, span := range spans {
		list = append(list, s[span.From:span.To])
	}
	return list
}

// rule: ordinary numbers from a fixed rule.
type rule uint64

func (r *rule) below(n int) int {
	*r = *r*6364136223846793005 + 1442695040888963407
	return int((uint64(*r) ^ uint64(*r)>>29) % uint64(n))
}

func one[T any](r *rule, of []T) T { return of[r.below(len(of))] }

// scraps: what texts of several documents are put together from, well or badly.
var scraps = []string{" ", " ", "\n", "\t\r", "1", "-2.5e3", "null", "true", `"a"`, `""`, `"\""`, `"\\"`, `"]}"`, "[]", "{}", "[1,2]", `{"a":{"b":[]}}`, `["[",1]`, "[", "]", "{", "}", `"`, `\`, `\\`, `\"`, ",", ":", "\xff", "\x00", "\u00e4", strings.Repeat(`\`, 63), strings.Repeat(`\`, 64), strings.Repeat(" ", 61), strings.Repeat("a", 65), "\x0b", "\u00a0", "'", "x"}

// text: of up to so many scraps.
func (r *rule) text(most int) string {
	var s strings.Builder
	for range r.below(most + 1) {
		s.WriteString(one(r, scraps))
	}
	return s.String()
}

// pieces: a text cut at places of a kind that the rule takes, empty pieces too.
func (r *rule) pieces(s string) (list []string) {
	most := one(r, []int{1, 2, 3, 9, 65, 200})
	for len(s) > 0 {
		n := min(r.below(most+1), len(s))
		list = append(list, s[:n])
		s = s[n:]
	}
	if r.below(4) == 0 {
		list = append(list, "")
	}
	return list
}

// document: a valid one of at most so many levels.
func (r *rule) document(most int) string {
	if most == 0 || r.below(3) == 0 {
		return one(r, []string{"null", "true", "false", "0", "-1.50", "1e2", `""`, `"a b"`, `"\""`, `"\\"`, `"[{"`, `"}]\\\""`, "\"\u00e4\"", `"` + strings.Repeat("x", 70) + `"`})
	}
	var list []string
	ahead := []string{"", `"a":`, `"]":`, ` "\"" : `}
	object := r.below(2) == 0
	for range r.below(4) {
		name := ""
		if object {
			name = ahead[1+r.below(3)]
		}
		list = append(list, name+r.document(most-1)+one(r, []string{"", "", " "}))
	}
	if object {
		return "{" + strings.Join(list, ",") + "}"
	}
	return "[" + strings.Join(list, ",") + "]"
}
