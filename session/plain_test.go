package session

import (
	"encoding/json"
	"fmt"
	"slices"
	"strconv"
	"strings"

	"quarry/api"
	"quarry/pattern"
	"quarry/query"
)

// The chapter's words, said once more: a plain session learns nothing. It asks query.Run of each document alone, and counts.

type plain struct {
	made          question
	asked, counts int
}

// question: what a session is made of.
type question struct {
	pointers            []string
	depth, levels, room int
	told                []api.Learnt
}

// answer is all that Ask answers.
type answer struct {
	hits    []api.Hit
	verdict api.Verdict
}

// text: the same for two just if all is the same that may be told of them.
func (a answer) text() string { return fmt.Sprint(len(a.hits), a.hits, a.verdict) }

func (p *plain) ask(doc string) answer {
	p.asked++
	hits, verdict, _ := query.Run(doc, p.made.depth, p.made.levels, p.made.pointers)
	if verdict.Code == api.Valid {
		p.counts++
	}
	return answer{hits, verdict}
}

// refusal: what New answers of a question, by the calls that the chapter names for it.
func (q question) refusal() api.Errno {
	if _, _, e := query.Run("[1]", q.depth, q.levels, q.pointers); e != api.OK {
		return e
	}
	_, e := pattern.New(q.room, q.told)
	return e
}

// And the query itself: a document is gone through part by part, as the language's library reads them.

// value: where the next value stands in a document.
func value(doc string, at int) api.Span {
	d := json.NewDecoder(strings.NewReader(doc[at:]))
	var raw json.RawMessage
	if err := d.Decode(&raw); err != nil {
		panic(err)
	}
	to := at + int(d.InputOffset())
	return api.Span{From: to - len(raw), To: to}
}

// parts: the names of an object's members, or the places of an array's elements, and where each of these stands.
func parts(doc string, in api.Span) (names []string, spans []api.Span) {
	if doc[in.From] != '{' && doc[in.From] != '[' {
		return nil, nil
	}
	for at := over(doc, in.From+1); at < in.To-1; at = over(doc, at) {
		name := strconv.Itoa(len(names))
		if doc[in.From] == '{' {
			quoted := value(doc, at)
			if err := json.Unmarshal([]byte(doc[quoted.From:quoted.To]), &name); err != nil {
				panic(err)
			}
			at = over(doc, quoted.To)
		}
		span := value(doc, at)
		names, spans = append(names, name), append(spans, span)
		at = span.To
	}
	return names, spans
}

// over: behind blanks, and what stands between parts.
func over(doc string, at int) int {
	return len(doc) - len(strings.TrimLeft(doc[at:], " \t\n\r,:"))
}

// led: where a pointer leads in a document.
func led(doc, pointer string) api.Hit {
	at := value(doc, 0)
	for _, name := range strings.Split(pointer, "/")[1:] {
		name = strings.NewReplacer("~0", "~", "~1", "/").Replace(name)
		names, spans := parts(doc, at)
		place := slices.Index(names, name)
		if place < 0 {
			return api.Hit{}
		}
		at = spans[place]
	}
	return api.Hit{Found: true, Span: at}
}

// pointersOf: those to all that is in a document, of a name that stands twice the same one twice.
func pointersOf(doc string) []string {
	var list []string
	var into func(route string, at api.Span)
	into = func(route string, at api.Span) {
		list = append(list, route)
		names, spans := parts(doc, at)
		for i, name := range names {
			into(route+"/"+strings.NewReplacer("~", "~0", "/", "~1").Replace(name), spans[i])
		}
	}
	into("", value(doc, 0))
	return list
}

// rule: ordinary numbers from a fixed rule.
type rule uint64

func (r *rule) below(n int) int {
	*r = *r*6364136223846793005 + 1442695040888963407
	return int((uint64(*r) ^ uint64(*r)>>29) % uint64(n))
}

func one[T any](r *rule, of []T) T { return of[r.below(len(of))] }

// How names are written, by what they mean; of most there are several ways.
var written = map[string][]string{
	"a": {"a", "a", "a", `\u0061`}, "b": {"b", "b", `\u0062`}, "c": {"c"}, "": {""}, "0": {"0", `\u0030`}, "1": {"1"}, "a/b": {"a/b", `a\/b`, `a\u002fb`}, "m~n": {"m~n", `m\u007en`}, "\"": {`\"`, `\u0022`}, "\\": {`\\`, `\u005C`},
	"\u00e4": {"\u00e4", `\u00e4`, `\u00E4`}, "\U0001f600": {"\U0001f600", `\ud83d\ude00`}, "\ufffd": {"\ufffd", `\ud83d`, `\ude00`, `\ufffd`}, "{\"a\":": {`{\"a\":`}, "},\"b\"": {`},\"b\"`}, "aa": {"aa", `a\u0061`}, "A": {"A"}, "\n": {`\n`, `\u000a`}, "u0061": {"u0061"}, `\u0061`: {`\\u0061`}, "long name, ": {"long name, "},
}

// names: what they mean, in a fixed order.
var names = []string{"a", "b", "c", "", "0", "1", "a/b", "m~n", "\"", "\\", "\u00e4", "\U0001f600", "\ufffd", "{\"a\":", "},\"b\"", "aa", "A", "\n", "u0061", `\u0061`, "long name, "}

var scalars = []string{"null", "true", "0", "-1.50", "1e2", `""`, `"a"`, `"b\u0061"`, `"\"a\":1,"`, `"[{,:"`, `"\\"`, "12345678901234567890"}

// blank: blanks, mostly none.
func (r *rule) blank() string {
	if r.below(4) > 0 {
		return ""
	}
	return one(r, []string{" ", "\n", "\t", "\r\n", "  ", strings.Repeat(" ", 70)})
}

// thing: a value of at most so many levels, the objects' names out of the first few ones.
func (r *rule) thing(most, few int) string {
	kind := r.below(8)
	if most == 0 || kind < 2 {
		return one(r, scalars)
	}
	var list []string
	for range r.below(6) {
		part := r.blank() + r.thing(most-1, few) + r.blank()
		if kind < 6 {
			part = r.blank() + `"` + one(r, written[names[r.below(few)]]) + `"` + r.blank() + ":" + part
		}
		list = append(list, part)
	}
	if len(list) == 0 {
		list = append(list, r.blank())
	}
	if kind < 6 {
		return "{" + strings.Join(list, ",") + "}"
	}
	return "[" + strings.Join(list, ",") + "]"
}

// pointer: of a few names, at most so many.
func (r *rule) pointer(most, few int) string {
	s := ""
	for range r.below(most + 1) {
		s += "/" + strings.NewReplacer("~", "~0", "/", "~1").Replace(names[r.below(few)])
	}
	return s
}

// told: learnt places, true and untrue, of routes that are asked and others.
func (r *rule) told(n, few int) []api.Learnt {
	var list []api.Learnt
	for range n {
		x := api.Learnt{Route: r.pointer(2, few), Name: names[r.below(few)], Place: r.below(6), Hits: r.below(100)}
		if r.below(6) == 0 {
			x.Place = one(r, []int{64, 1 << 20, 1 << 31, 1 << 62, 1<<63 - 1})
		}
		if !slices.ContainsFunc(list, func(y api.Learnt) bool { return y.Route == x.Route && y.Name == x.Name }) {
			list = append(list, x)
		}
	}
	return list
}

// question: one whose names are some of the first few ones.
func (r *rule) question(few int) question {
	q := question{depth: 1 + r.below(9), levels: 1 + r.below(6), room: r.below(12)}
	for range r.below(9) {
		q.pointers = append(q.pointers, r.pointer(4, few))
	}
	q.told = r.told(r.below(q.room+1), few)
	return q
}

// text: mostly a document, else one that is cut off, changed or too deep.
func (r *rule) text(few int) string {
	s := r.blank() + r.thing(r.below(6), few) + r.blank()
	switch r.below(12) {
	case 0:
		return s[:r.below(len(s))]
	case 1:
		at := r.below(len(s))
		return s[:at] + one(r, []string{",", "}", "]", "{", "\"", "\xff", "1"}) + s[at:]
	case 2:
		return strings.Repeat("[", 7) + s + strings.Repeat("]", 7)
	}
	return s
}
