package query

import (
	"encoding/json"
	"fmt"
	"regexp"
	"strconv"
	"strings"

	"quarry/api"
	"quarry/valid"
)

// The chapter's words, said once more and in another way: a document is read whole by the language's library, and pointers are followed through what that found.

// node is a value of a document, and where it stands; within an object also its name, and where that stands, without its quotes.
type node struct {
	kind byte // its first byte
	span api.Span
	name string
	at   api.Span
	kids []*node
}

// reader takes the values of a document out of the library's tokens.
type reader struct {
	s string
	d *json.Decoder
}

// nodes: the whole of a document.
func nodes(s string) *node {
	d := json.NewDecoder(strings.NewReader(s))
	d.UseNumber()
	return (&reader{s: s, d: d}).value()
}

// token: the next one, and where it stands.
func (r *reader) token() (json.Token, api.Span) {
	from := int(r.d.InputOffset())
	x, err := r.d.Token()
	if err != nil {
		panic(err)
	}
	to := int(r.d.InputOffset())
	return x, api.Span{From: to - len(strings.TrimLeft(r.s[from:to], " \t\n\r,:")), To: to}
}

func (r *reader) value() *node {
	x, span := r.token()
	v := &node{span: span, kind: r.s[span.From]}
	if _, ok := x.(json.Delim); ok {
		r.parts(v)
	}
	return v
}

func (r *reader) parts(v *node) {
	for r.d.More() {
		var name string
		var at api.Span
		if v.kind == '{' {
			x, span := r.token()
			name, at = x.(string), api.Span{From: span.From + 1, To: span.To - 1}
		}
		kid := r.value()
		kid.name, kid.at = name, at
		v.kids = append(v.kids, kid)
	}
	_, end := r.token()
	v.span.To = end.To
}

// led: where names lead; nil, if that is nowhere. Of an array each element is asked for its own place in tens.
func (v *node) led(names []string) *node {
	if len(names) == 0 {
		return v
	}
	for i, kid := range v.kids {
		name := strconv.Itoa(i)
		if v.kind == '{' {
			name = kid.name
		}
		if name == names[0] {
			return kid.led(names[1:])
		}
	}
	return nil
}

// pointers: those to a value and to all that is in it; of a name that stands twice the same one twice.
func (v *node) pointers() []string {
	list := []string{""}
	for i, kid := range v.kids {
		step := "/" + strconv.Itoa(i)
		if v.kind == '{' {
			step = pointerOf(kid.name)
		}
		for _, p := range kid.pointers() {
			list = append(list, step+p)
		}
	}
	return list
}

// all: a value and those within it.
func (v *node) all() []*node {
	list := []*node{v}
	for _, kid := range v.kids {
		list = append(list, kid.all()...)
	}
	return list
}

var (
	pointerText = regexp.MustCompile(`\A(?:/(?s:[^/~]|~[01])*)*\z`)
	meaning     = strings.NewReplacer("~0", "~", "~1", "/")
	writing     = strings.NewReplacer("~", "~0", "/", "~1")
)

// namesOf: the names of a pointer.
func namesOf(s string) []string {
	list := strings.Split(s, "/")[1:]
	for i, name := range list {
		list[i] = meaning.Replace(name)
	}
	return list
}

// pointerOf: the pointer that has these names.
func pointerOf(names ...string) string {
	s := ""
	for _, name := range names {
		s += "/" + writing.Replace(name)
	}
	return s
}

// answer is all that Run answers.
type answer struct {
	hits    []api.Hit
	verdict api.Verdict
	e       api.Errno
}

// text: the same for two just if all is the same that may be told of them.
func (a answer) text() string { return fmt.Sprint(len(a.hits), a.hits, a.verdict, a.e) }

// run: what Run answers.
func run(s string, depth, levels int, pointers ...string) answer {
	hits, verdict, e := Run(s, depth, levels, pointers)
	return answer{hits, verdict, e}
}

// plain: what the chapter's words say of Run.
func plain(s string, depth, levels int, pointers ...string) answer {
	if depth < 1 || depth > 1024 || levels < 1 || levels > 64 || len(pointers) > 256 {
		return answer{e: api.ErrRange}
	}
	for _, p := range pointers {
		if !pointerText.MatchString(p) {
			return answer{e: api.ErrPointer}
		}
	}
	verdict, _ := valid.Check(s, depth)
	if verdict.Code != api.Valid {
		return answer{verdict: verdict}
	}
	return answer{hits: plainHits(nodes(s), pointers), verdict: verdict}
}

func plainHits(v *node, pointers []string) []api.Hit {
	var hits []api.Hit
	for _, p := range pointers {
		var hit api.Hit
		if part := v.led(namesOf(p)); part != nil {
			hit = api.Hit{Found: true, Span: part.span}
		}
		hits = append(hits, hit)
	}
	return hits
}

// parts is all that Members and Elements answer.
type parts struct {
	names, values []api.Span
	e             api.Errno
}

func (p parts) text() string { return fmt.Sprint(len(p.names), p.names, len(p.values), p.values, p.e) }

// taken: what Members answers of a {, Elements of a [.
func taken(kind byte, s string, in api.Span) parts {
	if kind == '{' {
		names, values, e := Members(s, in)
		return parts{names, values, e}
	}
	values, e := Elements(s, in)
	return parts{values: values, e: e}
}

// plainParts: what the chapter's words say of them.
func plainParts(kind byte, s string, in api.Span) parts {
	if in.From < 0 || in.To < in.From || len(s) < in.To {
		return parts{e: api.ErrRange}
	}
	part := s[in.From:in.To]
	verdict, _ := valid.Check(part, 1024)
	if verdict.Code != api.Valid || part[0] != kind || part[len(part)-1] != kind+2 {
		return parts{e: api.ErrKind}
	}
	var p parts
	for _, kid := range nodes(part).kids {
		p.values = append(p.values, moved(kid.span, in.From))
		if kind == '{' {
			p.names = append(p.names, moved(kid.at, in.From))
		}
	}
	return p
}

func moved(in api.Span, by int) api.Span { return api.Span{From: in.From + by, To: in.To + by} }

// rule: ordinary numbers from a fixed rule.
type rule uint64

func (r *rule) below(n int) int {
	*r = *r*6364136223846793005 + 1442695040888963407
	return int((uint64(*r) ^ uint64(*r)>>29) % uint64(n))
}

func (r *rule) one(of []string) string { return of[r.below(len(of))] }

// blank: blanks, mostly none.
func (r *rule) blank() string {
	if r.below(3) > 0 {
		return ""
	}
	return r.one([]string{" ", "\n", "\t", "\r", "  ", "\r\n\t ", strings.Repeat(" ", 70)})
}

// document: of at most so many levels, with blanks wherever they may stand.
func (r *rule) document(most int) string {
	return r.blank() + r.value(most) + r.blank()
}

func (r *rule) value(most int) string {
	kind := r.below(10)
	if most == 0 || kind < 3 {
		return r.scalar()
	}
	var list []string
	for range r.below(6) {
		part := r.document(most - 1)
		if kind < 7 {
			part = r.blank() + `"` + r.one(quoted) + `"` + r.blank() + ":" + part
		}
		list = append(list, part)
	}
	inner := strings.Join(list, ",")
	if inner == "" {
		inner = r.blank()
	}
	if kind < 7 {
		return "{" + inner + "}"
	}
	return "[" + inner + "]"
}

func (r *rule) scalar() string {
	if r.below(3) == 0 {
		return `"` + r.one(quoted) + `"`
	}
	return r.one(scalars)
}

// pointer: one that often leads somewhere in the value.
func (r *rule) pointer(v *node) string {
	var list []string
	for range r.below(6) {
		name := r.one(names)
		if v != nil && len(v.kids) > 0 && r.below(8) > 0 {
			i := r.below(len(v.kids))
			name = strconv.Itoa(i)
			if v.kind == '{' {
				name = v.kids[i].name
			}
		}
		if v != nil {
			v = v.led([]string{name})
		}
		list = append(list, name)
	}
	return pointerOf(list...)
}

// asked: some pointers to ask of a document.
func (r *rule) asked(s string) []string {
	v := nodes(s)
	list := v.pointers()
	for range 12 {
		list = append(list, r.pointer(v), r.one(list)+pointerOf(r.one(names)))
	}
	for i := range list {
		j := r.below(i + 1)
		list[i], list[j] = list[j], list[i]
	}
	return list[:min(len(list), 256)]
}

var scalars = []string{"null", "true", "false", "0", "-0", "7", "-1.50", "1e2", "1E+2", "12345678901234567890", "1e9999999999", `""`}

// What stands between quotes: with all kinds of escapes, and things that count outside of quotes alone.
var quoted = []string{
	"", "a", "b", "c", "ab", "A", "0", "1", "2", "10", "01", "-", "-1", " ", "  a  ", "~", "/", "~0", "~1", "~~//", "a/b", "m~n", "a/~b/", `\u007e`, `\u002f`, `\/`, `\u007E1`,
	`\"`, `\\`, `\\\"`, `\\\\`, `a\"b`, `\b\f\n\r\t`, `\u0061`, `\u0041b`, `\u0000`, `\u001f`, "\x7f", `\u00e4`, "\u00e4", `\u00E4`, "\u20ac", `\u20ac`, "\U0001f600", `\ud83d\ude00`, `\uD83D\uDE00`,
	`\ud83d`, `\ude00`, `\ude00\ud83d`, `\ud83d\u0041`, `\ud83d\ud83d\ude00`, `\ud83dx\ude00`, "\ufffd", "\ufeff", "\uffff", `\uffff`, "\U0010ffff",
	"[", "]", "{", "}", ":", ",", "[1, 2]", `{\"a\": [1]}`, `\",\"a\":\"`, "null", "true", "1e5", "]}", "],[", strings.Repeat("x", 63), strings.Repeat("x", 64), strings.Repeat("x", 65), strings.Repeat(`\\`, 40), strings.Repeat("\u20ac", 30), strings.Repeat(`\"`, 33),
}

// names: what they mean, and some that are none.
var names = meanings()

func meanings() []string {
	list := []string{"aa", "ba", `\u0061`, `"a"`, "a ", " a", "\x00", "\xff", "a\xff", "\xed\xa0\xbd", "\xc3"}
	for _, raw := range quoted {
		list = append(list, meaningOf(raw))
	}
	return list
}

// meaningOf: what stands between quotes means so.
func meaningOf(raw string) string {
	var s string
	if err := json.Unmarshal([]byte(`"`+raw+`"`), &s); err != nil {
		panic(err)
	}
	return s
}

// documents of all kinds.
func documents() []string {
	list := []string{
		"null", "true", "false", "0", `""`, `"a"`, "[]", "{}", "[ ]", "{ }", "[\n]", "{\t\r\n }", " [] ", "\n{}\n", " 1 ", "\t\"\"\r",
		"[1]", "[1,2]", "[1 ,2 ]", "[ 1, 2]", "[true,false,null]", "[true ,false ,null ]", "[[]]", "[[],[]]", "[{},[],{}]", "[[[]]]", "[[[1]],[[2],3],4]", "[ [ ] , [ [ ] ] ]",
		`{"a":1}`, `{"a":1,"b":2}`, `{ "a" : 1 , "b" : 2 }`, `{"":0}`, `{"":{"":{"":[]}}}`, `{"a":{}}`, `{"a":[]}`, `{"a":{},"b":{}}`, `{"a":{"b":{"c":null}}}`, `[{"a":1},{"a":2}]`, `{"a":[{"a":[{"a":[]}]}]}`,
		`{"a":1,"a":2}`, `{"a":1,"\u0061":2,"a":3}`, `{"\u0061":1,"a":2}`, `{"a":{"a":1},"a":{"a":2}}`, `{"b":0,"a":1,"b":2,"a":3}`, `{"":1,"":2}`, `{"\ud800":1,"\udfff":2,"` + "\ufffd" + `":3}`,
		`{"a/b":{"m~n":[{"~1":{"/":0}}]}}`, `{"[":"]","{":"}",":":",",",":":"}`, `["\"","\\","\\\"",",","]"]`, `{"\"":{"\\":{"\\\"":1}}}`,
		`{"a": [1, 2.5, {}], "b\u002f": "x", "a": null}`, whole, doc,
		"[0,1,2,3,4,5,6,7,8,9,10,11,[12,[0,1,2,3,4,5,6,7,8,9,10]]]", `[-0,0.0,1e5,-1E-5,"-0"]`, "[ 1\n,\n2\n]",
		"[[1,2],[3,4],{\"a\":[5,6]},7]", `{"x":[[[[{"y":"z"}]]]],"w":[[[[]]]]}`, `[[[[[[[[1,2],3],4],5],6],7],8],9]`, `[9,[8,[7,[6,[5,[4,[3,[2,1]]]]]]]]`,
	}
	for _, raw := range quoted {
		list = append(list, `"`+raw+`"`, `{"`+raw+`":"`+raw+`"}`, `{"x":1,"`+raw+`": ["`+raw+`"], "`+raw+`" :2}`)
	}
	var r rule = 21
	for n := range 400 {
		list = append(list, r.document(n%6))
	}
	for n := range 60 {
		list = append(list, r.document(6+n%4))
	}
	return list
}

// rows: all rows of up to n of some parts.
func rows(n int, parts ...string) []string {
	list := []string{""}
	for from := 0; n > 0; n-- {
		to := len(list)
		for _, s := range list[from:to] {
			for _, part := range parts {
				list = append(list, s+part)
			}
		}
		from = to
	}
	return list
}

// nested: a text within so many arrays, or objects of one member, or both in turn.
func nested(n int, kind, inner string) string {
	ahead, behind := make([]string, n), make([]string, n)
	for i := range n {
		ahead[i], behind[n-1-i] = "[", "]"
		if kind == "object" || kind == "both" && i%2 == 1 {
			ahead[i], behind[n-1-i] = `{"a":`, "}"
		}
	}
	return strings.Join(ahead, "") + inner + strings.Join(behind, "")
}

// wayDown: the pointer that goes so far into what nested makes.
func wayDown(n int, kind string) string {
	s := ""
	for i := range n {
		if kind == "object" || kind == "both" && i%2 == 1 {
			s += "/a"
		} else {
			s += "/0"
		}
	}
	return s
}

// Texts that are no documents, and how far they could have been ones.
var none = []struct {
	s  string
	at int
}{
	{"", 0}, {" ", 1}, {"   ", 3}, {"[1,]", 3}, {"[1 2]", 3}, {`{"a"}`, 4}, {"{1:2}", 1}, {"01", 1}, {"-", 1}, {"1.e", 2}, {"tru", 3}, {"trux", 3}, {"nul]", 3}, {`"a`, 2}, {`"\x"`, 2}, {`"\u12g4"`, 5}, {"[[]", 3}, {"[]]", 2}, {"1 1", 2}, {"+1", 0}, {"'a'", 0},
	{"[", 1}, {"]", 0}, {"{", 1}, {"}", 0}, {"[}", 1}, {"{]", 1}, {`{"a":}`, 5}, {`{"a":1,}`, 7}, {`{"a":1 "b":2}`, 7}, {"[,1]", 1}, {"\"\n\"", 1}, {"\"\xff\"", 1}, {"[] []", 3}, {"nullnull", 4}, {"\ufeff1", 0}, {`{"a":1`, 6}, {`[1,{"a":[2,3}]`, 12}, {"[\"a]", 4},
	{`{"a":1}]`, 7}, {`{"a":1}{"a":1}`, 7}, {`{,"a":1}`, 1}, {`{"a",1}`, 4}, {`["a":1]`, 4}, {`{"a"::1}`, 5}, {`{"a":1,,"b":2}`, 7},
}

// Texts that are no pointers.
var notPointers = []string{"a", "a/b", " ", " /a", "\n", "0", "-", "#", "#/a", "~", "~0", "~0/a", "/~", "/~2", "/a~", "/~/", "/~~", "/~0~", "/a/b~", "/a~2/b", "//~", "/~\xff", "\xff", "\xff/a", "\x00", "\ufeff/a", "\\a"}
