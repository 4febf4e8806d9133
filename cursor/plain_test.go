package cursor

import (
	"encoding/json"
	"fmt"
	"math"
	"math/big"
	"regexp"
	"strconv"
	"strings"
	"testing"

	"quarry/api"
)

// The chapter's words, said once more and in another way: a document is read whole by the language's library, and a walker goes through what that found.

// node is a value of a document.
type node struct {
	kind  int
	from  int
	to    int
	raw   string
	text  string
	name  string
	place int
	in    *node
	kids  []*node
}

// reader takes the values of a document out of the library's tokens.
type reader struct {
	s string
	d *json.Decoder
}

// nodes: the whole of a document.
func nodes(s string) *node {
	d := json.NewDecoder(strings.NewReader(s))
	d.UseNumber()
	return (&reader{s: s, d: d}).value()
}

// token: the next one, and from where to where it stands.
func (r *reader) token() (x json.Token, from, to int) {
	from = int(r.d.InputOffset())
	x, err := r.d.Token()
	if err != nil {
		panic(err)
	}
	to = int(r.d.InputOffset())
	from = to - len(strings.TrimLeft(r.s[from:to], " \t\n\r,:"))
	return x, from, to
}

func (r *reader) value() *node {
	x, from, to := r.token()
	v := &node{from: from, to: to}
	switch y := x.(type) {
	case nil:
		v.kind = api.Null
	case bool:
		v.kind = api.Bool
	case json.Number:
		v.kind = api.Number
	case string:
		v.kind, v.text = api.Text, y
	case json.Delim:
		v.kind = map[json.Delim]int{'[': api.Array, '{': api.Object}[y]
		r.parts(v)
	}
	v.raw = r.s[v.from:v.to]
	return v
}

func (r *reader) parts(v *node) {
	for r.d.More() {
		var name string
		if v.kind == api.Object {
			x, _, _ := r.token()
			name = x.(string)
		}
		kid := r.value()
		kid.in, kid.place, kid.name = v, len(v.kids), name
		v.kids = append(v.kids, kid)
	}
	_, _, v.to = r.token()
}

// all: a value and those within it, in their order.
func (v *node) all() []*node {
	list := []*node{v}
	for _, kid := range v.kids {
		list = append(list, kid.all()...)
	}
	return list
}

// walker stands at a value, and moves as the chapter says.
type walker struct{ at *node }

func (w *walker) to(v *node) api.Errno {
	w.at = v
	return api.OK
}

func (w *walker) enter() api.Errno {
	switch {
	case w.at.kind != api.Array && w.at.kind != api.Object:
		return api.ErrKind
	case len(w.at.kids) == 0:
		return api.ErrNone
	}
	return w.to(w.at.kids[0])
}

func (w *walker) next() api.Errno {
	switch {
	case w.at.in == nil:
		return api.ErrTurn
	case w.at.place == len(w.at.in.kids)-1:
		return api.ErrNone
	}
	return w.to(w.at.in.kids[w.at.place+1])
}

func (w *walker) leave() api.Errno {
	if w.at.in == nil {
		return api.ErrTurn
	}
	return w.to(w.at.in)
}

func (w *walker) find(name string) api.Errno {
	if w.at.kind != api.Object {
		return api.ErrKind
	}
	for _, kid := range w.at.kids {
		if kid.name == name {
			return w.to(kid)
		}
	}
	return api.ErrNone
}

func (w *walker) elem(i int) api.Errno {
	switch {
	case w.at.kind != api.Array:
		return api.ErrKind
	case i < 0, i >= len(w.at.kids):
		return api.ErrNone
	}
	return w.to(w.at.kids[i])
}

func (w *walker) rewind() {
	for w.leave() == api.OK {
	}
}

// told is all that a cursor says of where it stands, and all that it reads there.
type told struct {
	kind    int
	raw     api.Span
	depth   int
	pointer string
	place   string
	key     string
	text    string
	truth   string
	null    bool
	int     string
	uint    string
	decimal string
	float   string
}

// answer: a result and the error beside it.
func answer(x any, e api.Errno) string { return fmt.Sprintf("%#v %d", x, e) }

// bits: likewise of a float, both noughts told apart.
func bits(f float64, e api.Errno) string { return fmt.Sprintf("%016x %d", math.Float64bits(f), e) }

// tell: what a cursor says.
func tell(c *Cursor) told {
	t := told{kind: c.Kind(), raw: c.Raw(), depth: c.Depth(), pointer: c.Pointer(), null: c.Null()}
	place, e := c.Place()
	t.place = answer(place, e)
	key, e := c.Key()
	t.key = answer(key, e)
	text, e := c.Text()
	t.text = answer(text, e)
	truth, e := c.Bool()
	t.truth = answer(truth, e)
	i, e := c.Int()
	t.int = answer(i, e)
	u, e := c.Uint()
	t.uint = answer(u, e)
	d, e := c.Decimal()
	t.decimal = answer(d, e)
	t.float = bits(c.Float())
	return t
}

// said: what the chapter's words say there.
func said(v *node) told {
	t := told{kind: v.kind, raw: api.Span{From: v.from, To: v.to}, pointer: pointerTo(v), null: v.raw == "null"}
	for in := v.in; in != nil; in = in.in {
		t.depth++
	}
	t.place, t.key = answer(0, api.ErrTurn), answer("", api.ErrTurn)
	if v.in != nil {
		t.place = answer(v.place, api.OK)
	}
	if v.in != nil && v.in.kind == api.Object {
		t.key = answer(v.name, api.OK)
	}
	t.text, t.truth = answer("", api.ErrKind), answer(false, api.ErrKind)
	if v.kind == api.Text {
		t.text = answer(v.text, api.OK)
	}
	if v.kind == api.Bool {
		t.truth = answer(v.raw == "true", api.OK)
	}
	i, e := plainInt(v)
	t.int = answer(i, e)
	u, e := plainUint(v)
	t.uint = answer(u, e)
	d, e := plainDecimal(v)
	t.decimal = answer(d, e)
	t.float = bits(plainFloat(v))
	return t
}

func pointerTo(v *node) string {
	if v.in == nil {
		return ""
	}
	step := strconv.Itoa(v.place)
	if v.in.kind == api.Object {
		step = strings.NewReplacer("~", "~0", "/", "~1").Replace(v.name)
	}
	return pointerTo(v.in) + "/" + step
}

// plainNumber: the whole number that a number's text is.
func plainNumber(v *node) (*big.Int, api.Errno) {
	if v.kind != api.Number {
		return nil, api.ErrKind
	}
	if strings.ContainsAny(v.raw, ".eE") {
		return nil, api.ErrFraction
	}
	n, _ := new(big.Int).SetString(v.raw, 10)
	return n, api.OK
}

func plainInt(v *node) (int64, api.Errno) {
	n, e := plainNumber(v)
	switch {
	case e != api.OK:
		return 0, e
	case !n.IsInt64():
		return 0, api.ErrOver
	}
	return n.Int64(), api.OK
}

func plainUint(v *node) (uint64, api.Errno) {
	n, e := plainNumber(v)
	switch {
	case e != api.OK:
		return 0, e
	case !n.IsUint64():
		return 0, api.ErrOver
	}
	return n.Uint64(), api.OK
}

var numberText = regexp.MustCompile(`\A(-?)(0|[1-9][0-9]*)(?:\.([0-9]+))?(?:[eE]([+-]?[0-9]+))?\z`)

func plainDecimal(v *node) (api.Decimal, api.Errno) {
	if v.kind != api.Number {
		return api.Decimal{}, api.ErrKind
	}
	m := numberText.FindStringSubmatch(v.raw)
	d := api.Decimal{Neg: m[1] != ""}
	all := strings.TrimLeft(m[2]+m[3], "0")
	if all == "" {
		return d, api.OK
	}
	d.Digits = strings.TrimRight(all, "0")
	exp := big.NewInt(int64(len(all) - len(d.Digits) - len(m[3])))
	if m[4] != "" {
		power, _ := new(big.Int).SetString(m[4], 10)
		exp.Add(exp, power)
	}
	if exp.CmpAbs(big.NewInt(api.MaxExp)) > 0 {
		return api.Decimal{}, api.ErrBig
	}
	d.Exp = int(exp.Int64())
	return d, api.OK
}

func plainFloat(v *node) (float64, api.Errno) {
	if _, e := plainDecimal(v); e != api.OK {
		return 0, e
	}
	f, err := strconv.ParseFloat(v.raw, 64)
	if err != nil {
		return 0, api.ErrOver
	}
	return f, api.OK
}

// pair is a cursor and a walker of one document, which stand at the same value.
type pair struct {
	t *testing.T
	s string
	c *Cursor
	w *walker
}

func pairOf(t *testing.T, s string) *pair {
	t.Helper()
	p := &pair{t: t, s: s, c: open(t, s), w: &walker{nodes(s)}}
	p.same("Open")
	return p
}

// same: do both say the same?
func (p *pair) same(call string) {
	p.t.Helper()
	if got, want := tell(p.c), said(p.w.at); got != want {
		p.t.Fatalf("%.200q, behind %s: %.600s, not %.600s", p.s, call, fmt.Sprintf("%+v", got), fmt.Sprintf("%+v", want))
	}
}

// moved: have both answered the same, and do they stand at the same value?
func (p *pair) moved(call string, got, want api.Errno) api.Errno {
	p.t.Helper()
	if got != want {
		p.t.Fatalf("%.200q at %.80q, %s: %d, not %d", p.s, pointerTo(p.w.at), call, got, want)
	}
	p.same(call)
	return got
}

func (p *pair) enter() api.Errno {
	p.t.Helper()
	return p.moved("Enter", p.c.Enter(), p.w.enter())
}

func (p *pair) next() api.Errno {
	p.t.Helper()
	return p.moved("Next", p.c.Next(), p.w.next())
}

func (p *pair) leave() api.Errno {
	p.t.Helper()
	return p.moved("Leave", p.c.Leave(), p.w.leave())
}

func (p *pair) find(name string) api.Errno {
	p.t.Helper()
	return p.moved(fmt.Sprintf("Find(%.80q)", name), p.c.Find(name), p.w.find(name))
}

func (p *pair) elem(i int) api.Errno {
	p.t.Helper()
	return p.moved(fmt.Sprintf("At(%d)", i), p.c.At(i), p.w.elem(i))
}

func (p *pair) rewind() {
	p.t.Helper()
	p.c.Rewind()
	p.w.rewind()
	p.same("Rewind")
}

// through: goes through all that is in the value at which both stand, and comes back to it.
func (p *pair) through() {
	p.t.Helper()
	for e := p.enter(); e == api.OK; e = p.next() {
		p.through()
		if p.w.at.place == len(p.w.at.in.kids)-1 {
			p.next() // refused, and it stays
			p.leave()
			return
		}
	}
}

// rule: ordinary numbers from a fixed rule.
type rule uint64

func (r *rule) below(n int) int {
	*r = *r*6364136223846793005 + 1442695040888963407
	return int((uint64(*r) ^ uint64(*r)>>29) % uint64(n))
}

func (r *rule) one(of []string) string { return of[r.below(len(of))] }

// blank: blanks, mostly none.
func (r *rule) blank() string {
	if r.below(3) > 0 {
		return ""
	}
	return r.one([]string{" ", "\n", "\t", "\r", "  ", "\r\n\t ", strings.Repeat(" ", 70)})
}

// document: of at most so many levels, with blanks wherever they may stand.
func (r *rule) document(most int) string {
	return r.blank() + r.value(most) + r.blank()
}

func (r *rule) value(most int) string {
	kind := r.below(10)
	if most == 0 || kind < 3 {
		return r.scalar()
	}
	var list []string
	for range r.below(6) {
		part := r.document(most - 1)
		if kind < 7 {
			part = r.blank() + `"` + r.one(quoted) + `"` + r.blank() + ":" + part
		}
		list = append(list, part)
	}
	inner := strings.Join(list, ",")
	if inner == "" {
		inner = r.blank()
	}
	if kind < 7 {
		return "{" + inner + "}"
	}
	return "[" + inner + "]"
}

func (r *rule) scalar() string {
	switch r.below(6) {
	case 0:
		return "null"
	case 1:
		return r.one([]string{"true", "false"})
	case 2, 3:
		return `"` + r.one(quoted) + `"`
	}
	return r.one(numbers)
}

// move: one of the moves, mostly one that can be made.
func (r *rule) move(p *pair) {
	p.t.Helper()
	switch r.below(12) {
	case 0, 1, 2:
		p.enter()
	case 3, 4, 5, 6:
		p.next()
	case 7:
		p.leave()
	case 8:
		p.elem(r.below(7) - 1)
	case 9:
		p.find(r.one(names))
	case 10:
		if n := len(p.w.at.kids); n > 0 {
			p.find(p.w.at.kids[r.below(n)].name)
			return
		}
		p.find("")
	case 11:
		if r.below(4) == 0 {
			p.rewind()
		}
	}
}

// Numbers: all refusals of the four that read them, the least and the greatest ones, those one beyond, and long ones.
var numbers = []string{
	"0", "-0", "1", "-1", "7", "10", "12", "100", "-120", "1.0", "1e0", "-0.0", "0.0", "-0e0", "0e5", "0.5", "-1.50", "2.5", "1e2", "1E+2", "100e-2", "1.25e-3", "0.1", "0.3", "1e-7", "1e21", "123.456E+03",
	"127", "128", "-129", "255", "256", "32768", "65536", "2147483647", "2147483648", "-2147483649", "4294967295", "4294967296",
	"9007199254740991", "9007199254740992", "9007199254740993", "9007199254740995", "-9007199254740993", "90071992547409930000000000000000001e-19",
	"9223372036854775806", "9223372036854775807", "9223372036854775808", "9223372036854775809", "-9223372036854775807", "-9223372036854775808", "-9223372036854775809", "-9223372036854775810", "9223372036854775807.0", "9223372036854775808e0",
	"18446744073709551614", "18446744073709551615", "18446744073709551616", "-18446744073709551615", "-18446744073709551616", "18446744073709551615.0", "99999999999999999999", "100000000000000000000", "-100000000000000000000",
	"340282366920938463463374607431768211456", "1e308", "1.7976931348623157e308", "1.7976931348623158e308", "1.7976931348623159e308", "-1.7976931348623159e308", "1e309", "-1e309", "1e400", "-1e400", "1e-400", "-1e-400", "5e-324", "2e-324", "3e-324", "-5e-324", "-2e-324", "2.2250738585072014e-308", "2.2250738585072011e-308",
	"1e1073741823", "1e1073741824", "-1e1073741824", "1e1073741825", "-1e1073741825", "10e1073741824", "10e1073741823", "0.1e1073741825", "1e-1073741824", "1e-1073741825", "-1e-1073741825", "10e-1073741825", "0.1e-1073741824", "0e1073741825", "-0e-1073741825", "0.0e99999999999999999999", "1e99999999999999999999", "-1E-99999999999999999999", "1e+00000000000000000000000000000001",
	strings.Repeat("9", 400), "1" + strings.Repeat("0", 400), "1" + strings.Repeat("0", 400) + ".5", "-1" + strings.Repeat("0", 308), "0." + strings.Repeat("0", 400) + "1", "1." + strings.Repeat("0", 900) + "1", "9007199254740993." + strings.Repeat("0", 900) + "1", "9007199254740993." + strings.Repeat("0", 900),
	"18446744073709551615" + strings.Repeat("0", 900) + "e-900",
}

// What stands between quotes: with all kinds of escapes, and things that count outside of quotes alone.
var quoted = []string{
	"", "a", "b", "c", "ab", "A", "0", "1", "2", "10", "-", "-1", " ", "  a  ", "~", "/", "~0", "~1", "~~//", "a/b", "m~n", "a/~b/", `\u007e`, `\u002f`, `\/`, `\u007E1`,
	`\"`, `\\`, `\\\"`, `\\\\`, `a\"b`, `\b\f\n\r\t`, `\u0061`, `\u0041b`, `\u0000`, `\u001f`, "\x7f", `\u00e4`, "\u00e4", `\u00E4`, "\u20ac", `\u20ac`, "\U0001f600", `\ud83d\ude00`, `\uD83D\uDE00`,
	`\ud83d`, `\ude00`, `\ude00\ud83d`, `\ud83d\u0041`, `\ud83d\ud83d\ude00`, `\ud83dx\ude00`, "\ufffd", "\ufeff", "\uffff", `\uffff`, "\U0010ffff",
	"[", "]", "{", "}", ":", ",", "[1, 2]", `{\"a\": [1]}`, "null", "true", "1e5", "]}", "],[", strings.Repeat("x", 63), strings.Repeat("x", 64), strings.Repeat("x", 65), strings.Repeat(`\\`, 40), strings.Repeat("\u20ac", 30),
}

// names: what they mean, and some that are none.
var names = meanings()

func meanings() []string {
	list := []string{"aa", "ba", `\u0061`, `"a"`, "a ", " a", "\x00", "\xff", "a\xff", "\xed\xa0\xbd", "\xc3"}
	for _, raw := range quoted {
		var s string
		if err := json.Unmarshal([]byte(`"`+raw+`"`), &s); err != nil {
			panic(err)
		}
		list = append(list, s)
	}
	return list
}

// documents of all kinds.
func documents() []string {
	list := []string{
		"null", "true", "false", "0", `""`, `"a"`, "[]", "{}", "[ ]", "{ }", "[\n]", "{\t\r\n }", " [] ", "\n{}\n",
		"[1]", "[1,2]", "[1 ,2 ]", "[ 1, 2]", "[true,false,null]", "[true ,false ,null ]", "[[]]", "[[],[]]", "[{},[],{}]", "[[[]]]", "[[[1]],[[2],3],4]", "[ [ ] , [ [ ] ] ]",
		`{"a":1}`, `{"a":1,"b":2}`, `{ "a" : 1 , "b" : 2 }`, `{"":0}`, `{"":{"":{"":[]}}}`, `{"a":{}}`, `{"a":[]}`, `{"a":{},"b":{}}`, `{"a":{"b":{"c":null}}}`, `[{"a":1},{"a":2}]`, `{"a":[{"a":[{"a":[]}]}]}`,
		`{"a":1,"a":2}`, `{"a":1,"\u0061":2,"a":3}`, `{"\u0061":1,"a":2}`, `{"a":{"a":1},"a":{"a":2}}`, `{"b":0,"a":1,"b":2,"a":3}`, `{"":1,"":2}`, `{"\ud800":1,"\udfff":2,"` + "\ufffd" + `":3}`,
		`{"a/b":{"m~n":[{"~1":{"/":0}}]}}`, `{"[":"]","{":"}",":":",",",":":"}`, `["\"","\\","\\\"",",","]"]`, `{"\"":{"\\":{"\\\"":1}}}`,
		`{"a": [1, 2.5, {}], "b\u002f": "x", "a": null}`, `{"id": 7, "tags": ["a", "b\u0063"], "pos": {"x": -1.50, "y": 1e2}}`,
		"[0,1,2,3,4,5,6,7,8,9,10,11,[12,[0,1,2,3,4,5,6,7,8,9,10]]]", `[-0,0.0,1e5,-1E-5,"-0"]`, "[ 1\n,\n2\n]",
		"[[1,2],[3,4],{\"a\":[5,6]},7]", `{"x":[[[[{"y":"z"}]]]],"w":[[[[]]]]}`,
	}
	for _, raw := range quoted {
		list = append(list, `"`+raw+`"`, `{"`+raw+`":"`+raw+`"}`, `{"x":1,"`+raw+`": ["`+raw+`"], "`+raw+`" :2}`)
	}
	for _, raw := range numbers {
		list = append(list, raw, "["+raw+"]", `{"a":`+raw+`,"b": `+raw+` }`)
	}
	var r rule = 19
	for n := range 400 {
		list = append(list, r.document(n%6))
	}
	return list
}

// rows: all rows of up to n of some parts.
func rows(n int, parts ...string) []string {
	list := []string{""}
	for from := 0; n > 0; n-- {
		to := len(list)
		for _, s := range list[from:to] {
			for _, part := range parts {
				list = append(list, s+part)
			}
		}
		from = to
	}
	return list
}

// nested: a text within so many arrays, or objects of one member, or both in turn.
func nested(n int, kind, inner string) string {
	open, end := make([]string, n), make([]string, n)
	for i := range n {
		open[i], end[n-1-i] = "[", "]"
		if kind == "object" || kind == "both" && i%2 == 1 {
			open[i], end[n-1-i] = `{"a":`, "}"
		}
	}
	return strings.Join(open, "") + inner + strings.Join(end, "")
}

// Texts that are no documents, and how far they could have been ones.
var none = []struct {
	s  string
	at int
}{
	{"", 0}, {" ", 1}, {"   ", 3}, {"[1,]", 3}, {"[1 2]", 3}, {`{"a"}`, 4}, {"{1:2}", 1}, {"01", 1}, {"-", 1}, {"1.e", 2}, {"tru", 3}, {"trux", 3}, {"nul]", 3}, {`"a`, 2}, {`"\x"`, 2}, {`"\u12g4"`, 5}, {"[[]", 3}, {"[]]", 2}, {"1 1", 2}, {"+1", 0}, {"'a'", 0},
	{"[", 1}, {"]", 0}, {"{", 1}, {"}", 0}, {"[}", 1}, {"{]", 1}, {`{"a":}`, 5}, {`{"a":1,}`, 7}, {`{"a":1 "b":2}`, 7}, {"[,1]", 1}, {"\"\n\"", 1}, {"\"\xff\"", 1}, {"[] []", 3}, {"nullnull", 4}, {"\ufeff1", 0}, {`{"a":1`, 6}, {`[1,{"a":[2,3}]`, 12}, {"[\"a]", 4},
}
