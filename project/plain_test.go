package project

import (
	"encoding/json"
	"fmt"
	"slices"
	"strconv"
	"strings"

	"quarry/api"
	"quarry/trie"
	"quarry/valid"
)

// The chapter's words, said once more and in another way: a document is read whole by the language's library, and each path is followed through it by itself.

// node is a value of a document, and where it stands; the name or place by which it is come to.
type node struct {
	kind byte // its first byte
	text string
	span api.Span
	name string
	kids []*node
}

// reader takes the values of a document out of the library's tokens.
type reader struct {
	s string
	d *json.Decoder
}

// wholeOf: the whole of a document.
func wholeOf(s string) *node {
	d := json.NewDecoder(strings.NewReader(s))
	d.UseNumber()
	return (&reader{s: s, d: d}).value()
}

// token: the next one, and where it stands.
func (r *reader) token() (json.Token, api.Span) {
	from := int(r.d.InputOffset())
	x, err := r.d.Token()
	if err != nil {
		panic(err)
	}
	to := int(r.d.InputOffset())
	return x, api.Span{From: to - len(strings.TrimLeft(r.s[from:to], " \t\n\r,:")), To: to}
}

func (r *reader) value() *node {
	x, span := r.token()
	v := &node{span: span, kind: r.s[span.From]}
	if _, ok := x.(json.Delim); ok {
		for r.d.More() {
			name := strconv.Itoa(len(v.kids))
			if v.kind == '{' {
				x, _ := r.token()
				name = x.(string)
			}
			kid := r.value()
			kid.name = name
			v.kids = append(v.kids, kid)
		}
		_, end := r.token()
		v.span.To = end.To
	}
	v.text = r.s[v.span.From:v.span.To]
	return v
}

// counts: is a Kid an element, or the first member of its name?
func (v *node) counts(i int) bool {
	return v.kind == '[' || i == slices.IndexFunc(v.kids, func(k *node) bool { return k.name == v.kids[i].name })
}

// value: the value of all of it.
func (v *node) value() api.Value {
	switch v.kind {
	case 'n':
		return null()
	case 't', 'f':
		return api.Value{Kind: api.Bool, Bool: v.kind == 't'}
	case '"':
		return api.Value{Kind: api.Text, Text: meaningOf(v.text[1 : len(v.text)-1])}
	case '{', '[':
		w := v.around()
		for _, kid := range v.kids {
			put(&w, kid.name, kid.value())
		}
		return w
	}
	return api.Value{Kind: api.Number, Raw: v.text}
}

// around: an array or object as it is without its parts.
func (v *node) around() api.Value {
	return api.Value{Kind: map[byte]int{'{': api.Object, '[': api.Array}[v.kind]}
}

func null() api.Value { return api.Value{Kind: api.Null} }

// put: one more part of an array or object.
func put(v *api.Value, name string, kid api.Value) {
	v.Kids = append(v.Kids, kid)
	if v.Kind == api.Object {
		v.Keys = append(v.Keys, name)
	}
}

// takesIt: what chapter 22's words say of a step and a part.
func (v *node) takesIt(s api.Step, i int) bool {
	switch s.Kind {
	case api.ByName:
		return v.kind == '{' && v.kids[i].name == s.Name
	case api.ByPlace:
		return v.kind == '[' && i == s.Place
	}
	return true
}

// finds: the parts that a path finds.
func (v *node) finds(p []api.Step) []*node {
	if len(p) == 0 {
		return []*node{v}
	}
	var list []*node
	for i, kid := range v.kids {
		if v.takesIt(p[0], i) && v.counts(i) {
			list = append(list, kid.finds(p[1:])...)
		}
	}
	return list
}

// marked: of each part that paths find the numbers of these.
func marked(whole *node, paths [][]api.Step) map[*node][]int {
	found := map[*node][]int{}
	for k, p := range paths {
		for _, v := range whole.finds(p) {
			found[v] = append(found[v], k)
		}
	}
	return found
}

var tildes = strings.NewReplacer("~", "~0", "/", "~1")

// told: all that was found in a part, the part ahead of what lies in it.
func (v *node) told(at string, found map[*node][]int) []api.Found {
	var list []api.Found
	for _, k := range found[v] {
		list = append(list, api.Found{Path: k, Pointer: at, Span: v.span})
	}
	for _, kid := range v.kids {
		list = append(list, kid.told(at+"/"+tildes.Replace(kid.name), found)...)
	}
	return list
}

// kept: what is kept of a part; false, if that is nothing.
func (v *node) kept(found map[*node][]int) (api.Value, bool) {
	if len(found[v]) > 0 {
		return v.value(), true
	}
	w := v.around()
	for i, kid := range v.kids {
		if x, ok := kid.kept(found); ok && v.counts(i) {
			put(&w, kid.name, x)
		}
	}
	return w, len(w.Kids) > 0
}

// answer is all that Run and Keep answer.
type answer struct {
	found   []api.Found
	kept    api.Value
	verdict api.Verdict
	e       api.Errno
}

// text: the same for two just if all is the same that may be told of them.
func (a answer) text() string {
	return fmt.Sprintf("%d %+v %s %v %d", len(a.found), a.found, show(a.kept), a.verdict, a.e)
}

// show: a value's text, the same for two just if all that is in them is the same, be lists nil or empty.
func show(v api.Value) string {
	var b strings.Builder
	showTo(&b, v)
	return b.String()
}

func showTo(b *strings.Builder, v api.Value) {
	fmt.Fprintf(b, "(%d %v %q %q %q", v.Kind, v.Bool, v.Raw, v.Text, v.Keys)
	for _, kid := range v.Kids {
		showTo(b, kid)
	}
	b.WriteString(")")
}

// plain: what the chapter's words say.
func plain(s string, depth int, t []api.Node) answer {
	paths, e := trie.Paths(t)
	if depth < 1 || depth > 1024 {
		return answer{e: api.ErrRange}
	}
	if e != api.OK {
		return answer{e: api.ErrShape}
	}
	verdict, _ := valid.Check(s, depth)
	if verdict.Code != api.Valid {
		return answer{verdict: verdict}
	}
	a := plainly(wholeOf(s), paths)
	a.verdict = verdict
	return a
}

// plainly: what is found and kept of a document.
func plainly(whole *node, paths [][]api.Step) answer {
	found := marked(whole, paths)
	kept, ok := whole.kept(found)
	if !ok {
		kept = null()
	}
	return answer{found: whole.told("", found), kept: kept}
}

// Paths

func name(s string) api.Step { return api.Step{Kind: api.ByName, Name: s} }
func place(n int) api.Step   { return api.Step{Kind: api.ByPlace, Place: n} }

var (
	all  = api.Step{Kind: api.Each}
	a, b = name("a"), name("b")
)

// nodeOf: a node of a trie, of its ends, and of steps and where they lead in turns.
func nodeOf(ends []int, parts ...any) api.Node {
	n := api.Node{Ends: ends}
	for i := 0; i < len(parts); i += 2 {
		n.Steps = append(n.Steps, parts[i].(api.Step))
		n.To = append(n.To, parts[i+1].(int))
	}
	return n
}

func ends(l ...int) []int { return l }

// built: the trie of some paths.
func built(l ...[]api.Step) []api.Node {
	t, e := trie.Build(l)
	if e != api.OK {
		panic(fmt.Sprint("trie.Build: ", e))
	}
	return t
}

// spread: the paths that have a step more than some path.
func spread(p []api.Step, parts []api.Step) [][]api.Step {
	var list [][]api.Step
	for _, s := range parts {
		list = append(list, append(slices.Clone(p), s))
	}
	return list
}

// paths: every path of at most n of some steps.
func paths(n int, parts ...api.Step) [][]api.Step {
	list := [][]api.Step{nil}
	for from := 0; n > 0; n-- {
		to := len(list)
		for _, p := range list[from:to] {
			list = append(list, spread(p, parts)...)
		}
		from = to
	}
	return list
}

// Documents

// arrays: those of just n elements, each one of some parts.
func arrays(n int, parts []string) []string {
	list := []string{""}
	for i := range n {
		var next []string
		for _, s := range list {
			for _, p := range parts {
				next = append(next, s+","[:min(i, 1)]+p)
			}
		}
		list = next
	}
	for i, s := range list {
		list[i] = "[" + s + "]"
	}
	return list
}

// objects: those of at most n members, each with one of some names and one of some parts.
func objects(n int, names, parts []string) []string {
	var members, list []string
	for _, name := range names {
		for _, p := range parts {
			members = append(members, `"`+name+`":`+p)
		}
	}
	for k := range n + 1 {
		for _, s := range arrays(k, members) {
			list = append(list, "{"+s[1:len(s)-1]+"}")
		}
	}
	return list
}

// small: documents of at most so many levels, of one or two parts each.
func small(levels int) []string {
	parts := []string{"1", `"a"`}
	for range levels {
		parts = slices.Concat([]string{"1", `"a"`}, arrays(0, parts), arrays(1, parts), arrays(2, parts), objects(2, []string{"a", "b"}, parts))
	}
	return parts
}

// nested: a text within so many arrays, or objects of one member, or both in turn.
func nested(n int, kind, inner string) string {
	ahead, behind := make([]string, n), make([]string, n)
	for i := range n {
		ahead[i], behind[n-1-i] = "[", "]"
		if kind == "object" || kind == "both" && i%2 == 1 {
			ahead[i], behind[n-1-i] = `{"a":`, "}"
		}
	}
	return strings.Join(ahead, "") + inner + strings.Join(behind, "")
}

// wayDown: the path that goes so far into what nested makes.
func wayDown(n int, kind string) []api.Step {
	var p []api.Step
	for i := range n {
		if kind == "object" || kind == "both" && i%2 == 1 {
			p = append(p, a)
		} else {
			p = append(p, place(0))
		}
	}
	return p
}

// rule: ordinary numbers from a fixed rule.
type rule uint64

func (r *rule) below(n int) int {
	*r = *r*6364136223846793005 + 1442695040888963407
	return int((uint64(*r) ^ uint64(*r)>>29) % uint64(n))
}

func (r *rule) one(of []string) string { return of[r.below(len(of))] }

// blank: blanks, mostly none.
func (r *rule) blank() string {
	if r.below(3) > 0 {
		return ""
	}
	return r.one([]string{" ", "\n", "\t", "\r", "  ", "\r\n\t ", strings.Repeat(" ", 70)})
}

// document: of at most so many levels, with blanks wherever they may stand.
func (r *rule) document(most int) string { return r.blank() + r.value(most) + r.blank() }

func (r *rule) value(most int) string {
	kind := r.below(10)
	if most == 0 || kind < 1 {
		return r.scalar()
	}
	var list []string
	for range r.below(6) {
		part := r.document(most - 1)
		if kind < 7 {
			// Many names stand twice.
			part = r.blank() + `"` + r.one([][]string{quoted, quoted[:6]}[r.below(2)]) + `"` + r.blank() + ":" + part
		}
		list = append(list, part)
	}
	inner := strings.Join(list, ",")
	if inner == "" {
		inner = r.blank()
	}
	if kind < 7 {
		return "{" + inner + "}"
	}
	return "[" + inner + "]"
}

func (r *rule) scalar() string {
	if r.below(3) == 0 {
		return `"` + r.one(quoted) + `"`
	}
	return r.one(scalars)
}

// step: one that often takes something from a part.
func (r *rule) step(v *node) api.Step {
	n := len(v.kids)
	switch k := r.below(8); {
	case k < 3:
		return all
	case n == 0 || k == 3:
		return []api.Step{name(r.one(names)), place(r.below(4))}[r.below(2)]
	case v.kind == '{':
		return name(v.kids[r.below(n)].name)
	}
	return place(r.below(n))
}

// path: one that often finds something in a document.
func (r *rule) path(v *node) []api.Step {
	var p []api.Step
	for range r.below(6) {
		s := r.step(v)
		p = append(p, s)
		if list := v.finds([]api.Step{s}); len(list) > 0 {
			v = list[r.below(len(list))]
		}
		// Most paths end where nothing more is to be found.
		if len(v.kids) == 0 && r.below(4) > 0 {
			break
		}
	}
	return p
}

// paths: some that often find something in a document, many the same things.
func (r *rule) paths(v *node) [][]api.Step {
	var list [][]api.Step
	for range r.below([]int{2, 4, 12}[r.below(3)]) {
		p := r.path(v)
		for i := range p {
			if r.below(5) == 0 {
				p[i] = all
			}
		}
		list = append(list, p)
	}
	if len(list) > 0 && r.below(3) == 0 {
		p := list[r.below(len(list))]
		list = append(list, p, p[:r.below(len(p)+1)])
	}
	return list
}

// strange: the same paths as those of a trie, in one that Build doesn't make: with steps and nodes in another order, and nodes without ends.
func (r *rule) strange(t []api.Node) []api.Node {
	var list []api.Node
	type pair struct{ old, new int }
	todo := []pair{{0, 0}}
	list = append(list, api.Node{})
	for len(todo) > 0 {
		i := r.below(len(todo))
		at := todo[i]
		todo = slices.Delete(todo, i, i+1)
		n := &list[at.new]
		n.Ends = slices.Clone(t[at.old].Ends)
		for j, s := range t[at.old].Steps {
			k := r.below(len(n.Steps) + 1)
			n.Steps, n.To = slices.Insert(n.Steps, k, s), slices.Insert(n.To, k, t[at.old].To[j])
		}
		for range r.below(2) {
			s := []api.Step{all, a, b, name(""), name("0")}[r.below(5)]
			if !slices.Contains(n.Steps, s) {
				n.Steps, n.To = append(n.Steps, s), append(n.To, -1)
			}
		}
		steps, to := n.Steps, n.To
		for j := range steps {
			list = append(list, api.Node{})
			if to[j] >= 0 {
				todo = append(todo, pair{to[j], len(list) - 1})
			}
			to[j] = len(list) - 1
		}
	}
	return list
}

var scalars = []string{"null", "true", "false", "0", "-0", "7", "-1.50", "1e2", "1E+2", "12345678901234567890", "1e9999999999", `""`}

// What stands between quotes: with all kinds of escapes, and things that count outside of quotes alone.
var quoted = []string{
	"", "a", "b", "c", `\u0061`, "0", "ab", "A", "1", "2", "10", "01", "-", "-1", " ", "  a  ", "~", "/", "~0", "~1", "~~//", "a/b", "m~n", "a/~b/", `\u007e`, `\u002f`, `\/`, `\u007E1`,
	`\"`, `\\`, `\\\"`, `\\\\`, `a\"b`, `\b\f\n\r\t`, `\u0041b`, `\u0000`, `\u001f`, "\x7f", `\u00e4`, "\u00e4", `\u00E4`, "\u20ac", `\u20ac`, "\U0001f600", `\ud83d\ude00`, `\uD83D\uDE00`,
	`\ud83d`, `\ude00`, `\ude00\ud83d`, `\ud83d\u0041`, `\ud83d\ud83d\ude00`, `\ud83dx\ude00`, "\ufffd", "\ufeff", "\uffff", `\uffff`, "\U0010ffff",
	"[", "]", "{", "}", ":", ",", "[1, 2]", `{\"a\": [1]}`, `\",\"a\":\"`, "null", "true", "1e5", "]}", "],[", strings.Repeat("x", 63), strings.Repeat("x", 64), strings.Repeat("x", 65), strings.Repeat(`\\`, 40), strings.Repeat("\u20ac", 30), strings.Repeat(`\"`, 33),
}

// names: what they mean, and some that are none of them.
var names = meanings()

func meanings() []string {
	list := []string{"aa", "ba", `\u0061`, `"a"`, "a ", " a", "\x00"}
	for _, raw := range quoted {
		list = append(list, meaningOf(raw))
	}
	return list
}

func meaningOf(raw string) string {
	var s string
	if err := json.Unmarshal([]byte(`"`+raw+`"`), &s); err != nil {
		panic(err)
	}
	return s
}

// documents of all kinds.
func documents() []string {
	list := []string{
		"null", "true", "false", "0", `""`, `"a"`, "[]", "{}", "[ ]", "{ }", "[\n]", "{\t\r\n }", " [] ", "\n{}\n", " 1 ", "\t\"\"\r",
		"[1]", "[1,2]", "[1 ,2 ]", "[ 1, 2]", "[true,false,null]", "[true ,false ,null ]", "[[]]", "[[],[]]", "[{},[],{}]", "[[[]]]", "[[[1]],[[2],3],4]", "[ [ ] , [ [ ] ] ]",
		`{"a":1}`, `{"a":1,"b":2}`, `{ "a" : 1 , "b" : 2 }`, `{"":0}`, `{"":{"":{"":[]}}}`, `{"a":{}}`, `{"a":[]}`, `{"a":{},"b":{}}`, `{"a":{"b":{"c":null}}}`, `[{"a":1},{"a":2}]`, `{"a":[{"a":[{"a":[]}]}]}`,
		`{"a":1,"a":2}`, `{"a":1,"\u0061":2,"a":3}`, `{"\u0061":1,"a":2}`, `{"a":{"a":1},"a":{"a":2}}`, `{"b":0,"a":1,"b":2,"a":3}`, `{"":1,"":2}`, `{"\ud800":1,"\udfff":2,"` + "\ufffd" + `":3}`,
		`{"a":[],"a":[1]}`, `{"a":{"b":1},"a":{"b":2,"c":3},"c":{"b":{},"b":4}}`, `[{"a":[{"b":1,"b":2}],"a":3},{"a":[]}]`,
		`{"a/b":{"m~n":[{"~1":{"/":0}}]}}`, `{"[":"]","{":"}",":":",",",":":"}`, `["\"","\\","\\\"",",","]"]`, `{"\"":{"\\":{"\\\"":1}}}`,
		`{"a": [1, 2.5, {}], "b\u002f": "x", "a": null}`, whole, doc,
		"[0,1,2,3,4,5,6,7,8,9,10,11,[12,[0,1,2,3,4,5,6,7,8,9,10]]]", `[-0,0.0,1e5,-1E-5,"-0"]`, "[ 1\n,\n2\n]",
		"[[1,2],[3,4],{\"a\":[5,6]},7]", `{"x":[[[[{"y":"z"}]]]],"w":[[[[]]]]}`, `[[[[[[[[1,2],3],4],5],6],7],8],9]`, `[9,[8,[7,[6,[5,[4,[3,[2,1]]]]]]]]`,
	}
	for _, raw := range quoted {
		list = append(list, `"`+raw+`"`, `{"`+raw+`":"`+raw+`"}`, `{"x":1,"`+raw+`": ["`+raw+`"], "`+raw+`" :2}`)
	}
	var r rule = 24
	for n := range 400 {
		list = append(list, r.document(n%7))
	}
	return list
}

// Texts that are no documents, and how far they could have been ones.
var none = []struct {
	s  string
	at int
}{
	{"", 0}, {" ", 1}, {"   ", 3}, {"[1,]", 3}, {"[1 2]", 3}, {`{"a"}`, 4}, {"{1:2}", 1}, {"01", 1}, {"-", 1}, {"1.e", 2}, {"tru", 3}, {"trux", 3}, {"nul]", 3}, {`"a`, 2}, {`"\x"`, 2}, {`"\u12g4"`, 5}, {"[[]", 3}, {"[]]", 2}, {"1 1", 2}, {"+1", 0}, {"'a'", 0},
	{"[", 1}, {"]", 0}, {"{", 1}, {"}", 0}, {"[}", 1}, {"{]", 1}, {`{"a":}`, 5}, {`{"a":1,}`, 7}, {`{"a":1 "b":2}`, 7}, {"[,1]", 1}, {"\"\n\"", 1}, {"\"\xff\"", 1}, {"[] []", 3}, {"nullnull", 4}, {"\ufeff1", 0}, {`{"a":1`, 6}, {`[1,{"a":[2,3}]`, 12}, {"[\"a]", 4},
	{`{"a":1}]`, 7}, {`{"a":1}{"a":1}`, 7}, {`{,"a":1}`, 1}, {`{"a",1}`, 4}, {`["a":1]`, 4}, {`{"a"::1}`, 5}, {`{"a":1,,"b":2}`, 7}, {`{"a":[1,2],"b":[3`, 17}, {`{"a":1,"b":x}`, 11},
}

// notTries: lists of nodes that are no tries.
func notTries() [][]api.Node {
	list := [][]api.Node{
		nil, {},
		{nodeOf(ends(1))}, {nodeOf(ends(0, 0))}, {nodeOf(ends(-1))}, {nodeOf(ends(1, 0))}, {nodeOf(ends(0, 2))}, {nodeOf(nil, a, 1), nodeOf(ends(1))}, {nodeOf(ends(0), a, 1), nodeOf(ends(0))},
		{{}, {}}, {nodeOf(ends(0)), nodeOf(ends(1))},
		{nodeOf(ends(0), a, 0)}, {nodeOf(ends(0), a, 1)}, {nodeOf(ends(0), a, -1)}, {nodeOf(nil, a, 2), {}, {}},
		{nodeOf(nil, a, 1), nodeOf(ends(0), a, 1)}, {nodeOf(nil, a, 1), nodeOf(ends(0), a, 0)},
		{nodeOf(nil, a, 1, a, 2), {}, {}}, {nodeOf(nil, all, 1, all, 2), {}, {}}, {nodeOf(nil, place(0), 1, place(0), 2), {}, {}}, {nodeOf(nil, a, 1, b, 1), {}},
		{{Steps: []api.Step{a}}}, {{Steps: []api.Step{a, b}, To: []int{1}}, {}}, {{To: []int{1}}, {}}, {{Steps: []api.Step{a}, To: []int{1, 2}}, {}, {}},
		{nodeOf(slices.Collect(upTo(257)))},
	}
	for _, s := range []api.Step{{}, {Kind: 4}, {Kind: -1}, place(-1), place(1e18), name("\xff"), {Kind: api.ByName, Name: "a", Place: 1}, {Kind: api.ByPlace, Name: "a"}, {Kind: api.Each, Place: 1}, {Kind: api.Each, Name: "a"}} {
		list = append(list, []api.Node{nodeOf(nil, s, 1), nodeOf(ends(0))}, []api.Node{nodeOf(ends(0), a, 1), nodeOf(nil, s, 2), {}}, []api.Node{nodeOf(ends(0), a, 1, s, 2), {}, {}})
	}
	return list
}

// upTo: the numbers from 0 on below n.
func upTo(n int) func(func(int) bool) {
	return func(yield func(int) bool) {
		for i := range n {
			if !yield(i) {
				return
			}
		}
	}
}
