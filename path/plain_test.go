package path

import (
	"encoding/json"
	"fmt"
	"iter"
	"regexp"
	"slices"
	"strconv"
	"strings"
	"unicode/utf8"

	"quarry/api"
)

// The chapter's words, said once more and in another way, and values, steps and texts of all kinds to hold the calls against them.

func null() api.Value                { return api.Value{Kind: api.Null} }
func truth(is bool) api.Value        { return api.Value{Kind: api.Bool, Bool: is} }
func num(raw string) api.Value       { return api.Value{Kind: api.Number, Raw: raw} }
func text(s string) api.Value        { return api.Value{Kind: api.Text, Text: s} }
func array(l ...api.Value) api.Value { return api.Value{Kind: api.Array, Kids: l} }

// object: of names and values in turn.
func object(parts ...any) api.Value {
	v := api.Value{Kind: api.Object}
	for i := 0; i < len(parts); i += 2 {
		v.Keys = append(v.Keys, parts[i].(string))
		v.Kids = append(v.Kids, parts[i+1].(api.Value))
	}
	return v
}

func name(s string) api.Step { return api.Step{Kind: api.ByName, Name: s} }
func place(n int) api.Step   { return api.Step{Kind: api.ByPlace, Place: n} }

var all = api.Step{Kind: api.Each}

// nest: a value within so many arrays, or objects of one member.
func nest(n, kind int, v api.Value) api.Value {
	for range n {
		if kind == api.Object {
			v = object("a", v)
		} else {
			v = array(v)
		}
	}
	return v
}

// show: a struct's text, the same for two just if all that is in them is the same.
func show(v api.Value) string {
	var b strings.Builder
	put(&b, v)
	return b.String()
}

func put(b *strings.Builder, v api.Value) {
	fmt.Fprintf(b, "(%d %v %q %q %q", v.Kind, v.Bool, v.Raw, v.Text, v.Keys)
	for _, kid := range v.Kids {
		put(b, kid)
	}
	b.WriteString(")")
}

// brief: a text to be read, of anything.
func brief(x any) string {
	s := fmt.Sprintf("%+v", x)
	if v, ok := x.(api.Value); ok {
		s = show(v)
	}
	if len(s) > 300 {
		return s[:300] + ".."
	}
	return s
}

// Steps and paths

const greatest = 999999999999999999

// isStep: what the chapter's words say of a step.
func isStep(s api.Step) bool {
	return s.Kind == 1 && utf8.ValidString(s.Name) && s.Place == 0 ||
		s.Kind == 2 && s.Place >= 0 && s.Place <= greatest && s.Name == "" ||
		s.Kind == 3 && s.Place == 0 && s.Name == ""
}

func isPath(p []api.Step) bool {
	return !slices.ContainsFunc(p, func(s api.Step) bool { return !isStep(s) })
}

// steps: ones of all kinds, well shaped or not.
func steps() []api.Step {
	var list []api.Step
	for _, kind := range []int{-1 << 63, -2, -1, 0, 1, 2, 3, 4, 5, 9, 255, 256, 257, 258, 259, 1 << 32, 1<<32 + 1, 1<<32 + 2, 1<<32 + 3, 1<<63 - 1} {
		for _, s := range []string{"", "a", "7", "c d", "\u00e4", "\xff", "a\xe2\x82"} {
			for _, n := range []int{-1 << 63, -greatest, -7, -1, 0, 1, 7, 1 << 31, greatest - 1, greatest, greatest + 1, 1<<63 - 1} {
				list = append(list, api.Step{Kind: kind, Name: s, Place: n})
			}
		}
	}
	return list
}

// Texts of paths

// The grammar of the chapter, of texts that are UTF-8.
const (
	plainName  = `[a-zA-Z_][a-zA-Z_0-9]*`
	plainPlace = `(?:0|[1-9][0-9]{0,17})`
	quotedName = `"(?:[^\x00-\x1f"\\]|\\["\\/bfnrt]|\\u[0-9a-fA-F]{4})*"`
	oneStep    = `(?:\.` + plainName + `|\.\*|\[(?:` + quotedName + `|` + plainPlace + `|\*)\])`
)

var (
	pathText = regexp.MustCompile(`\A\$` + oneStep + `*\z`)
	stepText = regexp.MustCompile(oneStep)
	nameText = regexp.MustCompile(`\A` + plainName + `\z`)
)

// isText: what the chapter's words say of a path's text.
func isText(s string) bool { return utf8.ValidString(s) && pathText.MatchString(s) }

// meaning: the steps of a path's text.
func meaning(s string) []api.Step {
	var p []api.Step
	for _, one := range stepText.FindAllString(s[1:], -1) {
		switch inner := strings.Trim(one, ".[]"); {
		case one == ".*" || one == "[*]":
			p = append(p, all)
		case one[0] == '.':
			p = append(p, name(one[1:]))
		case one[1] == '"':
			var means string
			if err := json.Unmarshal([]byte(one[1:len(one)-1]), &means); err != nil {
				panic(err)
			}
			p = append(p, name(means))
		default:
			n, err := strconv.Atoi(inner)
			if err != nil {
				panic(err)
			}
			p = append(p, place(n))
		}
	}
	return p
}

// ends: with one of these behind it each beginning of a path's text is one.
func ends() []string {
	list := []string{"", "$", "a", "*", "]", "0]", `"]`}
	for _, rest := range []string{`\`, `u0000`, `0000`, `000`, `00`, `0`, "\x80", "\x80\x80", "\x80\x80\x80", "\xa0\x80", "\x90\x80\x80"} {
		list = append(list, rest+`"]`)
	}
	return list
}

var allEnds = ends()

// isBeginning: what the chapter's words say of a beginning of a path's text.
func isBeginning(s string) bool {
	return slices.ContainsFunc(allEnds, func(end string) bool { return isText(s + end) })
}

// faultOf: how far a text could be a path's.
func faultOf(s string) int {
	k := len(s)
	for k > 0 && !isBeginning(s[:k]) {
		k--
	}
	return k
}

// writtenOf: what the chapter's words say of a well shaped path's text.
func writtenOf(p []api.Step) string {
	s := "$"
	for _, x := range p {
		switch {
		case x.Kind == api.Each:
			s += ".*"
		case x.Kind == api.ByPlace:
			s += fmt.Sprintf("[%d]", x.Place)
		case nameText.MatchString(x.Name):
			s += "." + x.Name
		default:
			s += `["` + escaped(x.Name) + `"]`
		}
	}
	return s
}

func escaped(s string) string {
	var b strings.Builder
	for _, c := range s {
		short := map[rune]string{'"': `\"`, '\\': `\\`, 8: `\b`, 9: `\t`, 10: `\n`, 12: `\f`, 13: `\r`}[c]
		switch {
		case short != "":
			b.WriteString(short)
		case c < 32:
			fmt.Fprintf(&b, `\u%04x`, c)
		default:
			b.WriteRune(c)
		}
	}
	return b.String()
}

// What paths find

// takesIt: what the chapter's words say of a step and a member, or an element.
func takesIt(s api.Step, name string, place int, object bool) bool {
	switch {
	case s.Kind == 3:
		return true
	case object:
		return s.Kind == 1 && s.Name == name
	}
	return s.Kind == 2 && s.Place == place
}

// found1 is a value that is found, and the names that lead to it.
type found1 struct {
	names []string
	v     api.Value
}

// finds: what the chapter's words say of a path and a value, both well shaped.
func finds(v api.Value, p []api.Step) []found1 {
	if len(p) == 0 {
		return []found1{{nil, v}}
	}
	var list []found1
	for i, kid := range v.Kids {
		own, object := strconv.Itoa(i), v.Kind == api.Object
		if object {
			own = v.Keys[i]
		}
		if object && slices.Index(v.Keys, own) != i || !takesIt(p[0], own, i, object) {
			continue
		}
		for _, f := range finds(kid, p[1:]) {
			list = append(list, found1{append([]string{own}, f.names...), f.v})
		}
	}
	return list
}

var tildes = strings.NewReplacer("~", "~0", "/", "~1")

// told: a text of all that is found, in order, each with its pointer.
func told(list []found1) []string {
	var rows []string
	for _, f := range list {
		s := ""
		for _, name := range f.names {
			s += "/" + tildes.Replace(name)
		}
		rows = append(rows, s+" "+show(f.v))
	}
	return rows
}

// heard: the like of what an iterator hands over.
func heard(seq iter.Seq2[string, api.Value]) []string {
	var rows []string
	for at, v := range seq {
		rows = append(rows, at+" "+show(v))
	}
	return rows
}

// rows: every row of at most n parts.
func rows(n int, parts ...string) []string {
	list := []string{""}
	last := list
	for range n {
		var next []string
		for _, s := range last {
			for _, p := range parts {
				next = append(next, s+p)
			}
		}
		list = append(list, next...)
		last = next
	}
	return list
}

// paths: every path of at most n of some steps.
func paths(n int, parts ...api.Step) [][]api.Step {
	list := [][]api.Step{nil}
	last := list
	for range n {
		var next [][]api.Step
		for _, p := range last {
			for _, s := range parts {
				next = append(next, append(slices.Clone(p), s))
			}
		}
		list = append(list, next...)
		last = next
	}
	return list
}

// rule: ordinary numbers from a fixed rule.
type rule uint64

func (r *rule) below(n int) int {
	*r = *r*6364136223846793005 + 1442695040888963407
	return int((uint64(*r) ^ uint64(*r)>>29) % uint64(n))
}

func (r *rule) one(of []string) string { return of[r.below(len(of))] }

// value: a well shaped value of at most so many levels.
func (r *rule) value(most int) api.Value {
	kind := r.below(10)
	if most == 0 || kind < 1 {
		return r.scalar()
	}
	v := array()
	for range r.below(6) {
		v.Kids = append(v.Kids, r.value(most-1))
		if kind < 7 {
			// Many names stand twice.
			v.Keys = append(v.Keys, r.one([][]string{names, names[:6]}[r.below(2)]))
		}
	}
	if kind < 7 {
		v.Kind = api.Object
	}
	return v
}

func (r *rule) scalar() api.Value {
	switch r.below(5) {
	case 0:
		return null()
	case 1:
		return truth(r.below(2) == 0)
	case 2:
		return text(r.one(names))
	}
	return num([]string{"0", "-0", "1", "-1.50", "1e9999999999"}[r.below(5)])
}

// step: one that often takes something from the value.
func (r *rule) step(v api.Value) api.Step {
	n := len(v.Kids)
	switch k := r.below(8); {
	case k < 3:
		return all
	case n == 0 || k == 3:
		return []api.Step{name(r.one(names)), place(r.below(4))}[r.below(2)]
	case v.Kind == api.Object:
		return name(v.Keys[r.below(n)])
	}
	return place(r.below(n))
}

// path: one that often finds something in the value.
func (r *rule) path(v api.Value) []api.Step {
	var p []api.Step
	for range r.below(6) {
		s := r.step(v)
		p = append(p, s)
		if list := finds(v, []api.Step{s}); len(list) > 0 {
			v = list[r.below(len(list))].v
		}
		// Most paths end where nothing more is to be found.
		if len(v.Kids) == 0 && r.below(4) > 0 {
			break
		}
	}
	return p
}

// Names that are UTF-8, with all that texts of paths and pointers make a difference for.
var names = []string{"", "a", "a", "b", "ab", "A", "_", "__", "_1", "b_1", "a0", "z9_Z", "0", "1", "1a", "10", "-", "a-b", "c d", " ", "a ", " a", "$", "$.a", "*", ".", "..", "a.b", "[", "]", "[0]", "a]", "\"", "\"]", "\\", "\\\"", "a\\u0041", "~", "/", "~1", "~0", "m~n", "x/y", "'", ",", ":", "{", "@", "`", "^", "\x00", "\x01", "\x1f", "\x7f", "\b", "\t", "\n", "\f", "\r", "\u0080", "\u00e4", "a\u00e4", "\u00e4a", "\u20ac", "\ufffd", "\ufeff", "\u2028", "\U0001f600", "\U0010ffff"}

// Texts that aren't UTF-8.
var notUTF8 = []string{"\xff", "a\xff", "\xffa", "\xc3", "\x80", "\xc0\x80", "\xed\xa0\x80", "\xf4\x90\x80\x80", "\xe2\x82", "\xf0\x9f\x98", "\u00e4\xe4"}

// values: well shaped ones of all kinds.
func values() []api.Value {
	list := []api.Value{
		null(), truth(true), truth(false), text(""), text("a"), num("7"), array(), object(),
		array(null()), array(array()), array(object()), array(num("1"), num("2"), num("3")), array(array(), array(array(null()))),
		object("a", null()), object("", null()), object("a", num("1"), "b", num("2")), object("b", num("2"), "a", num("1"), "a", num("3")),
		object("a", num("1"), "a", num("2")), object("a", array(num("1"), num("2")), "a", null()), object("a", null(), "a", array(num("1"))), object("a", object("a", object())), object("0", array(null()), "1", null(), "-", truth(true)),
		{Kind: api.Null, Keys: []string{}, Kids: []api.Value{}}, {Kind: api.Array, Keys: []string{}, Kids: []api.Value{}}, {Kind: api.Object, Keys: []string{}}, {Kind: api.Text, Kids: []api.Value{}},
	}
	for _, s := range names {
		list = append(list, object(s, text(s)), object("x", null(), s, array(text(s))))
	}
	var r rule = 22
	for n := range 200 {
		list = append(list, r.value(n%6))
	}
	return list
}

// plainlyBad: structs that aren't well shaped, each for one reason that lies in itself.
func plainlyBad() []api.Value {
	list := []api.Value{
		{},
		{Kind: -1}, {Kind: 7}, {Kind: 256 + api.Null}, {Kind: 1<<63 - 1}, {Kind: -1 << 63},
		{Kind: api.Null, Bool: true}, {Kind: api.Null, Raw: "1"}, {Kind: api.Null, Text: "a"}, {Kind: api.Null, Keys: []string{"a"}}, {Kind: api.Null, Kids: []api.Value{null()}},
		{Kind: api.Bool, Raw: "1"}, {Kind: api.Text, Bool: true}, {Kind: api.Number, Raw: "1", Text: "1"},
		{Kind: api.Object, Keys: []string{"a"}}, {Kind: api.Object, Kids: []api.Value{null()}}, {Kind: api.Object, Keys: []string{"a", "b"}, Kids: []api.Value{null()}}, {Kind: api.Object, Keys: []string{"a"}, Kids: []api.Value{null(), null()}},
		{Kind: api.Array, Keys: []string{"a"}, Kids: []api.Value{null()}}, {Kind: api.Array, Text: "a"}, {Kind: api.Object, Raw: "1"},
	}
	for _, s := range notUTF8 {
		list = append(list, text(s), object(s, null()), object("a", null(), s, null()))
	}
	for _, raw := range []string{"", "-", "+1", "01", "1.", ".5", "1e", " 1", "1 ", "NaN", "null", "\u0661"} {
		list = append(list, num(raw))
	}
	return list
}

// bad: those, and values that have one of them somewhere within.
func bad() []api.Value {
	list := plainlyBad()
	for _, v := range plainlyBad() {
		list = append(list,
			array(v), array(v, null()), array(null(), array(), v), object("a", v), object("a", null(), "b", v),
			object("a", null(), "a", v), // one that doesn't count
			nest(40, api.Array, v), nest(40, api.Object, array(null(), v)))
	}
	return append(list, nest(1025, api.Array, null()), nest(1024, api.Array, array()), nest(1025, api.Object, null()), array(null(), nest(1024, api.Object, text("a"))), nest(3000, api.Array, null()))
}
