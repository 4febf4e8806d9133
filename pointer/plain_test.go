package pointer

import (
	"fmt"
	"regexp"
	"slices"
	"strconv"
	"strings"

	"quarry/api"
)

// The chapter's words, said once more and in another way, and values and pointers of all kinds to hold the calls against them.

func null() api.Value                { return api.Value{Kind: api.Null} }
func truth(is bool) api.Value        { return api.Value{Kind: api.Bool, Bool: is} }
func number(raw string) api.Value    { return api.Value{Kind: api.Number, Raw: raw} }
func text(s string) api.Value        { return api.Value{Kind: api.Text, Text: s} }
func array(l ...api.Value) api.Value { return api.Value{Kind: api.Array, Kids: l} }

// object: of names and values in turn.
func object(parts ...any) api.Value {
	v := api.Value{Kind: api.Object}
	for i := 0; i < len(parts); i += 2 {
		v.Keys = append(v.Keys, parts[i].(string))
		v.Kids = append(v.Kids, parts[i+1].(api.Value))
	}
	return v
}

// nest: a value within so many arrays, or objects of one member.
func nest(n, kind int, v api.Value) api.Value {
	for range n {
		if kind == api.Object {
			v = object("a", v)
		} else {
			v = array(v)
		}
	}
	return v
}

// show: a struct's text, the same for two just if all that is in them is the same.
func show(v api.Value) string {
	var b strings.Builder
	put(&b, v)
	return b.String()
}

func put(b *strings.Builder, v api.Value) {
	fmt.Fprintf(b, "(%d %v %q %q %q", v.Kind, v.Bool, v.Raw, v.Text, v.Keys)
	for _, kid := range v.Kids {
		put(b, kid)
	}
	b.WriteString(")")
}

// brief: a struct's text to be read.
func brief(v api.Value) string {
	s := show(v)
	if len(s) > 300 {
		return s[:300] + ".."
	}
	return s
}

var (
	pointerText = regexp.MustCompile(`\A(?:/(?s:[^/~]|~[01])*)*\z`)
	placeText   = regexp.MustCompile(`\A(?:0|[1-9][0-9]{0,17})\z`)
	meanings    = strings.NewReplacer("~0", "~", "~1", "/")
	writings    = strings.NewReplacer("~", "~0", "/", "~1")
)

// isPointer: what the chapter's words say of a pointer.
func isPointer(s string) bool { return pointerText.MatchString(s) }

// namesOf: what the chapter's words say of a pointer's names.
func namesOf(s string) []string {
	list := strings.Split(s, "/")[1:]
	for i, name := range list {
		list[i] = meanings.Replace(name)
	}
	return list
}

// pointerOf: the pointer that has these names.
func pointerOf(names []string) string {
	s := ""
	for _, name := range names {
		s += "/" + writings.Replace(name)
	}
	return s
}

// placeOf: what the chapter's words say of a name that is a place.
func placeOf(name string) (int, bool) {
	if !placeText.MatchString(name) {
		return 0, false
	}
	n, err := strconv.Atoi(name)
	return n, err == nil
}

// led: where names lead from a well shaped value; nil, if that is nowhere. Of an array each element is asked for its own place in tens.
func led(v api.Value, names []string) *api.Value {
	if len(names) == 0 {
		return &v
	}
	for i, kid := range v.Kids {
		name := strconv.Itoa(i)
		if v.Kind == api.Object {
			name = v.Keys[i]
		}
		if name == names[0] {
			return led(kid, names[1:])
		}
	}
	return nil
}

// within: what the chapter's words say of Within, of two pointers.
func within(s, t string) bool {
	inner, outer := namesOf(s), namesOf(t)
	for i, name := range outer {
		if i >= len(inner) || inner[i] != name {
			return false
		}
	}
	return true
}

// twice: does a name stand twice in an object of it?
func twice(v api.Value) bool {
	names := slices.Sorted(slices.Values(v.Keys))
	return len(slices.Compact(names)) < len(v.Keys) || slices.ContainsFunc(v.Kids, twice)
}

// rows: every row of at most n parts.
func rows(n int, parts ...string) []string {
	list := []string{""}
	last := list
	for range n {
		var next []string
		for _, s := range last {
			for _, p := range parts {
				next = append(next, s+p)
			}
		}
		list = append(list, next...)
		last = next
	}
	return list
}

// rule: ordinary numbers from a fixed rule.
type rule uint64

func (r *rule) below(n int) int {
	*r = *r*6364136223846793005 + 1442695040888963407
	return int((uint64(*r) ^ uint64(*r)>>29) % uint64(n))
}

func (r *rule) one(of []string) string { return of[r.below(len(of))] }

// value: a well shaped value of at most so many levels.
func (r *rule) value(most int) api.Value {
	kind := r.below(10)
	if most == 0 || kind < 3 {
		return r.scalar()
	}
	v := array()
	for range r.below(6) {
		v.Kids = append(v.Kids, r.value(most-1))
		if kind < 7 {
			v.Keys = append(v.Keys, r.one(names))
		}
	}
	if kind < 7 {
		v.Kind = api.Object
	}
	return v
}

func (r *rule) scalar() api.Value {
	switch r.below(5) {
	case 0:
		return null()
	case 1:
		return truth(r.below(2) == 0)
	case 2:
		return text(r.one(names))
	}
	return number(r.one(worths[r.below(len(worths))]))
}

// pointer: one that often leads somewhere in the value.
func (r *rule) pointer(v api.Value) string {
	s := ""
	for range r.below(6) {
		if n := len(v.Kids); n > 0 && r.below(8) > 0 {
			i := r.below(n)
			if v.Kind == api.Object {
				s += pointerOf(v.Keys[i : i+1])
				v = *led(v, v.Keys[i:i+1])
			} else {
				s += "/" + strconv.Itoa(i)
				v = v.Kids[i]
			}
			continue
		}
		s += pointerOf([]string{r.one(names)})
	}
	return s
}

// likened: a value that is alike: numbers written otherwise, members in another order, more that don't count.
func (r *rule) likened(v api.Value) api.Value {
	switch v.Kind {
	case api.Number:
		for _, list := range worths {
			if slices.Contains(list, v.Raw) {
				return number(r.one(list))
			}
		}
	case api.Array:
		w := array()
		for _, kid := range v.Kids {
			w.Kids = append(w.Kids, r.likened(kid))
		}
		return w
	case api.Object:
		return r.likenedMembers(v)
	}
	return v
}

func (r *rule) likenedMembers(v api.Value) api.Value {
	w := object()
	for i, name := range v.Keys {
		if slices.Index(v.Keys, name) != i {
			continue
		}
		at := r.below(len(w.Keys) + 1)
		w.Keys = slices.Insert(w.Keys, at, name)
		w.Kids = slices.Insert(w.Kids, at, r.likened(v.Kids[i]))
	}
	for range r.below(3) {
		if n := len(w.Keys); n > 0 {
			w.Keys = append(w.Keys, w.Keys[r.below(n)])
			w.Kids = append(w.Kids, r.scalar())
		}
	}
	return w
}

// Numbers, those of one worth in one list.
var worths = [][]string{
	{"0", "-0", "0.0", "0e5"},
	{"1", "1.0", "1e0", "10e-1"},
	{"-1.5", "-15e-1", "-1.50"},
	{"100", "1e2", "1E+2"},
	{"1e9999999999"},
	{"10e9999999998"},
}

// Names that are UTF-8, with all that pointers make a difference for.
var names = []string{"", "a", "a", "b", "ab", "0", "1", "2", "3", "01", "00", "10", "-", "-1", "+1", "~", "/", "~1", "~0", "~01", "~10", "/~", "~/~", "//", "m~n", "x/y", " ", "\x00", "\u00e4", "\u20ac", "\ufffd", "\U0001f600"}

// Texts that aren't UTF-8.
var notUTF8 = []string{"\xff", "a\xff", "\xffa", "\xc3", "\x80", "\xc0\x80", "\xed\xa0\x80", "\xf4\x90\x80\x80", "\xe2\x82", "\xf0\x9f\x98", "\u00e4\xe4"}

// Texts that are no pointers.
var notPointers = []string{"a", "a/b", " ", " /a", "\n", "0", "-", "#", "#/a", "~", "~0", "~1", "~0/a", "/~", "/~2", "/a~", "/~/", "/~/a", "/~~", "/~~0", "/~0~", "/~1~", "/~00~", "/a/b~", "/a~/b", "/a~2/b", "//~", "/~ ", "/~a", "/~-1", "/~\x00", "/~\xff", "/~\u00e4", "/~\U0001f600", "/~\uff10", "\xff", "\xff/a", "\u00e4/a", "\x00", "\x00/a", "\ufeff/a", "\\a", "\uff0fa"}

// values: well shaped ones of all kinds.
func values() []api.Value {
	list := []api.Value{
		null(), truth(true), truth(false), text(""), text("a"), number("7"), array(), object(),
		array(null()), array(array()), array(object()), array(number("1"), number("2"), number("3")), array(array(), array(array(null()))),
		object("a", null()), object("", null()), object("a", number("1"), "b", number("2")), object("b", number("2"), "a", number("1"), "a", number("3")),
		object("a", number("1"), "a", number("2")), object("a", array(number("1"), number("2")), "a", null()), object("a", object("a", object())), object("0", array(null()), "1", null(), "-", truth(true)),
		{Kind: api.Null, Keys: []string{}, Kids: []api.Value{}}, {Kind: api.Array, Keys: []string{}, Kids: []api.Value{}}, {Kind: api.Object, Keys: []string{}}, {Kind: api.Text, Kids: []api.Value{}},
	}
	for _, s := range names {
		list = append(list, text(s), object(s, text(s)), object("x", null(), s, array(text(s))))
	}
	var r rule = 20
	for n := range 200 {
		list = append(list, r.value(n%6))
	}
	return list
}

// plainlyBad: structs that aren't well shaped, each for one reason that lies in itself.
func plainlyBad() []api.Value {
	list := []api.Value{
		{},
		{Kind: -1}, {Kind: 7}, {Kind: 256 + api.Null}, {Kind: 1<<63 - 1}, {Kind: -1 << 63},
		{Kind: api.Null, Bool: true}, {Kind: api.Null, Raw: "1"}, {Kind: api.Null, Text: "a"}, {Kind: api.Null, Keys: []string{"a"}}, {Kind: api.Null, Kids: []api.Value{null()}},
		{Kind: api.Bool, Raw: "1"}, {Kind: api.Text, Bool: true}, {Kind: api.Number, Raw: "1", Text: "1"},
		{Kind: api.Object, Keys: []string{"a"}}, {Kind: api.Object, Kids: []api.Value{null()}}, {Kind: api.Object, Keys: []string{"a", "b"}, Kids: []api.Value{null()}}, {Kind: api.Object, Keys: []string{"a"}, Kids: []api.Value{null(), null()}},
		{Kind: api.Array, Keys: []string{"a"}, Kids: []api.Value{null()}}, {Kind: api.Array, Text: "a"}, {Kind: api.Object, Raw: "1"},
	}
	for _, s := range notUTF8 {
		list = append(list, text(s), object(s, null()), object("a", null(), s, null()))
	}
	for _, raw := range []string{"", "-", "+1", "01", "1.", ".5", "1e", " 1", "1 ", "NaN", "null", "\u0661"} {
		list = append(list, number(raw))
	}
	return list
}

// bad: those, and values that have one of them somewhere within.
func bad() []api.Value {
	list := plainlyBad()
	for _, v := range plainlyBad() {
		list = append(list,
			array(v), array(v, null()), array(null(), array(), v), object("a", v), object("a", null(), "b", v),
			object("a", null(), "a", v), // one that doesn't count
			nest(40, api.Array, v), nest(40, api.Object, array(null(), v)))
	}
	return append(list, nest(1025, api.Array, null()), nest(1024, api.Array, array()), nest(1025, api.Object, null()), array(null(), nest(1024, api.Object, text("a"))), nest(3000, api.Array, null()))
}

// pointers: ones of all kinds.
func pointers() []string {
	list := []string{"", "/", "//", "///", "/a", "/a/", "/a//", "//a", "/a/b", "/ab", "/a/0/m~1n~0", "/~01", "/~10", "/~0~1", "/~1~0", "/~00", "/~11", "/~0/~1", "/~0a", "/a~0", "/0", "/00", "/1", "/-", "/ ", "/\x00", "/\x00/\x00", "/a\nb", "/#", "/%2f", "/\\"}
	for _, s := range slices.Concat(names, notUTF8) {
		list = append(list, pointerOf([]string{s}), pointerOf([]string{"a", s}), pointerOf([]string{s, "b"}), pointerOf([]string{s, s}))
	}
	return list
}
