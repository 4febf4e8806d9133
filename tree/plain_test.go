package tree

import (
	"encoding/json"
	"fmt"
	"math/big"
	"reflect"
	"regexp"
	"slices"
	"strconv"
	"strings"
	"unicode/utf8"

	"quarry/api"
)

// The chapter's words, said once more and in another way, and values of all kinds to hold the calls against them.

func null() api.Value                { return api.Value{Kind: api.Null} }
func truth(is bool) api.Value        { return api.Value{Kind: api.Bool, Bool: is} }
func number(raw string) api.Value    { return api.Value{Kind: api.Number, Raw: raw} }
func text(s string) api.Value        { return api.Value{Kind: api.Text, Text: s} }
func array(l ...api.Value) api.Value { return api.Value{Kind: api.Array, Kids: l} }

// object: of names and values in turn.
func object(parts ...any) api.Value {
	v := api.Value{Kind: api.Object}
	for i := 0; i < len(parts); i += 2 {
		v.Keys = append(v.Keys, parts[i].(string))
		v.Kids = append(v.Kids, parts[i+1].(api.Value))
	}
	return v
}

// nest: a value within so many arrays, or objects of one member.
func nest(n, kind int, v api.Value) api.Value {
	for range n {
		if kind == api.Object {
			v = object("a", v)
		} else {
			v = api.Value{Kind: kind, Kids: []api.Value{v}}
		}
	}
	return v
}

// show: a struct's text, the same for two just if all that is in them is the same.
func show(v api.Value) string {
	var b strings.Builder
	put(&b, v)
	return b.String()
}

func put(b *strings.Builder, v api.Value) {
	fmt.Fprintf(b, "(%d %v %q %q %q", v.Kind, v.Bool, v.Raw, v.Text, v.Keys)
	for _, kid := range v.Kids {
		put(b, kid)
	}
	b.WriteString(")")
}

// brief: a struct's text to be read.
func brief(v api.Value) string {
	s := show(v)
	if len(s) > 300 {
		return s[:300] + ".."
	}
	return s
}

// library: what the language's library reads of a document.
func library(s string) (api.Value, error) {
	d := json.NewDecoder(strings.NewReader(s))
	d.UseNumber()
	return decoded(d)
}

func decoded(d *json.Decoder) (api.Value, error) {
	token, err := d.Token()
	if err != nil {
		return api.Value{}, err
	}
	switch x := token.(type) {
	case bool:
		return truth(x), nil
	case json.Number:
		return number(x.String()), nil
	case string:
		return text(x), nil
	case json.Delim:
		return decodedParts(d, x)
	}
	return null(), nil
}

func decodedParts(d *json.Decoder, open json.Delim) (api.Value, error) {
	v := array()
	if open == '{' {
		v.Kind = api.Object
	}
	for d.More() {
		if v.Kind == api.Object {
			name, err := d.Token()
			if err != nil {
				return api.Value{}, err
			}
			v.Keys = append(v.Keys, name.(string))
		}
		kid, err := decoded(d)
		if err != nil {
			return api.Value{}, err
		}
		v.Kids = append(v.Kids, kid)
	}
	_, err := d.Token()
	return v, err
}

var numberText = regexp.MustCompile(`\A(-?)(0|[1-9][0-9]*)(?:\.([0-9]+))?(?:[eE]([+-]?[0-9]+))?\z`)

// fieldsOf: the fields that a Kind gives a meaning to.
var fieldsOf = map[int][]string{
	api.Null:   {"Kind"},
	api.Bool:   {"Kind", "Bool"},
	api.Number: {"Kind", "Raw"},
	api.Text:   {"Kind", "Text"},
	api.Array:  {"Kind", "Kids"},
	api.Object: {"Kind", "Keys", "Kids"},
}

// wellShaped: what the chapter's words say of Formed.
func wellShaped(v api.Value) bool { return fits(v) && levels(v) <= api.MaxDepth }

func fits(v api.Value) bool {
	fields, ok := fieldsOf[v.Kind]
	if !ok {
		return false
	}
	all := reflect.ValueOf(v)
	for i := range all.NumField() {
		x := all.Field(i)
		zero := x.IsZero() || x.Kind() == reflect.Slice && x.Len() == 0
		if !zero && !slices.Contains(fields, all.Type().Field(i).Name) {
			return false
		}
	}
	switch v.Kind {
	case api.Number:
		return numberText.MatchString(v.Raw)
	case api.Text:
		return utf8.ValidString(v.Text)
	case api.Object:
		if len(v.Keys) != len(v.Kids) || slices.ContainsFunc(v.Keys, func(s string) bool { return !utf8.ValidString(s) }) {
			return false
		}
	}
	return !slices.ContainsFunc(v.Kids, func(kid api.Value) bool { return !fits(kid) })
}

// levels: what the chapter's words say of Depth.
func levels(v api.Value) int {
	if v.Kind < api.Array || v.Kind > api.Object {
		return 0
	}
	list := []int{0}
	for _, kid := range v.Kids {
		list = append(list, levels(kid))
	}
	return 1 + slices.Max(list)
}

// howMany: what the chapter's words say of Count.
func howMany(v api.Value) int {
	list := []api.Value{v}
	for i := 0; i < len(list); i++ {
		list = append(list, list[i].Kids...)
	}
	return len(list)
}

// meaning: a text that two values have in common just if they are alike by the chapter's words; both are well shaped.
func meaning(v api.Value) string {
	switch v.Kind {
	case api.Number:
		return worth(v.Raw)
	case api.Array:
		list := []string{}
		for _, kid := range v.Kids {
			list = append(list, meaning(kid))
		}
		return "[" + strings.Join(list, " ") + "]"
	case api.Object:
		counts := map[string]string{}
		for i := len(v.Keys) - 1; i >= 0; i-- {
			counts[v.Keys[i]] = meaning(v.Kids[i])
		}
		list := []string{}
		for name, kid := range counts {
			list = append(list, strconv.Quote(name)+":"+kid)
		}
		slices.Sort(list)
		return "{" + strings.Join(list, " ") + "}"
	}
	return fmt.Sprintf("%d %v %q", v.Kind, v.Bool, v.Text)
}

// worth: a text that two numbers have in common just if they are alike.
func worth(raw string) string {
	m := numberText.FindStringSubmatch(raw)
	all := strings.TrimLeft(m[2]+m[3], "0")
	if all == "" {
		return "0"
	}
	digits := strings.TrimRight(all, "0")
	exp := big.NewInt(int64(len(all) - len(digits) - len(m[3])))
	if m[4] != "" {
		power, _ := new(big.Int).SetString(m[4], 10)
		exp.Add(exp, power)
	}
	if exp.CmpAbs(big.NewInt(api.MaxExp)) > 0 {
		return "big " + raw
	}
	return m[1] + digits + "e" + exp.String()
}

// told: a part, and the pointer with which it is told.
type told struct {
	pointer string
	part    string
}

// parts: what the chapter's words say of Walk.
func parts(v api.Value, pointer string) []told {
	list := []told{{pointer, show(v)}}
	for i, kid := range v.Kids {
		name := fmt.Sprint(i)
		if v.Kind == api.Object {
			name = strings.NewReplacer("~", "~0", "/", "~1").Replace(v.Keys[i])
		}
		list = append(list, parts(kid, pointer+"/"+name)...)
	}
	return list
}

// rule: ordinary numbers from a fixed rule.
type rule uint64

func (r *rule) below(n int) int {
	*r = *r*6364136223846793005 + 1442695040888963407
	return int((uint64(*r) ^ uint64(*r)>>29) % uint64(n))
}

func (r *rule) one(of []string) string { return of[r.below(len(of))] }

func (r *rule) blank() string {
	s := ""
	for range r.below(3) * r.below(2) {
		s += r.one(blanks)
	}
	return s
}

// document: a value's text of at most so many levels; around each thing stands what gap tells.
func (r *rule) document(most int, gap func() string) string {
	kind := r.below(10)
	if most == 0 || kind < 4 {
		return r.one(scalars)
	}
	var list []string
	for range r.below(5) {
		s := gap() + r.document(most-1, gap) + gap()
		if kind < 7 {
			s = gap() + r.one(names) + gap() + ":" + s
		}
		list = append(list, s)
	}
	inner := strings.Join(list, ",")
	if inner == "" {
		inner = gap()
	}
	if kind < 7 {
		return "{" + inner + "}"
	}
	return "[" + inner + "]"
}

// value: a well shaped value of at most so many levels.
func (r *rule) value(most int) api.Value {
	kind := r.below(10)
	if most == 0 || kind < 4 {
		return r.scalar()
	}
	v := array()
	for range r.below(5) {
		v.Kids = append(v.Kids, r.value(most-1))
		if kind < 7 {
			v.Keys = append(v.Keys, r.one(plainNames))
		}
	}
	if kind < 7 {
		v.Kind = api.Object
	}
	return v
}

func (r *rule) scalar() api.Value {
	switch r.below(5) {
	case 0:
		return null()
	case 1:
		return truth(r.below(2) == 0)
	case 2:
		return text(r.one(plainNames))
	}
	return number(r.one(worths[r.below(len(worths))]))
}

// spoilt: the value with one field of one of its parts turned into something else, which may be right as well.
func (r *rule) spoilt(v api.Value) api.Value {
	if n := len(v.Kids); n > 0 && r.below(4) > 0 {
		i := r.below(n)
		v.Kids[i] = r.spoilt(v.Kids[i])
		return v
	}
	switch r.below(8) {
	case 0:
		v.Kind = r.below(9) - 1
	case 1:
		v.Bool = !v.Bool
	case 2:
		v.Raw = r.one([]string{"", "1", "01", "1e9999999999"})
	case 3:
		v.Text = r.one([]string{"", "a", "\xff", "\xed\xa0\x80"})
	case 4:
		v.Keys = append(v.Keys, r.one([]string{"a", "\xff"}))
	case 5:
		v.Kids = append(v.Kids, r.scalar())
	case 6:
		v.Keys = append(v.Keys, "b")
		v.Kids = append(v.Kids, r.scalar())
	case 7:
		v.Keys, v.Kids = []string{}, []api.Value{}
	}
	return v
}

// likened: a value that is alike: numbers written otherwise, members in another order, more that don't count.
func (r *rule) likened(v api.Value) api.Value {
	switch v.Kind {
	case api.Number:
		for _, list := range worths {
			if slices.Contains(list, v.Raw) {
				return number(r.one(list))
			}
		}
	case api.Array:
		w := array()
		for _, kid := range v.Kids {
			w.Kids = append(w.Kids, r.likened(kid))
		}
		return w
	case api.Object:
		return r.likenedMembers(v)
	}
	return v
}

func (r *rule) likenedMembers(v api.Value) api.Value {
	w := object()
	for i, name := range v.Keys {
		if slices.Index(v.Keys, name) != i {
			continue
		}
		at := r.below(len(w.Keys) + 1)
		w.Keys = slices.Insert(w.Keys, at, name)
		w.Kids = slices.Insert(w.Kids, at, r.likened(v.Kids[i]))
	}
	for range r.below(3) {
		if n := len(w.Keys); n > 0 {
			w.Keys = append(w.Keys, w.Keys[r.below(n)])
			w.Kids = append(w.Kids, r.scalar())
		}
	}
	return w
}

var blanks = []string{" ", "\t", "\n", "\r"}

// Numbers, those of one worth in one list.
var worths = [][]string{
	{"0", "-0", "0.0", "-0.00", "0e5", "0E-99999999999999999999", "-0.0e+9", "0e1073741825"},
	{"1", "1.0", "1e0", "1E+00", "10e-1", "0.1e1", "100E-2", "0.001e3", "1.000000000000000000000000000000"},
	{"-1", "-1.0", "-10e-1"},
	{"1.5", "15e-1", "1.50", "0.15e+01"},
	{"100", "1e2", "1E2", "100.0", "0.1e3"},
	{"1e-7", "0.0000001", "10E-8"},
	{"9007199254740992", "9007199254740992.0"},
	{"9007199254740993", "9.007199254740993e15"},
	{"1e400", "10e399"},
	{"1e401"},
	{"1e-400"},
	{"123456789012345678901234567890", "12345678901234567890123456789e1"},
	{"123456789012345678901234567891"},
	{"1e1073741824", "10e1073741823", "0.1e1073741825"},
	{"1e-1073741824", "10e-1073741825"},
	{"1e1073741825"},
	{"10e1073741824"},
	{"1E1073741825"},
	{"1e+1073741825"},
	{"1e01073741825"},
	{"-1e1073741825"},
	{"1e-1073741825"},
	{"1e9999999999"},
	{"10e9999999998"},
	{"1.0e9999999999"},
	{"1e99999999999999999999"},
}

// Texts as they are, with all that pointers and escapes make a difference for.
var plainNames = []string{"", "a", "b", "ab", "0", "1", "01", "-", "~", "/", "~1", "~0", "/~", "~/~", "//", "m~n", "x/y", " ", "\"", "\\", "\x00", "\n", "\x7f", "\u00e4", "\ufffd", "\U0001f600", "null", "%2f"}

// Texts with their quotes, those of one meaning more than once.
var names = []string{`""`, `"a"`, `"a"`, `"\u0061"`, `"b"`, `"ab"`, `"a\u0062"`, `"\u0061\u0062"`, `"~"`, `"\/"`, `"/"`, `"\""`, `"\\"`, `"\u0022"`, `"[{,:"`, "\"\u00e4\"", `"\u00E4"`, `"\ud83d\ude00"`, "\"\U0001f600\"", `"\ud83d"`}

// Scalars of every kind.
var scalars = slices.Concat(names, slices.Concat(worths...), []string{
	"null", "true", "false", "null", "true", "false",
	`" "`, `"\/\b\f\n\r\t"`, `"\u0000"`, `"\uABcd"`, `"\udc00\ud800"`, `"\ud83d\ud83d\ude00"`, `"\ud800a"`, "\"\x7f\"", "\"\U0010ffff\"", `"null"`, `"]}"`, `"\\\""`, `"\\\\"`,
})

// documents: texts of all kinds of documents of a few levels.
func documents() []string {
	list := slices.Clone(scalars)
	var r rule = 17
	for n := range 600 {
		list = append(list, r.blank()+r.document(n%6, r.blank)+r.blank())
	}
	return list
}

// values: well shaped ones of all kinds.
func values() []api.Value {
	list := []api.Value{
		null(), truth(true), truth(false), text(""), text("a"), array(), object(),
		array(null()), array(array()), array(object()), array(number("1"), number("2")), array(number("2"), number("1")), array(number("1")), array(number("1"), number("1")),
		object("a", null()), object("", null()), object("a", number("1"), "b", number("2")), object("b", number("2"), "a", number("1"), "a", number("3")),
		object("a", number("1"), "a", number("2")), object("a", number("2"), "a", number("1")), object("a", number("1"), "b", number("3")), object("a", number("1"), "c", number("2")),
		object("a", array(number("1"), number("2")), "a", null()), object("a", object("a", object())), object("a", object(), "b", object()),
		{Kind: api.Null, Keys: []string{}, Kids: []api.Value{}}, {Kind: api.Array, Keys: []string{}, Kids: []api.Value{}}, {Kind: api.Object, Keys: []string{}}, {Kind: api.Text, Kids: []api.Value{}},
	}
	for _, s := range plainNames {
		list = append(list, text(s), object(s, text(s)))
	}
	for _, of := range worths {
		for _, raw := range of {
			list = append(list, number(raw))
		}
	}
	var r rule = 3
	for n := range 200 {
		list = append(list, r.value(n%6))
	}
	return list
}

// Texts that aren't UTF-8.
var notUTF8 = []string{"\xff", "a\xff", "\xffa", "\xc3", "\x80", "\xc0\x80", "\xed\xa0\x80", "\xed\xbf\xbf", "\xf4\x90\x80\x80", "\xe2\x82", "\u00e4\xe4", "\xf8\x88\x80\x80\x80"}

// Texts that are no numbers.
var notNumbers = []string{"", "-", "+1", "01", "-01", "00", "1.", ".5", "1.e1", "1e", "1e+", "1E-", "1e1.5", "1 ", " 1", "1\n", "0x1", "NaN", "Infinity", "-Infinity", "1,", "1_0", "--1", "1e++1", "1..5", "null", "\"1\"", "\u0661", "1\x00", "1\xff"}

// plainlyBad: structs that aren't well shaped, each for one reason that lies in itself.
func plainlyBad() []api.Value {
	list := []api.Value{
		{Kind: api.Object, Keys: []string{"a"}},
		{Kind: api.Object, Kids: []api.Value{null()}},
		{Kind: api.Object, Keys: []string{"a", "b"}, Kids: []api.Value{null()}},
		{Kind: api.Object, Keys: []string{"a"}, Kids: []api.Value{null(), null()}},
		{Kind: api.Array, Keys: []string{"a"}, Kids: []api.Value{null()}},
		{Kind: api.Array, Keys: []string{""}},
	}
	for _, kind := range []int{0, -1, 7, 8, 256 + api.Null, -api.Null, 1 << 40, -1 << 63, 1<<63 - 1} {
		list = append(list, api.Value{Kind: kind}, api.Value{Kind: kind, Text: "a"}, api.Value{Kind: kind, Kids: []api.Value{null()}})
	}
	for kind, fields := range fieldsOf {
		base := api.Value{Kind: kind}
		if kind == api.Number {
			base.Raw = "1"
		}
		for name, set := range map[string]func(v *api.Value){
			"Bool": func(v *api.Value) { v.Bool = true },
			"Raw":  func(v *api.Value) { v.Raw = "1" },
			"Text": func(v *api.Value) { v.Text = "a" },
			"Keys": func(v *api.Value) { v.Keys = []string{"a"} },
			"Kids": func(v *api.Value) { v.Kids = []api.Value{null()} },
		} {
			if !slices.Contains(fields, name) {
				v := base
				set(&v)
				list = append(list, v)
			}
		}
	}
	for _, s := range notUTF8 {
		list = append(list, text(s), object(s, null()), object("a", null(), s, null()))
	}
	for _, raw := range notNumbers {
		list = append(list, number(raw))
	}
	slices.SortFunc(list, func(a, b api.Value) int { return strings.Compare(show(a), show(b)) })
	return list
}

// bad: those, and values that have one of them somewhere within.
func bad() []api.Value {
	list := plainlyBad()
	for _, v := range plainlyBad() {
		list = append(list,
			array(v), array(v, null()), array(null(), array(), v), object("a", v), object("a", null(), "b", v),
			object("a", null(), "a", v), // one that doesn't count
			nest(40, api.Array, v), nest(40, api.Object, array(null(), v)))
	}
	return append(list, nest(1025, api.Array, null()), nest(1024, api.Array, array()), nest(1025, api.Object, null()), array(null(), nest(1024, api.Object, text("a"))), nest(3000, api.Array, null()))
}
