package write

import (
	"fmt"
	"math/big"
	"regexp"
	"slices"
	"strings"

	"quarry/api"
)

// The chapter's words, said once more and in another way, and values of all kinds to hold the calls against them.

func null() api.Value                { return api.Value{Kind: api.Null} }
func truth(is bool) api.Value        { return api.Value{Kind: api.Bool, Bool: is} }
func number(raw string) api.Value    { return api.Value{Kind: api.Number, Raw: raw} }
func text(s string) api.Value        { return api.Value{Kind: api.Text, Text: s} }
func array(l ...api.Value) api.Value { return api.Value{Kind: api.Array, Kids: l} }

// object: of names and values in turn.
func object(parts ...any) api.Value {
	v := api.Value{Kind: api.Object}
	for i := 0; i < len(parts); i += 2 {
		v.Keys = append(v.Keys, parts[i].(string))
		v.Kids = append(v.Kids, parts[i+1].(api.Value))
	}
	return v
}

// nest: a value within so many arrays, or objects of one member.
func nest(n, kind int, v api.Value) api.Value {
	for range n {
		if kind == api.Object {
			v = object("a", v)
		} else {
			v = api.Value{Kind: kind, Kids: []api.Value{v}}
		}
	}
	return v
}

// show: a struct's text, the same for two just if all that is in them is the same.
func show(v api.Value) string {
	var b strings.Builder
	showTo(&b, v)
	return b.String()
}

func showTo(b *strings.Builder, v api.Value) {
	fmt.Fprintf(b, "(%d %v %q %q %q", v.Kind, v.Bool, v.Raw, v.Text, v.Keys)
	for _, kid := range v.Kids {
		showTo(b, kid)
	}
	b.WriteString(")")
}

// brief: a struct's text to be read.
func brief(v api.Value) string {
	s := show(v)
	if len(s) > 300 {
		return s[:300] + ".."
	}
	return s
}

var short = map[rune]string{'"': `\"`, '\\': `\\`, 8: `\b`, 12: `\f`, 10: `\n`, 13: `\r`, 9: `\t`}

// inQuotes: what the chapter's words say of a text in quotes.
func inQuotes(s string) string {
	list := []string{`"`}
	for _, r := range s {
		x, ok := short[r]
		switch {
		case ok:
		case r < 32:
			x = fmt.Sprintf(`\u%04x`, r)
		default:
			x = string(r)
		}
		list = append(list, x)
	}
	return strings.Join(append(list, `"`), "")
}

// scalarText: the text of what is no array and no object.
func scalarText(v api.Value) string {
	switch v.Kind {
	case api.Null:
		return "null"
	case api.Bool:
		return fmt.Sprint(v.Bool)
	case api.Number:
		return v.Raw
	}
	return inQuotes(v.Text)
}

// brackets: those of an array or an object.
func brackets(v api.Value) (open, end string) {
	if v.Kind == api.Array {
		return "[", "]"
	}
	return "{", "}"
}

// name: what stands ahead of a part.
func name(v api.Value, i int, colon string) string {
	if v.Kind == api.Array {
		return ""
	}
	return inQuotes(v.Keys[i]) + colon
}

// compactText: what the chapter's words say of the compact text.
func compactText(v api.Value) string {
	if v.Kind < api.Array {
		return scalarText(v)
	}
	var list []string
	for i, kid := range v.Kids {
		list = append(list, name(v, i, ":")+compactText(kid))
	}
	open, end := brackets(v)
	return open + strings.Join(list, ",") + end
}

// prettyText: what the chapter's words say of the pretty text at a depth.
func prettyText(v api.Value, n, d int) string {
	if v.Kind < api.Array {
		return scalarText(v)
	}
	open, end := brackets(v)
	if len(v.Kids) == 0 {
		return open + end
	}
	s := open + "\n"
	for i, kid := range v.Kids {
		s += fmt.Sprintf("%*s", n*(d+1), "") + name(v, i, ": ") + prettyText(kid, n, d+1)
		if i < len(v.Kids)-1 {
			s += ","
		}
		s += "\n"
	}
	return s + fmt.Sprintf("%*s", n*d, "") + end
}

var numberText = regexp.MustCompile(`\A(-?)(0|[1-9][0-9]*)(?:\.([0-9]+))?(?:[eE]([+-]?[0-9]+))?\z`)

// normalRaw: what the chapter's words say of a number's normal form.
func normalRaw(raw string) string {
	m := numberText.FindStringSubmatch(raw)
	all := strings.TrimLeft(m[2]+m[3], "0")
	if all == "" {
		return "0"
	}
	digits := strings.TrimRight(all, "0")
	exp := big.NewInt(int64(len(all) - len(digits) - len(m[3])))
	if m[4] != "" {
		power, _ := new(big.Int).SetString(m[4], 10)
		exp.Add(exp, power)
	}
	switch {
	case exp.CmpAbs(big.NewInt(api.MaxExp)) > 0:
		return raw
	case exp.Sign() == 0:
		return m[1] + digits
	}
	return m[1] + digits + "e" + exp.String()
}

// normalForm: what the chapter's words say of the normal form.
func normalForm(v api.Value) api.Value {
	switch v.Kind {
	case api.Number:
		return number(normalRaw(v.Raw))
	case api.Array:
		w := array()
		for _, kid := range v.Kids {
			w.Kids = append(w.Kids, normalForm(kid))
		}
		return w
	case api.Object:
		return normalMembers(v)
	}
	return v
}

func normalMembers(v api.Value) api.Value {
	first := map[string]api.Value{}
	names := []string{}
	for i, name := range v.Keys {
		if _, ok := first[name]; !ok {
			first[name] = v.Kids[i]
			names = append(names, name)
		}
	}
	slices.SortFunc(names, func(a, b string) int { return slices.Compare([]byte(a), []byte(b)) })
	w := object()
	for _, name := range names {
		w.Keys = append(w.Keys, name)
		w.Kids = append(w.Kids, normalForm(first[name]))
	}
	return w
}

// rule: ordinary numbers from a fixed rule.
type rule uint64

func (r *rule) below(n int) int {
	*r = *r*6364136223846793005 + 1442695040888963407
	return int((uint64(*r) ^ uint64(*r)>>29) % uint64(n))
}

func (r *rule) one(of []string) string { return of[r.below(len(of))] }

// value: a well shaped value of at most so many levels.
func (r *rule) value(most int) api.Value {
	kind := r.below(10)
	if most == 0 || kind < 4 {
		return r.scalar()
	}
	v := array()
	for range r.below(5) {
		v.Kids = append(v.Kids, r.value(most-1))
		if kind < 7 {
			v.Keys = append(v.Keys, r.one(plain))
		}
	}
	if kind < 7 {
		v.Kind = api.Object
	}
	return v
}

func (r *rule) scalar() api.Value {
	switch r.below(5) {
	case 0:
		return null()
	case 1:
		return truth(r.below(2) == 0)
	case 2:
		return text(r.one(plain))
	}
	return number(r.one(worths[r.below(len(worths))].raws))
}

// likened: a value that is alike: numbers written otherwise, members in another order, more that don't count.
func (r *rule) likened(v api.Value) api.Value {
	switch v.Kind {
	case api.Number:
		for _, x := range worths {
			if slices.Contains(x.raws, v.Raw) {
				return number(r.one(x.raws))
			}
		}
	case api.Array:
		w := array()
		for _, kid := range v.Kids {
			w.Kids = append(w.Kids, r.likened(kid))
		}
		return w
	case api.Object:
		return r.likenedMembers(v)
	}
	return v
}

func (r *rule) likenedMembers(v api.Value) api.Value {
	w := object()
	for i, name := range v.Keys {
		if slices.Index(v.Keys, name) != i {
			continue
		}
		at := r.below(len(w.Keys) + 1)
		w.Keys = slices.Insert(w.Keys, at, name)
		w.Kids = slices.Insert(w.Kids, at, r.likened(v.Kids[i]))
	}
	for range r.below(3) {
		if n := len(w.Keys); n > 0 {
			w.Keys = append(w.Keys, w.Keys[r.below(n)])
			w.Kids = append(w.Kids, r.scalar())
		}
	}
	return w
}

// Numbers of one worth, and the Raw of their normal form.
var worths = []struct {
	normal string
	raws   []string
}{
	{"0", []string{"0", "-0", "0.0", "-0.0", "-0.00", "0e5", "0E-99999999999999999999", "-0.0e+9", "0e1073741825", "-0e-1073741825", "0e99999999999"}},
	{"1", []string{"1", "1.0", "1e0", "1E+00", "1e-0", "10e-1", "0.1e1", "100E-2", "0.001e3", "1.000000000000000000000000000000"}},
	{"-1", []string{"-1", "-1.0", "-10e-1", "-0.01E2"}},
	{"105e-1", []string{"10.50", "10.5", "105e-1", "0.105e2", "1.05E+01", "1050E-2"}},
	{"-15e-1", []string{"-1.50", "-1.5", "-15e-1", "-150e-2"}},
	{"1e1", []string{"10", "1e1", "1E1", "1e+1", "10.0", "100e-1", "1e01"}},
	{"1e2", []string{"100", "1e2", "1E2", "100.0", "0.1e3", "1000E-1"}},
	{"12e3", []string{"12000", "12e3", "1.2E4", "120e2", "0.012e6"}},
	{"101", []string{"101", "101.0", "1.01e2"}},
	{"1e-7", []string{"1e-7", "0.0000001", "10E-8", "0.1e-6"}},
	{"5e-1", []string{"0.5", "0.50", "5e-1", "50e-2", "0.05e1"}},
	{"9007199254740992", []string{"9007199254740992", "9007199254740992.0"}},
	{"9007199254740993", []string{"9007199254740993", "9.007199254740993e15"}},
	{"1e400", []string{"1e400", "10e399"}},
	{"1e401", []string{"1e401"}},
	{"1e-400", []string{"1e-400", "0.1e-399"}},
	{"12345678901234567890123456789e1", []string{"123456789012345678901234567890", "12345678901234567890123456789e1"}},
	{"123456789012345678901234567891", []string{"123456789012345678901234567891"}},
	{"1e1073741824", []string{"1e1073741824", "10e1073741823", "0.1e1073741825", "1E+01073741824"}},
	{"-1e1073741824", []string{"-1e1073741824", "-1.0e1073741824"}},
	{"1e-1073741824", []string{"1e-1073741824", "10e-1073741825", "1.0e-1073741824"}},
	// These are too great, or too small, for a decimal: each is as it is.
	{"1e1073741825", []string{"1e1073741825"}},
	{"10e1073741824", []string{"10e1073741824"}},
	{"1E1073741825", []string{"1E1073741825"}},
	{"1e+1073741825", []string{"1e+1073741825"}},
	{"1e01073741825", []string{"1e01073741825"}},
	{"-1e1073741825", []string{"-1e1073741825"}},
	{"1e-1073741825", []string{"1e-1073741825"}},
	{"0.1e-1073741824", []string{"0.1e-1073741824"}},
	{"1e9999999999", []string{"1e9999999999"}},
	{"10e9999999998", []string{"10e9999999998"}},
	{"1.0e9999999999", []string{"1.0e9999999999"}},
	{"-10.50E-99999999999999999999", []string{"-10.50E-99999999999999999999"}},
}

// Texts as they are: with all that escapes make a difference for, beginnings of one another, and characters whose order isn't the same in all their forms.
var plain = []string{
	"", "a", "b", "ab", "aa", "aaa", "a\x00", "a ", "A", "B", "Z", "_", "0", "1", "10", "2", "01", "-", "~", "/", "//", "x/y", " ", "  ", "\"", "\\", "\\\"", "\"\"", "\\n", "\\u0041", "a\"b\\c",
	"\x00", "\x01", "\x07", "\b", "\t", "\n", "\v", "\f", "\r", "\x0e", "\x1f", " \n ", "\r\n", "\x7f", "\u0080", "\u00e4", "a\u00e4", "\u07ff", "\u0800", "\u2028", "\u2029", "\u20ac", "\ud7ff", "\ue000", "\ufeff", "\ufffd", "\uffff", "\U00010000", "\U0001f600", "\U0010ffff",
	"null", "true", "[1, 2]", "{\"a\": 1}", ": ", ", ", "<a&b>", "'",
}

// values: well shaped ones of all kinds.
func values() []api.Value {
	list := []api.Value{
		null(), truth(true), truth(false), text(""), text("a"), array(), object(),
		array(null()), array(array()), array(object()), array(array(), array()), array(object(), array(object())), array(number("1"), number("2")), array(number("2"), number("1")), array(number("1")), array(number("1"), number("1")),
		object("a", null()), object("", null()), object("", array(), "", object()), object("a", object()), object("a", array()), object("a", number("1"), "b", number("2")), object("b", number("2"), "a", number("1"), "a", number("3")),
		object("a", number("1"), "a", number("2")), object("a", number("2"), "a", number("1")), object("a", number("1"), "b", number("3")), object("a", number("1"), "c", number("2")),
		object("a", array(number("1"), number("2")), "a", null()), object("a", object("a", object())), object("a", object(), "b", object()),
		{Kind: api.Null, Keys: []string{}, Kids: []api.Value{}}, {Kind: api.Array, Keys: []string{}, Kids: []api.Value{}}, {Kind: api.Object, Keys: []string{}}, {Kind: api.Text, Kids: []api.Value{}},
	}
	for _, s := range plain {
		list = append(list, text(s), object(s, text(s)))
	}
	for _, x := range worths {
		for _, raw := range x.raws {
			list = append(list, number(raw))
		}
	}
	var r rule = 3
	for n := range 200 {
		list = append(list, r.value(n%6))
	}
	return list
}

// Texts that aren't UTF-8.
var notUTF8 = []string{"\xff", "a\xff", "\xffa", "\xc3", "\x80", "\xc0\x80", "\xed\xa0\x80", "\xed\xbf\xbf", "\xf4\x90\x80\x80", "\xe2\x82", "\u00e4\xe4", "\xf8\x88\x80\x80\x80"}

// Texts that are no numbers.
var notNumbers = []string{"", "-", "+1", "01", "-01", "00", "1.", ".5", "1.e1", "1e", "1e+", "1E-", "1e1.5", "1 ", " 1", "1\n", "0x1", "NaN", "Infinity", "-Infinity", "1,", "1_0", "--1", "1e++1", "1..5", "null", "\"1\"", "\u0661", "1\x00", "1\xff"}

// plainlyBad: structs that aren't well shaped, each for one reason that lies in itself.
func plainlyBad() []api.Value {
	list := []api.Value{
		{}, {Text: "a"}, {Raw: "1"},
		{Kind: api.Object, Keys: []string{"a"}},
		{Kind: api.Object, Kids: []api.Value{null()}},
		{Kind: api.Object, Keys: []string{"a", "b"}, Kids: []api.Value{null()}},
		{Kind: api.Object, Keys: []string{"a"}, Kids: []api.Value{null(), null()}},
		{Kind: api.Array, Keys: []string{"a"}, Kids: []api.Value{null()}},
		{Kind: api.Array, Keys: []string{""}},
	}
	for _, kind := range []int{0, -1, 7, 8, 256 + api.Null, -api.Null, 1 << 40, -1 << 63, 1<<63 - 1} {
		list = append(list, api.Value{Kind: kind, Kids: []api.Value{null()}}, api.Value{Kind: kind})
	}
	for _, v := range []api.Value{null(), truth(true), truth(false), number("1"), text("a"), array(), array(null()), object(), object("a", null())} {
		list = append(list, withMore(v)...)
	}
	for _, s := range notUTF8 {
		list = append(list, text(s), object(s, null()), object("a", null(), s, null()))
	}
	for _, raw := range notNumbers {
		list = append(list, number(raw))
	}
	return list
}

// withMore: the value with each of the fields in turn that its Kind gives no meaning to.
func withMore(v api.Value) []api.Value {
	var list []api.Value
	add := func(turn func(v *api.Value), kinds ...int) {
		if w := v; !slices.Contains(kinds, v.Kind) {
			turn(&w)
			list = append(list, w)
		}
	}
	add(func(v *api.Value) { v.Bool = true }, api.Bool)
	add(func(v *api.Value) { v.Raw = "1" }, api.Number)
	add(func(v *api.Value) { v.Text = "a" }, api.Text)
	add(func(v *api.Value) { v.Keys = []string{"a"} }, api.Object)
	add(func(v *api.Value) { v.Kids = []api.Value{null()} }, api.Array, api.Object)
	return list
}

// bad: those, and values that have one of them somewhere within.
func bad() []api.Value {
	list := plainlyBad()
	for _, v := range plainlyBad() {
		list = append(list,
			array(v), array(v, null()), array(null(), array(), v), object("a", v), object("a", null(), "b", v),
			object("a", null(), "a", v), // one that doesn't count
			nest(40, api.Array, v), nest(40, api.Object, array(null(), v)), nest(1020, api.Array, object("b", null(), "a", v)))
	}
	return append(list, nest(1025, api.Array, null()), nest(1024, api.Array, array()), nest(1025, api.Object, null()), array(null(), nest(1024, api.Object, text("a"))), nest(3000, api.Array, null()), object("a", null(), "a", nest(1024, api.Array, null())))
}
