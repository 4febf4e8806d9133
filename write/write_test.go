package write

import (
	"bytes"
	"encoding/json"
	"fmt"
	"math"
	"reflect"
	"slices"
	"strings"
	"sync"
	"testing"
	"unicode/utf8"
	"unsafe"

	"quarry/api"
	"quarry/decimal"
	"quarry/marks"
	"quarry/tree"
)

// The calls' exact types.
var (
	_ func(api.Value) (string, api.Errno)      = Compact
	_ func(api.Value, int) (string, api.Errno) = Pretty
	_ func(api.Value) (string, api.Errno)      = Canon
	_ func(api.Value) (api.Value, api.Errno)   = Normal
)

// parsed: the value of a text that is a document.
func parsed(t *testing.T, s string) api.Value {
	t.Helper()
	v, verdict, e := tree.Parse(s, api.MaxDepth)
	if verdict != (api.Verdict{Code: api.Valid, At: len(s)}) || e != api.OK {
		t.Fatalf("Parse(%.200q): %v, %d", s, verdict, e)
	}
	return v
}

func sameCompact(t *testing.T, v api.Value, want string) {
	t.Helper()
	if s, e := Compact(v); s != want || e != api.OK {
		t.Fatalf("Compact(%s) = %.300q, %d, not %.300q", brief(v), s, e, want)
	}
}

func samePretty(t *testing.T, v api.Value, indent int, want string) {
	t.Helper()
	if s, e := Pretty(v, indent); s != want || e != api.OK {
		t.Fatalf("Pretty(%s, %d) = %.300q, %d, not %.300q", brief(v), indent, s, e, want)
	}
}

func sameCanon(t *testing.T, v api.Value, want string) {
	t.Helper()
	if s, e := Canon(v); s != want || e != api.OK {
		t.Fatalf("Canon(%s) = %.300q, %d, not %.300q", brief(v), s, e, want)
	}
}

func sameNormal(t *testing.T, v, want api.Value) {
	t.Helper()
	if w, e := Normal(v); show(w) != show(want) || e != api.OK {
		t.Fatalf("Normal(%s) = %s, %d, not %s", brief(v), brief(w), e, brief(want))
	}
}

// must: the answer of a call that doesn't refuse.
func must[T any](t *testing.T) func(T, api.Errno) T {
	return func(x T, e api.Errno) T {
		t.Helper()
		if e != api.OK {
			t.Fatalf("refused: %d", e)
		}
		return x
	}
}

// sameAll: all four calls answer what the chapter's words say.
func sameAll(t *testing.T, v api.Value) {
	t.Helper()
	sameCompact(t, v, compactText(v))
	for _, n := range []int{0, 1, 2, 3, 4, 8} {
		samePretty(t, v, n, prettyText(v, n, 0))
	}
	sameNormal(t, v, normalForm(v))
	sameCanon(t, v, compactText(normalForm(v)))
}

// refused: all four calls tell ErrShape, whatever the indent, and nothing beside it.
func refused(t *testing.T, v api.Value) {
	t.Helper()
	if s, e := Compact(v); s != "" || e != api.ErrShape {
		t.Errorf("Compact(%s) = %.80q, %d", brief(v), s, e)
	}
	for _, n := range []int{-1, 0, 1, 8, 9, math.MinInt, math.MaxInt} {
		if s, e := Pretty(v, n); s != "" || e != api.ErrShape {
			t.Errorf("Pretty(%s, %d) = %.80q, %d", brief(v), n, s, e)
		}
	}
	if s, e := Canon(v); s != "" || e != api.ErrShape {
		t.Errorf("Canon(%s) = %.80q, %d", brief(v), s, e)
	}
	if w, e := Normal(v); !reflect.DeepEqual(w, api.Value{}) || e != api.ErrShape {
		t.Errorf("Normal(%s) = %s, %d", brief(v), brief(w), e)
	}
}

// All calls: what isn't well shaped.

func TestWhatIsNotWellShaped(t *testing.T) {
	for _, v := range bad() {
		if tree.Formed(v) {
			t.Fatalf("%s is well shaped", brief(v))
		}
		refused(t, v)
	}
}

func TestWhatIsSpoiltInOnePlace(t *testing.T) {
	var r rule = 6
	list := plainlyBad()
	for n := range 500 {
		v := array(r.value(n%5), null(), r.value(2))
		at := &v
		for len(at.Kids) > 0 && (at == &v || r.below(3) > 0) {
			at = &at.Kids[r.below(len(at.Kids))]
		}
		*at = list[r.below(len(list))]
		refused(t, v)
	}
}

func TestMoreThanTheMostLevels(t *testing.T) {
	const most = 1<<16 - 2
	for _, kind := range []int{api.Array, api.Object} {
		refused(t, nest(1024, kind, array()))
		refused(t, nest(most, kind, null()))
		// A list that lies within itself is deeper than anything.
		kids := make([]api.Value, 2)
		v := api.Value{Kind: kind, Kids: kids}
		if kind == api.Object {
			v.Keys = []string{"a", "b"}
		}
		kids[0], kids[1] = v, v
		if _, e := Compact(v); e != api.ErrShape {
			t.Error("Compact", e)
		}
		if _, e := Pretty(v, 9); e != api.ErrShape {
			t.Error("Pretty", e)
		}
		if _, e := Canon(v); e != api.ErrShape {
			t.Error("Canon", e)
		}
		if w, e := Normal(v); e != api.ErrShape || w.Kids != nil {
			t.Error("Normal", e)
		}
	}
}

// P18.1

func TestCompactExamples(t *testing.T) {
	sameCompact(t, array(number("1"), text(`"`), null()), `[1,"\"",null]`)
	sameCompact(t, object("a", array(), "a", number("1.50")), `{"a":[],"a":1.50}`)
	refused(t, api.Value{})
	refused(t, number("01"))
}

func TestCompactOfEachKind(t *testing.T) {
	for want, v := range map[string]api.Value{
		"null": null(), "true": truth(true), "false": truth(false), "0": number("0"), "-12.50e+7": number("-12.50e+7"), `""`: text(""), `"a b"`: text("a b"), `"null"`: text("null"), `"[1, 2]"`: text("[1, 2]"),
		"[]": array(), "{}": object(), "[[]]": array(array()), "[{}]": array(object()), `{"a":{}}`: object("a", object()), `{"a":[]}`: object("a", array()), `{"":""}`: object("", text("")), "[[],{},[]]": array(array(), object(), array()),
		`[null,true,false,0,"",[],{}]`:                   array(null(), truth(true), truth(false), number("0"), text(""), array(), object()),
		`{"a":null,"b":true,"c":0,"d":"","e":[],"f":{}}`: object("a", null(), "b", truth(true), "c", number("0"), "d", text(""), "e", array(), "f", object()),
		`{"b":1,"a":[2,{"d":3,"c":4}],"":5}`:             object("b", number("1"), "a", array(number("2"), object("d", number("3"), "c", number("4"))), "", number("5")),
		`{"a":1,"a":2,"b":3,"a":1}`:                      object("a", number("1"), "a", number("2"), "b", number("3"), "a", number("1")),
		`{"":{"":1,"":2},"":3}`:                          object("", object("", number("1"), "", number("2")), "", number("3")),
	} {
		sameCompact(t, v, want)
		sameAll(t, v)
	}
}

// Each scalar is the same text in all forms, but a number, which has a normal form of its own.
func TestOfScalars(t *testing.T) {
	for want, v := range map[string]api.Value{"null": null(), "true": truth(true), "false": truth(false), `""`: text(""), `"a"`: text("a"), `"\n"`: text("\n"), "[]": array(), "{}": object(), "7": number("7")} {
		sameCompact(t, v, want)
		for n := range 9 {
			samePretty(t, v, n, want)
		}
		sameCanon(t, v, want)
		sameNormal(t, v, v)
	}
}

func TestEscapes(t *testing.T) {
	for s, q := range map[string]string{
		"": `""`, `"`: `"\""`, `\`: `"\\"`, "/": `"/"`, "\b": `"\b"`, "\f": `"\f"`, "\n": `"\n"`, "\r": `"\r"`, "\t": `"\t"`, "\x00": `"\u0000"`, "\x01": `"\u0001"`, "\v": `"\u000b"`, "\x1f": `"\u001f"`, " ": `" "`, "\x7f": "\"\x7f\"",
		"\u00e4": "\"\u00e4\"", "\u2028": "\"\u2028\"", "\ufffd": "\"\ufffd\"", "\U0001f600": "\"\U0001f600\"", "<&>": `"<&>"`, "'": `"'"`, `\n`: `"\\n"`, `\"`: `"\\\""`, "a\"b\\c\nd": `"a\"b\\c\nd"`, "\x1b[0m": `"\u001b[0m"`,
	} {
		v := object(s, text(s), "k", array(text(s), object(s, null())))
		sameCompact(t, text(s), q)
		sameCompact(t, v, "{"+q+":"+q+`,"k":[`+q+",{"+q+":null}]}")
		samePretty(t, v, 1, "{\n "+q+": "+q+",\n \"k\": [\n  "+q+",\n  {\n   "+q+": null\n  }\n ]\n}")
		sameCanon(t, text(s), q)
		sameNormal(t, text(s), text(s))
		sameAll(t, v)
	}
}

func TestEveryCharacter(t *testing.T) {
	var all strings.Builder
	for r := range rune(utf8.MaxRune + 1) {
		if !utf8.ValidRune(r) {
			continue
		}
		all.WriteRune(r)
		if r < 0x900 || r > 0xfff0 && r < 0x10010 {
			s := string(r)
			sameAll(t, object(s, text(s)))
		}
	}
	v := object(all.String(), text(all.String()))
	sameCompact(t, v, compactText(v))
	samePretty(t, v, 2, prettyText(v, 2, 0))
	sameCanon(t, v, compactText(v))
	if w := parsed(t, must[string](t)(Compact(v))); !tree.Same(v, w) {
		t.Error("read back as another")
	}
}

// Raw is the number as it is written, whatever it is worth.
func TestNumbersAsTheyAreWritten(t *testing.T) {
	var list []string
	for _, x := range worths {
		list = append(list, x.raws...)
	}
	list = append(list, strings.Repeat("9", 100000), "-0."+strings.Repeat("0", 100000)+"1", "1e"+strings.Repeat("0", 1000)+"1", "1e-"+strings.Repeat("9", 1000), "1"+strings.Repeat("0", 5000)+".0E+0", "-0E-0", "0.10", "1E1", "1e+1", "1e-0")
	for _, raw := range list {
		v := number(raw)
		sameCompact(t, v, raw)
		samePretty(t, v, 3, raw)
		sameCompact(t, array(v, v), "["+raw+","+raw+"]")
		sameCompact(t, object("a", v), `{"a":`+raw+"}")
		samePretty(t, array(v, v), 1, "[\n "+raw+",\n "+raw+"\n]")
		samePretty(t, object("a", v), 1, "{\n \"a\": "+raw+"\n}")
		sameAll(t, object("a", array(v)))
	}
}

func TestOfValues(t *testing.T) {
	for _, v := range values() {
		sameAll(t, v)
	}
	var r rule = 18
	for n := range 3000 {
		sameAll(t, r.value(n%7))
	}
}

// deepText: what the chapter's words say of a scalar within so many arrays or objects of one member.
func deepText(levels, kind int, inner, feed, colon string, indent int) string {
	open, end := "[", "]"
	if kind == api.Object {
		open, end = "{", "}"
	}
	var b strings.Builder
	line := func(d int) {
		if feed != "" {
			b.WriteString(feed + strings.Repeat(" ", d*indent))
		}
	}
	for d := range levels {
		b.WriteString(open)
		line(d + 1)
		if kind == api.Object {
			b.WriteString(`"a"` + colon)
		}
	}
	b.WriteString(inner)
	for d := levels - 1; d >= 0; d-- {
		line(d)
		b.WriteString(end)
	}
	return b.String()
}

func TestTheMostLevels(t *testing.T) {
	for _, kind := range []int{api.Array, api.Object} {
		for _, levels := range []int{1, 2, 63, 64, 65, 1023, 1024} {
			v := nest(levels, kind, number("10"))
			sameCompact(t, v, deepText(levels, kind, "10", "", ":", 0))
			sameCanon(t, v, deepText(levels, kind, "1e1", "", ":", 0))
			sameNormal(t, v, nest(levels, kind, number("1e1")))
			for _, n := range []int{0, 1, 2, 8} {
				samePretty(t, v, n, deepText(levels, kind, "10", "\n", ": ", n))
			}
		}
		// The last level without parts.
		v := nest(1023, kind, object())
		sameCompact(t, v, deepText(1023, kind, "{}", "", ":", 0))
		samePretty(t, v, 8, deepText(1023, kind, "{}", "\n", ": ", 8))
		sameNormal(t, v, v)
	}
}

func TestOfManyParts(t *testing.T) {
	const n = 100000
	v, w := array(), object()
	for i := range n {
		v.Kids = append(v.Kids, number(fmt.Sprint(i)))
		w.Keys = append(w.Keys, fmt.Sprintf("%06d", i*7919%n))
		w.Kids = append(w.Kids, number(fmt.Sprint(i*7919%n)))
	}
	s := must[string](t)(Compact(v))
	if !strings.HasPrefix(s, "[0,1,2,") || !strings.HasSuffix(s, ",99998,99999]") || strings.Count(s, ",") != n-1 || !tree.Same(parsed(t, s), v) {
		t.Errorf("Compact: %.40q", s)
	}
	s = must[string](t)(Pretty(v, 2))
	if !strings.HasPrefix(s, "[\n  0,\n  1,\n") || !strings.HasSuffix(s, ",\n  99999\n]") || strings.Count(s, "\n") != n+1 || !tree.Same(parsed(t, s), v) {
		t.Errorf("Pretty: %.40q", s)
	}
	u := must[api.Value](t)(Normal(w))
	if len(u.Keys) != n || len(u.Kids) != n {
		t.Fatal(len(u.Keys), len(u.Kids))
	}
	for i := range n {
		if u.Keys[i] != fmt.Sprintf("%06d", i) || u.Kids[i].Raw != normalRaw(fmt.Sprint(i)) {
			t.Fatalf("Normal: %d: %q, %q", i, u.Keys[i], u.Kids[i].Raw)
		}
	}
}

// P18.2

func TestPrettyExamples(t *testing.T) {
	v := parsed(t, `{"a":[1,{}],"b":[]}`)
	samePretty(t, v, 2, "{\n  \"a\": [\n    1,\n    {}\n  ],\n  \"b\": []\n}")
	samePretty(t, v, 0, "{\n\"a\": [\n1,\n{}\n],\n\"b\": []\n}")
	for _, n := range []int{9, -1} {
		if s, e := Pretty(v, n); s != "" || e != api.ErrRange {
			t.Errorf("Pretty(.., %d) = %q, %d", n, s, e)
		}
	}
	samePretty(t, truth(true), 2, "true")
}

func TestPrettyOfIndents(t *testing.T) {
	for _, v := range []api.Value{null(), truth(true), number("1"), text("a"), array(), object(), array(null()), object("a", array(null())), nest(1024, api.Array, null())} {
		for _, n := range []int{-1, -2, -8, 9, 10, 64, 1024, -1 << 32, 1 << 32, 1<<32 + 2, math.MinInt, math.MaxInt} {
			if s, e := Pretty(v, n); s != "" || e != api.ErrRange {
				t.Errorf("Pretty(%s, %d) = %.80q, %d", brief(v), n, s, e)
			}
		}
	}
	v := object("a", array(null(), object("b", text(" "))), "c", number("1"))
	for n := range 9 {
		i := strings.Repeat(" ", n)
		want := "{\n" + i + "\"a\": [\n" + i + i + "null,\n" + i + i + "{\n" + i + i + i + "\"b\": \" \"\n" + i + i + "}\n" + i + "],\n" + i + "\"c\": 1\n}"
		samePretty(t, v, n, want)
	}
}

func TestPrettyOfWhatHasNoParts(t *testing.T) {
	for n := range 9 {
		i := strings.Repeat(" ", n)
		samePretty(t, array(), n, "[]")
		samePretty(t, object(), n, "{}")
		samePretty(t, array(array()), n, "[\n"+i+"[]\n]")
		samePretty(t, array(object(), array()), n, "[\n"+i+"{},\n"+i+"[]\n]")
		samePretty(t, object("", object()), n, "{\n"+i+"\"\": {}\n}")
		samePretty(t, object("a", array(), "a", object()), n, "{\n"+i+"\"a\": [],\n"+i+"\"a\": {}\n}")
		samePretty(t, api.Value{Kind: api.Array, Keys: []string{}, Kids: []api.Value{}}, n, "[]")
		samePretty(t, api.Value{Kind: api.Object, Keys: []string{}, Kids: []api.Value{}}, n, "{}")
	}
}

// The language's library lays documents out in just this form.
func TestPrettyIsWhatTheLibraryLaysOut(t *testing.T) {
	for _, v := range values() {
		s := must[string](t)(Compact(v))
		for n := range 9 {
			var b bytes.Buffer
			if err := json.Indent(&b, []byte(s), "", strings.Repeat(" ", n)); err != nil {
				t.Fatalf("%q: %v", s, err)
			}
			samePretty(t, v, n, b.String())
		}
	}
}

// The lines, each looked at by itself: its spaces, and which of them end with a comma.
func TestPrettyLineByLine(t *testing.T) {
	for _, v := range values() {
		for _, n := range []int{0, 1, 2, 5, 8} {
			depth := 0
			lines := strings.Split(must[string](t)(Pretty(v, n)), "\n")
			for i, line := range lines {
				bare := strings.TrimLeft(line, " ")
				closes := bare != "" && strings.Contains("]}", bare[:1])
				if closes {
					depth--
				}
				if len(line)-len(bare) != n*depth || bare == "" || strings.HasSuffix(line, " ") {
					t.Fatalf("Pretty(%s, %d): the line %d is %q", brief(v), n, i, line)
				}
				opens := strings.HasSuffix(bare, "[") || strings.HasSuffix(bare, "{")
				if opens {
					depth++
				}
				last := i+1 == len(lines) || strings.Contains("]}", strings.TrimLeft(lines[i+1], " ")[:1])
				if !opens && strings.HasSuffix(bare, ",") == last {
					t.Fatalf("Pretty(%s, %d): the line %d is %q: a comma too many, or none", brief(v), n, i, line)
				}
			}
			if depth != 0 {
				t.Fatalf("Pretty(%s, %d): %d brackets are open", brief(v), n, depth)
			}
		}
	}
}

// P18.3

func TestNormalExamples(t *testing.T) {
	for raw, want := range map[string]string{"10.50": "105e-1", "100": "1e2", "-0.0": "0", "1e9999999999": "1e9999999999"} {
		sameNormal(t, number(raw), number(want))
	}
	v := parsed(t, `{"b":1,"a":2,"b":3}`)
	sameNormal(t, v, object("a", number("2"), "b", number("1")))
	sameCanon(t, v, `{"a":2,"b":1}`)
	sameCanon(t, parsed(t, "[1.0, 1, 1e0]"), "[1,1,1]")
}

// The third of the whole's ten examples.
func TestCanonExampleOfTheWhole(t *testing.T) {
	for _, s := range []string{`{"id": 7, "tags": ["a", "b\u0063"], "pos": {"x": -1.50, "y": 1e2}}`, `{"pos":{"y":100.0,"x":-1.5},"tags":["a","bc"],"id":7,"id":8}`} {
		sameCanon(t, parsed(t, s), `{"id":7,"pos":{"x":-15e-1,"y":1e2},"tags":["a","bc"]}`)
	}
}

func TestNormalOfNumbers(t *testing.T) {
	for _, x := range worths {
		for _, raw := range x.raws {
			sameNormal(t, number(raw), number(x.normal))
			sameCanon(t, number(raw), x.normal)
			sameNormal(t, array(number(raw), object("a", number(raw))), array(number(x.normal), object("a", number(x.normal))))
			sameCanon(t, object("b", array(number(raw)), "a", number(raw)), `{"a":`+x.normal+`,"b":[`+x.normal+"]}")
			if normalRaw(raw) != x.normal {
				t.Errorf("%s: the words say %s", raw, normalRaw(raw))
			}
		}
	}
	long := strings.Repeat("123456789", 10000)
	for raw, want := range map[string]string{
		long: long, long + ".000": long, "0." + long: long + "e-90000", "-" + long + "000e5": "-" + long + "e8",
		"1" + strings.Repeat("0", 100000): "1e100000", "0." + strings.Repeat("0", 99999) + "1": "1e-100000", "-0." + strings.Repeat("0", 100000): "0",
		"1e" + strings.Repeat("0", 100000) + "1": "1e1", "0e" + strings.Repeat("9", 100000): "0", "7e" + strings.Repeat("9", 100000): "7e" + strings.Repeat("9", 100000),
	} {
		sameNormal(t, number(raw), number(want))
		sameCanon(t, array(number(raw)), "["+want+"]")
	}
}

// Every short text that is a number's.
func TestNormalOfShortNumbers(t *testing.T) {
	last := []string{""}
	for range 6 {
		var next []string
		for _, s := range last {
			for _, x := range []string{"0", "1", "-", "+", ".", "e", "E"} {
				next = append(next, s+x)
			}
		}
		for _, raw := range next {
			if !numberText.MatchString(raw) {
				if w, e := Normal(number(raw)); e != api.ErrShape || w.Kind != 0 {
					t.Fatalf("Normal of %q: %d", raw, e)
				}
				continue
			}
			sameNormal(t, number(raw), number(normalRaw(raw)))
			// Its worth is the same.
			a, _ := decimal.Of(raw)
			b, _ := decimal.Of(normalRaw(raw))
			if c, e := decimal.Cmp(a, b); c != 0 || e != api.OK {
				t.Fatalf("%s", raw)
			}
		}
		last = next
	}
}

// Names rise byte by byte, a beginning of another one below it.
func TestNormalOfNames(t *testing.T) {
	for _, x := range [][]string{
		{"", "a", "aa", "aaa", "ab", "b"},
		{"", "\x00", "\x00a", " ", "0", "1", "10", "2", "A", "B", "_", "a", "a\x00", "a ", "aA", "ab", "b", "~", "\x7f"},
		{"Z", "a", "\u0080", "\u00e4", "\u07ff", "\u0800", "\u20ac", "\ud7ff", "\ue000", "\ufffd", "\uffff", "\U00010000", "\U0001f600", "\U0010ffff"}, // in pairs of halves those from 10000 on would stand ahead of e000
		{"\n", "\"", "/", "\\", "\\n"}, // not by how they are written
		{"e", "e\u0301", "\u00e9"},
		{"a", "aa", "a\u00e4", "a\U0001f600"},
	} {
		want := object()
		for i, name := range x {
			want.Keys = append(want.Keys, name)
			want.Kids = append(want.Kids, number(fmt.Sprint(i+1)+"e1"))
		}
		want = normalForm(want)
		if !slices.Equal(want.Keys, x) {
			t.Fatalf("%q doesn't rise", x)
		}
		var r rule = 12
		for range 50 {
			v := object()
			for i, name := range x {
				at := r.below(len(v.Keys) + 1)
				v.Keys = slices.Insert(v.Keys, at, name)
				v.Kids = slices.Insert(v.Kids, at, number(fmt.Sprint(i+1)+"0"))
			}
			sameNormal(t, v, want)
			sameNormal(t, array(object("x", v)), array(object("x", want)))
			sameCanon(t, v, compactText(want))
		}
	}
}

func TestNormalOfNamesThatStandTwice(t *testing.T) {
	one, two, three := number("1"), number("2"), number("3")
	for _, x := range []struct{ v, want api.Value }{
		{object("a", one, "a", two), object("a", one)},
		{object("a", two, "a", one), object("a", two)},
		{object("a", two, "a", two), object("a", two)},
		{object("b", one, "a", two, "b", three), object("a", two, "b", one)},
		{object("b", one, "b", two, "a", three, "a", one, "b", three, "a", two), object("a", three, "b", one)},
		{object("", one, "a", two, "", three), object("", one, "a", two)},
		{object("a", null(), "a", object("b", one, "a", two)), object("a", null())},
		{object("a", object("b", one, "a", two, "b", three), "a", null()), object("a", object("a", two, "b", one))},
		{array(object("b", one, "b", two), object("b", two, "b", one)), array(object("b", one), object("b", two))},
		{object("\u00e4", one, "a\u0308", two, "\u00e4", three), object("a\u0308", two, "\u00e4", one)},
	} {
		sameNormal(t, x.v, x.want)
		sameCanon(t, x.v, compactText(x.want))
	}
	// Many of one name: the first one alone, whatever stands between.
	const n = 2000
	v := object()
	for i := range n {
		v.Keys = append(v.Keys, plain[i*7%len(plain)])
		v.Kids = append(v.Kids, text(fmt.Sprint(i)))
	}
	sameNormal(t, v, normalForm(v))
	w := must[api.Value](t)(Normal(v))
	if len(w.Keys) != len(plain) || !slices.IsSorted(w.Keys) {
		t.Fatalf("%q", w.Keys)
	}
	for i, name := range w.Keys {
		if want := fmt.Sprint(slices.Index(v.Keys, name)); w.Kids[i].Text != want {
			t.Errorf("%q: %s, not %s", name, w.Kids[i].Text, want)
		}
	}
}

// What is neither a number nor has parts is as it is, and so is an array's order.
func TestNormalOfOthers(t *testing.T) {
	for _, v := range []api.Value{null(), truth(true), truth(false), text(""), text("10.50"), text("b\x00a"), array(), object(), array(text("b"), text("a"), text("b")), array(null(), array(truth(false)), object()), object("a", array(text("2"), text("1")))} {
		sameNormal(t, v, v)
		sameCanon(t, v, compactText(v))
	}
	sameNormal(t, array(number("2.0"), number("1"), number("2")), array(number("2"), number("1"), number("2")))
	sameNormal(t, array(array(number("10")), object("b", number("0.0"), "a", array(object("d", null(), "c", number("1E0"))))), array(array(number("1e1")), object("a", array(object("c", number("1"), "d", null())), "b", number("0"))))
}

func TestCanonIsTheCompactTextOfTheNormalForm(t *testing.T) {
	for _, v := range values() {
		w := must[api.Value](t)(Normal(v))
		sameCanon(t, v, must[string](t)(Compact(w)))
	}
}

// P18.4

func TestWhatIsWrittenIsReadAsTheSame(t *testing.T) {
	list := append(values(), nest(1024, api.Array, text("a")), nest(1024, api.Object, text("a")), nest(1023, api.Object, array()))
	for _, v := range list {
		s := must[string](t)(Compact(v))
		if w := parsed(t, s); !tree.Same(v, w) {
			t.Fatalf("Compact(%s) = %.200q is read as %s", brief(v), s, brief(w))
		}
		for n := range 9 {
			p := must[string](t)(Pretty(v, n))
			if w := parsed(t, p); !tree.Same(v, w) {
				t.Fatalf("Pretty(%s, %d) = %.200q is read as %s", brief(v), n, p, brief(w))
			}
			if m := marks.Minify(p); m != s {
				t.Fatalf("Minify of %.200q is %.200q", p, m)
			}
		}
		if m := marks.Minify(s); m != s {
			t.Fatalf("Minify of %.200q is %.200q", s, m)
		}
	}
}

// The language's library reads all forms, too.
func TestTheLibraryReadsTheSame(t *testing.T) {
	read := func(s string) any {
		var x any
		d := json.NewDecoder(strings.NewReader(s))
		d.UseNumber()
		if err := d.Decode(&x); err != nil || d.More() {
			t.Fatalf("%q: %v", s, err)
		}
		return x
	}
	for _, v := range values() {
		s := must[string](t)(Compact(v))
		if p := must[string](t)(Pretty(v, 3)); !reflect.DeepEqual(read(s), read(p)) {
			t.Fatalf("%q and %q", s, p)
		}
		if v.Kind == api.Text && read(s) != v.Text {
			t.Fatalf("%q is read as %v", s, read(s))
		}
		var b bytes.Buffer
		if err := json.Compact(&b, []byte(s)); err != nil || b.String() != s {
			t.Fatalf("%q: %v", s, err)
		}
		read(must[string](t)(Canon(v)))
	}
}

func TestCanonIsTheSameJustOfWhatIsAlike(t *testing.T) {
	list := values()
	var r rule = 44
	for _, v := range list[:200] {
		list = append(list, r.likened(v))
	}
	canons := make([]string, len(list))
	for i, v := range list {
		canons[i] = must[string](t)(Canon(v))
	}
	alikes := 0
	for i, a := range list {
		for j, b := range list {
			alike := tree.Alike(a, b)
			if alike != (canons[i] == canons[j]) {
				t.Fatalf("%s and %s: alike %v, %.200q and %.200q", brief(a), brief(b), alike, canons[i], canons[j])
			}
			if alike && i != j {
				alikes++
			}
		}
	}
	if alikes == 0 {
		t.Error("no two are alike")
	}
}

func TestCanonOfNumbersOfOtherWorths(t *testing.T) {
	seen := map[string]bool{}
	for _, x := range worths {
		if seen[x.normal] {
			t.Errorf("%s stands twice", x.normal)
		}
		seen[x.normal] = true
		for _, raw := range x.raws {
			sameCanon(t, number(raw), x.normal)
		}
	}
}

func TestCanonOfOthersThatMeanTheSame(t *testing.T) {
	var r rule = 23
	for n := range 5000 {
		a := r.value(n % 6)
		b := r.likened(a)
		if !tree.Alike(a, b) {
			t.Fatalf("not alike: %s, %s", brief(a), brief(b))
		}
		sameCanon(t, b, must[string](t)(Canon(a)))
		sameNormal(t, b, must[api.Value](t)(Normal(a)))
		// And one that means something else.
		c := array(b, null())
		if must[string](t)(Canon(c)) == must[string](t)(Canon(a)) {
			t.Fatal(brief(c))
		}
	}
}

func TestTheNormalForm(t *testing.T) {
	var r rule = 31
	list := append(values(), nest(1024, api.Array, number("10")), nest(1024, api.Object, number("-0")))
	for n := range 1000 {
		list = append(list, r.likened(r.value(n%6)))
	}
	for _, v := range list {
		w := must[api.Value](t)(Normal(v))
		if !tree.Formed(w) || !tree.Alike(v, w) {
			t.Fatalf("Normal(%s) = %s", brief(v), brief(w))
		}
		sameNormal(t, w, w)
		s := must[string](t)(Canon(v))
		sameCanon(t, w, s)
		u := parsed(t, s)
		if !tree.Same(u, w) {
			t.Fatalf("Canon(%s) = %q is read as %s", brief(v), s, brief(u))
		}
		sameCanon(t, u, s)
		sameCompact(t, u, s)
	}
}

// Memory

// roomy: the same value in lists with room behind them, in which something stands.
func roomy(v api.Value) api.Value {
	keys := append(slices.Clone(v.Keys), "room", "room")
	v.Keys = keys[:len(v.Keys)]
	kids := append(slices.Clone(v.Kids), text("room"), text("room"))
	v.Kids = kids[:len(v.Kids)]
	for i, kid := range v.Kids {
		v.Kids[i] = roomy(kid)
	}
	return v
}

// withRoom: the struct's text, and that of what stands behind its lists.
func withRoom(v api.Value) string {
	w := v
	w.Keys, w.Kids = v.Keys[:len(v.Keys)+2], v.Kids[:len(v.Kids)+2]
	s := show(w)
	for _, kid := range v.Kids {
		s += withRoom(kid)
	}
	return s
}

// fill: writes into the room behind all lists of a value.
func fill(v api.Value) {
	for _, kid := range v.Kids {
		fill(kid)
	}
	keys, kids := v.Keys[len(v.Keys):cap(v.Keys)], v.Kids[len(v.Kids):cap(v.Kids)]
	for i := range keys {
		keys[i] = "filled"
	}
	for i := range kids {
		kids[i] = api.Value{Kind: -4}
	}
}

// scribble: writes over all that is in a value's lists, and the room behind them.
func scribble(v api.Value) {
	for _, kid := range v.Kids {
		scribble(kid)
	}
	keys, kids := v.Keys[:cap(v.Keys)], v.Kids[:cap(v.Kids)]
	for i := range keys {
		keys[i] = "scribbled"
	}
	for i := range kids {
		kids[i] = api.Value{Kind: -3, Raw: "scribbled"}
	}
}

func TestWhatComesInStays(t *testing.T) {
	for _, v := range slices.Concat(values(), bad()) {
		if tree.Depth(v) > 100 {
			continue
		}
		a := roomy(v)
		before := withRoom(a)
		Compact(a)
		Pretty(a, 2)
		Pretty(a, 9)
		Canon(a)
		Normal(a)
		if withRoom(a) != before {
			t.Fatalf("%s is changed", brief(v))
		}
	}
}

func TestAnswersShareNothing(t *testing.T) {
	for _, v := range values() {
		a := roomy(v)
		before := withRoom(a)
		x, y := must[api.Value](t)(Normal(a)), must[api.Value](t)(Normal(a))
		want := show(x)
		fill(x)
		if show(x) != want {
			t.Fatalf("Normal(%s): the room behind a list is another one's", brief(v))
		}
		scribble(x)
		if show(y) != want || withRoom(a) != before {
			t.Fatalf("Normal(%s): the answer is somebody else's, too", brief(v))
		}
		// What becomes of what came in is nothing to the answer.
		scribble(a)
		if show(y) != want {
			t.Fatalf("Normal(%s): the answer is what came in", brief(v))
		}
	}
	// Lists of one answer lie apart though they were one list in what came in.
	kids, keys := []api.Value{null()}, []string{"a"}
	one := api.Value{Kind: api.Object, Keys: keys, Kids: kids}
	v := must[api.Value](t)(Normal(array(one, one)))
	v.Kids[0].Kids[0], v.Kids[0].Keys[0] = text("x"), "x"
	if show(v.Kids[1]) != show(object("a", null())) || keys[0] != "a" || kids[0].Kind != api.Null {
		t.Error("two lists of one answer are one")
	}
}

// textsOf: all texts of a value.
func textsOf(v api.Value) []string {
	list := append([]string{v.Raw, v.Text}, v.Keys...)
	for _, kid := range v.Kids {
		list = append(list, textsOf(kid)...)
	}
	return list
}

// lieApart: no text of the one list has a byte in common with one of the other.
func lieApart(t *testing.T, answer, given []string) {
	t.Helper()
	for _, a := range answer {
		for _, b := range given {
			from, at := uintptr(unsafe.Pointer(unsafe.StringData(b))), uintptr(unsafe.Pointer(unsafe.StringData(a)))
			if a != "" && at >= from && at < from+uintptr(len(b)) {
				t.Fatalf("%.40q lies in %.40q, which came in", a, b)
			}
		}
	}
}

func TestAnswersHoldOnToNoText(t *testing.T) {
	for _, s := range []string{`{"name":["text",12.50,7,{"ab":"\n"}],"other":-7e9,"big":1e9999999999,"~/":"x","":[]}`, "12", "1e9999999999", `"text"`, `["a"]`} {
		v := parsed(t, strings.Clone(s))
		given := textsOf(v)
		lieApart(t, textsOf(must[api.Value](t)(Normal(v))), given)
		for _, answer := range []string{must[string](t)(Compact(v)), must[string](t)(Pretty(v, 2)), must[string](t)(Canon(v))} {
			lieApart(t, []string{answer}, given)
			lieApart(t, given, []string{answer})
		}
	}
}

// Sameness

// asked: all that the calls answer.
func asked(v api.Value, indent int) string {
	a, b := Compact(v)
	c, d := Pretty(v, indent)
	e, f := Canon(v)
	g, h := Normal(v)
	return fmt.Sprint(a, b, c, d, e, f, show(g), h)
}

func TestTheSameAgainWhateverElseRuns(t *testing.T) {
	list := slices.Concat(values(), plainlyBad())
	want := make([]string, len(list))
	for i, v := range list {
		want[i] = asked(v, i%11-1)
	}
	var group sync.WaitGroup
	for k := range 8 {
		group.Go(func() {
			for i := range len(list) {
				at := (i*7 + k) % len(list)
				if got := asked(list[at], at%11-1); got != want[at] {
					t.Errorf("%s: %.300s, not %.300s", brief(list[at]), got, want[at])
				}
			}
		})
	}
	group.Wait()
}

func ExampleCompact() {
	v, _, _ := tree.Parse(`{ "a": [1.50, "b\u0063"] }`, 5)
	fmt.Println(Compact(v))
	fmt.Println(Compact(api.Value{}))
	// Output:
	// {"a":[1.50,"bc"]} 0
	//  1
}

func ExamplePretty() {
	v, _, _ := tree.Parse(`{"a":[1,{}],"b":[]}`, 5)
	s, _ := Pretty(v, 2)
	fmt.Println(s)
	// Output:
	// {
	//   "a": [
	//     1,
	//     {}
	//   ],
	//   "b": []
	// }
}

func ExampleCanon() {
	v, _, _ := tree.Parse(`{"b": 10.50, "a": 100, "b": 3}`, 5)
	fmt.Println(Canon(v))
	// Output:
	// {"a":1e2,"b":105e-1} 0
}

func ExampleNormal() {
	v, _, _ := tree.Parse(`{"b": -0.0, "a": []}`, 5)
	n, _ := Normal(v)
	fmt.Println(n.Keys, n.Kids[1].Raw)
	// Output:
	// [a b] 0
}
