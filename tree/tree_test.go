package tree

import (
	"fmt"
	"iter"
	"math"
	"reflect"
	"slices"
	"strings"
	"sync"
	"testing"
	"unicode/utf8"
	"unsafe"

	"quarry/api"
	"quarry/texts"
	"quarry/valid"
)

// The calls' exact types.
var (
	_ func(string, int) (api.Value, api.Verdict, api.Errno) = Parse
	_ func(api.Value) bool                                  = Formed
	_ func(api.Value) int                                   = Depth
	_ func(api.Value) int                                   = Count
	_ func(api.Value, api.Value) bool                       = Same
	_ func(api.Value, api.Value) bool                       = Alike
	_ func(api.Value, string) (api.Value, bool)             = Member
	_ func(api.Value) iter.Seq2[string, api.Value]          = Walk
)

// parsed: the value of a text that is a document.
func parsed(t *testing.T, s string) api.Value {
	t.Helper()
	v, verdict, e := Parse(s, api.MaxDepth)
	if verdict != (api.Verdict{Code: api.Valid, At: len(s)}) || e != api.OK {
		t.Fatalf("Parse(%.80q): %v, %d", s, verdict, e)
	}
	return v
}

func sameParse(t *testing.T, s string, want api.Value) {
	t.Helper()
	if v := parsed(t, s); show(v) != show(want) {
		t.Fatalf("Parse(%.80q) = %s, not %s", s, brief(v), brief(want))
	}
}

// refused: beside a verdict that isn't Valid, or an error, there is nothing.
func refused(t *testing.T, s string, depth int, want api.Verdict, e api.Errno) {
	t.Helper()
	if v, verdict, err := Parse(s, depth); !reflect.DeepEqual(v, api.Value{}) || verdict != want || err != e {
		t.Fatalf("Parse(%.80q, %d) = %s, %v, %d, not %v, %d", s, depth, brief(v), verdict, err, want, e)
	}
}

func sameMember(t *testing.T, v api.Value, name string, want api.Value, ok bool) {
	t.Helper()
	if w, is := Member(v, name); show(w) != show(want) || is != ok {
		t.Fatalf("Member(%s, %q) = %s, %v, not %s, %v", brief(v), name, brief(w), is, brief(want), ok)
	}
}

// walked: all that an iterator tells.
func walked(seq iter.Seq2[string, api.Value]) []told {
	var list []told
	for pointer, v := range seq {
		list = append(list, told{pointer, show(v)})
	}
	return list
}

func sameWalk(t *testing.T, v api.Value, want []told) {
	t.Helper()
	if got := walked(Walk(v)); !slices.Equal(got, want) {
		t.Fatalf("Walk(%s) = %.300q, not %.300q", brief(v), got, want)
	}
}

// nested: the text of so many arrays or objects in one another, as the pattern's brackets go round.
func nested(n int, pattern, inner string) string {
	var ahead, behind strings.Builder
	for i := range n {
		if pattern[i%len(pattern)] == '[' {
			ahead.WriteString("[")
		} else {
			ahead.WriteString(`{"a":`)
		}
		if pattern[(n-1-i)%len(pattern)] == '[' {
			behind.WriteString("]")
		} else {
			behind.WriteString("}")
		}
	}
	return ahead.String() + inner + behind.String()
}

// rows: every row of at most n parts.
func rows(n int, parts ...string) []string {
	list := []string{""}
	last := list
	for range n {
		var next []string
		for _, s := range last {
			for _, p := range parts {
				next = append(next, s+p)
			}
		}
		list = append(list, next...)
		last = next
	}
	return list
}

// P17.1

func TestParseExamples(t *testing.T) {
	sameParse(t, "[1.0, true]", array(number("1.0"), truth(true)))
	sameParse(t, `{"a\u0062":null,"ab":[]}`, object("ab", null(), "ab", array()))
	refused(t, "[1,]", 9, api.Verdict{Code: api.Invalid, At: 3}, api.OK)
	refused(t, "[[1]]", 1, api.Verdict{Code: api.TooDeep, At: 1}, api.OK)
	refused(t, "1", 0, api.Verdict{}, api.ErrRange)
	refused(t, "1", 1025, api.Verdict{}, api.ErrRange)
}

// The third of the whole's ten examples.
func TestParseExampleOfTheWhole(t *testing.T) {
	const d = `{"id": 7, "tags": ["a", "b\u0063"], "pos": {"x": -1.50, "y": 1e2}}`
	sameParse(t, d, object("id", number("7"), "tags", array(text("a"), text("bc")), "pos", object("x", number("-1.50"), "y", number("1e2"))))
	if other := parsed(t, `{"pos":{"y":100.0,"x":-1.5},"tags":["a","bc"],"id":7,"id":8}`); !Alike(parsed(t, d), other) {
		t.Error("not alike")
	}
}

func TestParseOfDepthsThatAreNone(t *testing.T) {
	for _, s := range []string{"1", "", "[", "[1,]", "[[1]]", nested(1025, "[", "")} {
		for _, depth := range []int{-1, 0, 1025, -1024, 2048, math.MinInt, math.MaxInt} {
			refused(t, s, depth, api.Verdict{}, api.ErrRange)
		}
	}
	for _, depth := range []int{1, 2, 9, 1023, 1024} {
		if v, verdict, e := Parse("[1]", depth); show(v) != show(array(number("1"))) || verdict != (api.Verdict{Code: api.Valid, At: 3}) || e != api.OK {
			t.Errorf("depth %d: %s, %v, %d", depth, brief(v), verdict, e)
		}
	}
}

func TestParseOfEachKind(t *testing.T) {
	for s, want := range map[string]api.Value{
		"null": null(), "true": truth(true), "false": truth(false), "0": number("0"), "-12.5e+7": number("-12.5e+7"), `""`: text(""), `"a b"`: text("a b"), `"null"`: text("null"), `"[1]"`: text("[1]"),
		"[]": array(), "{}": object(), "[[]]": array(array()), "[{}]": array(object()), `{"a":{}}`: object("a", object()), `{"a":[]}`: object("a", array()), `{"":""}`: object("", text("")),
		`[null,true,false,0,"",[],{}]`:                   array(null(), truth(true), truth(false), number("0"), text(""), array(), object()),
		`{"a":null,"b":true,"c":0,"d":"","e":[],"f":{}}`: object("a", null(), "b", truth(true), "c", number("0"), "d", text(""), "e", array(), "f", object()),
		`{"b":1,"a":[2,{"d":3,"c":4}],"":5}`:             object("b", number("1"), "a", array(number("2"), object("d", number("3"), "c", number("4"))), "", number("5")),
		"[[1,2],[3],[],[4,5,6]]":                         array(array(number("1"), number("2")), array(number("3")), array(), array(number("4"), number("5"), number("6"))),
	} {
		sameParse(t, s, want)
	}
}

// Each scalar by itself, and as an element and a member with others around it, with blanks and none.
func TestParseOfBlanksInEveryPlace(t *testing.T) {
	for s, v := range map[string]api.Value{"null": null(), "true": truth(true), "false": truth(false), "0": number("0"), "-1.50E+3": number("-1.50E+3"), `""`: text(""), `" a\t"`: text(" a\t"), "[]": array(), "{}": object(), "[0]": array(number("0"))} {
		for _, b := range rows(3, blanks...) {
			sameParse(t, b+s, v)
			sameParse(t, s+b, v)
			sameParse(t, b+s+b, v)
			sameParse(t, "["+b+s+b+"]", array(v))
			sameParse(t, b+"["+b+s+b+","+b+s+b+","+b+"1"+b+"]"+b, array(v, v, number("1")))
			sameParse(t, b+"{"+b+`"a"`+b+":"+b+s+b+"}"+b, object("a", v))
			sameParse(t, "{"+b+`" "`+b+":"+b+s+b+","+b+`"b"`+b+":"+b+s+b+"}", object(" ", v, "b", v))
			sameParse(t, "["+b+"]", array())
			sameParse(t, b+"{"+b+"}"+b, object())
			sameParse(t, "["+b+"{"+b+"}"+b+","+b+"["+b+"]"+b+"]", array(object(), array()))
		}
	}
}

// Texts between quotes and what they mean, as elements, members and names.
func TestParseOfEscapes(t *testing.T) {
	for raw, s := range map[string]string{
		"": "", "a": "a", `\"`: `"`, `\\`: `\`, `\/`: "/", "/": "/", `\b`: "\b", `\f`: "\f", `\n`: "\n", `\r`: "\r", `\t`: "\t", `\\n`: `\n`, `\\\\`: `\\`, `\\\"`: `\"`, `a\"b`: `a"b`,
		`\u0000`: "\x00", `\u0041`: "A", `a\u0062c`: "abc", `\u00e4`: "\u00e4", `\u00E4`: "\u00e4", `\u20aC`: "\u20ac", `\uffff`: "\uffff", `\u0022`: `"`, `\u005c`: `\`, `\u005cn`: `\n`, `\u002f`: "/", `\u007e1`: "~1",
		`\ud83d\ude00`: "\U0001f600", `\uD83D\uDE00`: "\U0001f600", `\udbff\udfff`: "\U0010ffff", `\ud800\udc00`: "\U00010000", `x\ud83d\ude00y`: "x\U0001f600y",
		`\ud83d`: "\ufffd", `\ude00`: "\ufffd", `\ude00\ud83d`: "\ufffd\ufffd", `\ud83d\u0041`: "\ufffdA", `\ud83d\ud83d\ude00`: "\ufffd\U0001f600", `\ud83dx\ude00`: "\ufffdx\ufffd", `\ud83d\\ude00`: "\ufffd\\ude00",
		"\u00e4": "\u00e4", "\u20ac": "\u20ac", "\U0001f600": "\U0001f600", "\x7f": "\x7f", "[{]},:": "[{]},:", "  ": "  ", "'": "'", "true": "true",
	} {
		q := `"` + raw + `"`
		sameParse(t, q, text(s))
		sameParse(t, " "+q+" ", text(s))
		sameParse(t, "["+q+","+q+"]", array(text(s), text(s)))
		sameParse(t, "{"+q+":1}", object(s, number("1")))
		sameParse(t, "{"+q+":"+q+","+q+" : "+q+"}", object(s, text(s), s, text(s)))
		sameParse(t, `{"a":{`+q+":["+q+"]}}", object("a", object(s, array(text(s)))))
	}
}

func TestParseOfEveryEscapeByNumber(t *testing.T) {
	for n := range 1 << 16 {
		raw := fmt.Sprintf(`\u%04x`, n)
		want := string(rune(n)) // of a half by itself that is the character fffd, too
		v, _, _ := Parse(`{"`+raw+`":"`+raw+`"}`, 1)
		if show(v) != show(object(want, text(want))) {
			t.Fatalf("%s: %s", raw, brief(v))
		}
	}
}

func TestParseOfNamesThatStandTwice(t *testing.T) {
	sameParse(t, `{"a":1,"a":2}`, object("a", number("1"), "a", number("2")))
	sameParse(t, `{"a":1,"\u0061":2,"b":3,"a":1}`, object("a", number("1"), "a", number("2"), "b", number("3"), "a", number("1")))
	sameParse(t, `{"\u0061":2,"a":1}`, object("a", number("2"), "a", number("1")))
	sameParse(t, `{"":{"":1,"":2},"":3}`, object("", object("", number("1"), "", number("2")), "", number("3")))
	sameParse(t, `{"\ud83d\ude00":1,"`+"\U0001f600"+`":2}`, object("\U0001f600", number("1"), "\U0001f600", number("2")))
	sameParse(t, `{"\ud800":1,"\udc00":2}`, object("\ufffd", number("1"), "\ufffd", number("2")))
}

// Raw is the number as it is written, whatever it is worth.
func TestParseOfNumbers(t *testing.T) {
	list := slices.Concat(worths...)
	list = append(list, strings.Repeat("9", 100000), "-0."+strings.Repeat("0", 100000)+"1", "1e"+strings.Repeat("0", 1000)+"1", "1e-"+strings.Repeat("9", 1000), "1"+strings.Repeat("0", 5000)+".0E+0", "-0E-0", "0.10", "1E1", "1e+1", "1e-0")
	for _, raw := range list {
		v := number(raw)
		sameParse(t, raw, v)
		sameParse(t, "\n"+raw+"\t", v)
		sameParse(t, "["+raw+"]", array(v))
		sameParse(t, "["+raw+","+raw+" ]", array(v, v))
		sameParse(t, `{"a":`+raw+`,"b":`+raw+"}", object("a", v, "b", v))
	}
}

func TestParseOfManyLevels(t *testing.T) {
	for _, pattern := range []string{"[", "{", "[{", "{[[", "[{{"} {
		for _, n := range []int{1, 2, 3, 10, 1023, 1024, 1025, 3000} {
			s := nested(n, pattern, "17")
			for _, depth := range []int{1, 2, n - 1, n, n + 1, 1024} {
				if depth < 1 || depth > 1024 {
					continue
				}
				check, _ := valid.Check(s, depth)
				if n > depth {
					if check.Code != api.TooDeep {
						t.Fatalf("%d %q: %v", n, pattern, check)
					}
					refused(t, s, depth, check, api.OK)
					continue
				}
				v, verdict, e := Parse(s, depth)
				if verdict != (api.Verdict{Code: api.Valid, At: len(s)}) || e != api.OK || Depth(v) != n || Count(v) != n+1 {
					t.Fatalf("%d of %q at %d: %v, %d, deep %d", n, pattern, depth, verdict, e, Depth(v))
				}
				for i := range n {
					if want := map[byte]int{'[': api.Array, '{': api.Object}[pattern[i%len(pattern)]]; v.Kind != want || len(v.Kids) != 1 {
						t.Fatalf("%d of %q: level %d", n, pattern, i)
					}
					v = v.Kids[0]
				}
				if show(v) != show(number("17")) {
					t.Fatal(brief(v))
				}
			}
		}
	}
}

func TestParseOfWhatIsNoDocument(t *testing.T) {
	for s, at := range map[string]int{
		"": 0, " ": 1, "[": 1, "{": 1, "]": 0, "}": 0, ",": 0, ":": 0, "[1,]": 3, "[,1]": 1, "[1 2]": 3, "[1}": 2, "{]": 1, "[]]": 2, "[[]": 3, `{"a"}`: 4, `{"a":}`: 5, `{"a" 1}`: 5, `{"a":1,}`: 7, `{,"a":1}`: 1, "{1:2}": 1, "{a:1}": 1,
		"1 1": 2, "[] []": 3, "nul": 3, "nulll": 4, "True": 0, "01": 1, "+1": 0, ".5": 0, "1.": 2, "1e": 2, "-": 1, `"a`: 2, `"\x"`: 2, `"\u12g4"`: 5, "\"\n\"": 1, "\"\xff\"": 1, "\xef\xbb\xbf1": 0, "[1]x": 3, `"a"b`: 3, "'a'": 0, "NaN": 0, "/**/1": 0,
	} {
		for _, depth := range []int{1, 2, 9, 1024} {
			refused(t, s, depth, api.Verdict{Code: api.Invalid, At: at}, api.OK)
		}
	}
	// What isn't even whole is no document that is too deep.
	refused(t, "[[[]", 1, api.Verdict{Code: api.Invalid, At: 4}, api.OK)
	refused(t, strings.Repeat("[", 100000), 5, api.Verdict{Code: api.Invalid, At: 100000}, api.OK)
}

// sameAsLibrary: the verdict of Check, and of a document what the language's library reads of it.
func sameAsLibrary(t *testing.T, s string, depth int) {
	t.Helper()
	check, _ := valid.Check(s, depth)
	if check.Code != api.Valid {
		refused(t, s, depth, check, api.OK)
		return
	}
	want, err := library(s)
	if err != nil {
		t.Fatalf("%.80q: %v", s, err)
	}
	if v, verdict, e := Parse(s, depth); show(v) != show(want) || verdict != check || e != api.OK {
		t.Fatalf("Parse(%.200q, %d) = %s, %v, %d, not %s", s, depth, brief(v), verdict, e, brief(want))
	}
}

func TestParseOfDocuments(t *testing.T) {
	var r rule = 5
	for _, s := range documents() {
		for _, depth := range []int{1, 2, 4, 1024} {
			sameAsLibrary(t, s, depth)
		}
		at := r.below(len(s) + 1)
		x := r.one([]string{"[", "]", "{", "}", ",", ":", `"`, `\`, "0", "a", " ", "\xff", "\xc3", "\x00", "-", "e", "."})
		sameAsLibrary(t, s[:at], 3)
		sameAsLibrary(t, s[:at]+x+s[at:], 3)
		if at < len(s) {
			sameAsLibrary(t, s[:at]+x+s[at+1:], 3)
		}
	}
}

func TestParseOfShortTexts(t *testing.T) {
	for _, s := range rows(5, "[", "]", "{", "}", ",", ":", `"a"`, "1", " ", "null") {
		sameAsLibrary(t, s, 2)
	}
	for _, s := range rows(6, `"`, `\`, "u0061", "n", "[", "]") {
		sameAsLibrary(t, s, 2)
	}
}

func TestParseOfLongDocuments(t *testing.T) {
	const n = 200000
	v := parsed(t, "["+strings.Repeat(`"\u0061",`, n)+"1]")
	if len(v.Kids) != n+1 || show(v.Kids[n-1]) != show(text("a")) || show(v.Kids[n]) != show(number("1")) || !Formed(v) || Count(v) != n+2 {
		t.Error("array")
	}
	v = parsed(t, "{"+strings.Repeat(`"b":[],`, n)+`"c":2}`)
	if len(v.Kids) != n+1 || len(v.Keys) != n+1 || v.Keys[n] != "c" || v.Keys[n-1] != "b" || show(v.Kids[n]) != show(number("2")) || !Formed(v) {
		t.Error("object")
	}
	sameParse(t, `"`+strings.Repeat(`\\\"`, n)+`"`, text(strings.Repeat(`\"`, n)))
}

// P17.2

func TestFormedExamples(t *testing.T) {
	for _, v := range []api.Value{number("01"), text("\xff"), {Kind: api.Object, Keys: []string{"a"}}, {Kind: api.Null, Bool: true}, {}} {
		if Formed(v) {
			t.Error(brief(v))
		}
	}
	if !Formed(nest(1023, api.Array, array())) || Formed(nest(1024, api.Array, array())) {
		t.Error("1024 and 1025 levels")
	}
}

func TestFormedOfValues(t *testing.T) {
	for _, v := range values() {
		if !Formed(v) || !wellShaped(v) {
			t.Errorf("not Formed(%s)", brief(v))
		}
	}
}

func TestFormedOfWhatIsNot(t *testing.T) {
	for _, v := range bad() {
		if Formed(v) || wellShaped(v) {
			t.Errorf("Formed(%s)", brief(v))
		}
	}
}

func TestFormedOfNumbers(t *testing.T) {
	for _, raw := range rows(5, "0", "1", "-", "+", ".", "e", "E") {
		if got, want := Formed(number(raw)), numberText.MatchString(raw); got != want {
			t.Errorf("Formed of the number %q: %v", raw, got)
		}
	}
	for _, raw := range []string{"1e99999999999999999999", "-1E-99999999999999999999", "1e" + strings.Repeat("9", 100000), strings.Repeat("7", 100000)} {
		if !Formed(number(raw)) {
			t.Errorf("not Formed of the number %.30q", raw)
		}
	}
}

func TestFormedOfTextsAndNames(t *testing.T) {
	list := slices.Concat(plainNames, notUTF8, []string{"\u0080", "\ud7ff", "\ue000", "\uffff", "\U00010000", "\U0010ffff", strings.Repeat("\u20ac", 1000), strings.Repeat("\u20ac", 1000) + "\xe2"})
	for x := range 256 {
		list = append(list, string([]byte{byte(x)}), "a"+string([]byte{byte(x)}), string([]byte{0xe2, byte(x), 0x82}))
	}
	for _, s := range list {
		want := utf8.ValidString(s)
		for _, v := range []api.Value{text(s), object(s, null()), object("a", null(), s, null(), "b", null()), array(text(s)), object(s, text(s))} {
			if Formed(v) != want {
				t.Errorf("Formed(%s): not %v", brief(v), want)
			}
		}
	}
}

func TestFormedOfManyLevels(t *testing.T) {
	for _, kind := range []int{api.Array, api.Object} {
		for _, x := range []struct {
			v    api.Value
			deep int
		}{{null(), 0}, {text("a"), 0}, {array(), 1}, {object(), 1}, {array(array()), 2}} {
			for _, n := range []int{0, 1, 1000, 1022, 1023, 1024, 1025, 5000} {
				v := nest(n, kind, x.v)
				want := n+x.deep <= 1024
				for _, v := range []api.Value{v, array(v), object("b", null(), "a", v), array(null(), array(), v)} {
					if n > 0 && Formed(v) != (want && levels(v) <= 1024) {
						t.Errorf("%d levels: Formed is %v", levels(v), Formed(v))
					}
				}
				if Formed(v) != want {
					t.Errorf("%d and %d levels: Formed is %v", n, x.deep, Formed(v))
				}
			}
		}
	}
}

// A list that lies within itself is deeper than anything; the calls that ask first whether a value is well shaped end all the same.
func TestFormedOfWhatLiesWithinItself(t *testing.T) {
	for _, kind := range []int{api.Array, api.Object} {
		kids := make([]api.Value, 2)
		v := api.Value{Kind: kind, Kids: kids}
		if kind == api.Object {
			v.Keys = []string{"a", "b"}
		}
		kids[0], kids[1] = v, v
		if Formed(v) || Alike(v, v) || len(walked(Walk(v))) != 0 {
			t.Error(kind)
		}
	}
}

func TestFormedOfAnyStruct(t *testing.T) {
	var r rule = 9
	formed, all := 0, 20000
	for n := range all {
		v := r.value(n % 5)
		for range r.below(3) {
			v = r.spoilt(v)
		}
		if got := Formed(v); got != wellShaped(v) {
			t.Fatalf("Formed(%s) = %v", brief(v), got)
		} else if got {
			formed++
		}
	}
	if formed < all/10 || formed > all*9/10 {
		t.Errorf("%d of %d are well shaped: the rule tells too little", formed, all)
	}
}

func TestDepthExamples(t *testing.T) {
	if Depth(number("1")) != 0 || Depth(array()) != 1 || Depth(array(array(), number("1"))) != 2 {
		t.Error("depth")
	}
	if Count(object("a", array(number("1"), number("2")), "a", null())) != 5 {
		t.Error("count")
	}
}

func TestDepthAndCountOfAnyStruct(t *testing.T) {
	kids := []api.Value{array(array()), null(), {Kind: 9, Kids: []api.Value{array()}}}
	for _, x := range []struct {
		v           api.Value
		deep, count int
	}{
		{api.Value{}, 0, 1},
		{null(), 0, 1},
		{api.Value{Kind: api.Null, Kids: kids}, 0, 6},
		{api.Value{Kind: api.Bool, Kids: kids}, 0, 6},
		{api.Value{Kind: api.Number, Kids: kids}, 0, 6},
		{api.Value{Kind: api.Text, Kids: kids}, 0, 6},
		{api.Value{Kids: kids}, 0, 6},
		{api.Value{Kind: 7, Kids: kids}, 0, 6},
		{api.Value{Kind: -5, Kids: kids}, 0, 6},
		{api.Value{Kind: api.Array, Kids: kids}, 3, 6},
		{api.Value{Kind: api.Object, Kids: kids}, 3, 6},
		{api.Value{Kind: api.Object, Keys: []string{"a", "b", "c", "d"}}, 1, 1},
		{api.Value{Kind: api.Array, Keys: []string{"a"}, Kids: []api.Value{{}}}, 1, 2},
		{api.Value{Kind: api.Array, Bool: true, Raw: "x", Text: "\xff"}, 1, 1},
		// What lies within a Kind that has no Kids adds nothing.
		{array(api.Value{Kind: api.Text, Kids: []api.Value{array(array(array()))}}, array()), 2, 6},
		{object("a", null(), "b", array(object("c", array()))), 4, 5},
		{array(array(array()), array()), 3, 4},
		{array(array(), array(array())), 3, 4},
	} {
		if got := Depth(x.v); got != x.deep || got != levels(x.v) {
			t.Errorf("Depth(%s) = %d, not %d", brief(x.v), got, x.deep)
		}
		if got := Count(x.v); got != x.count {
			t.Errorf("Count(%s) = %d, not %d", brief(x.v), got, x.count)
		}
	}
	for _, v := range slices.Concat(values(), bad()) {
		if Depth(v) != levels(v) || Count(v) != howMany(v) {
			t.Errorf("%s: deep %d, and %d parts", brief(v), Depth(v), Count(v))
		}
	}
}

func TestOfTheMostLevelsThatMayBeGiven(t *testing.T) {
	const most = 1<<16 - 2
	for _, kind := range []int{api.Array, api.Object, api.Text, 0} {
		v := nest(most, kind, number("7"))
		deep := 0
		if kind >= api.Array {
			deep = most
		}
		if Depth(v) != deep || Count(v) != most+1 || !Same(v, nest(most, kind, number("7"))) || Same(v, nest(most, kind, number("8"))) || Formed(v) || Alike(v, v) || len(walked(Walk(v))) != 0 {
			t.Errorf("kind %d", kind)
		}
		if w, ok := Member(object("a", v), "a"); !ok || !Same(v, w) {
			t.Errorf("member, kind %d", kind)
		}
	}
}

// full: a struct in which every field has something.
func full() api.Value {
	kid := api.Value{Kind: 3, Bool: true, Raw: "r", Text: "t", Keys: []string{"k", "l"}, Kids: []api.Value{{Kind: 1}, {Raw: "2"}}}
	return api.Value{Kind: 6, Bool: true, Raw: "r", Text: "t", Keys: []string{"k", "l"}, Kids: []api.Value{kid, {Kind: 1}}}
}

func TestSameFieldByField(t *testing.T) {
	if !Same(full(), full()) {
		t.Fatal("not the same")
	}
	for i, turn := range []func(v *api.Value){
		func(v *api.Value) { v.Kind = 5 },
		func(v *api.Value) { v.Kind = -6 },
		func(v *api.Value) { v.Bool = !v.Bool },
		func(v *api.Value) { v.Raw = "" },
		func(v *api.Value) { v.Raw = "R" },
		func(v *api.Value) { v.Text = "" },
		func(v *api.Value) { v.Text = "tt" },
		func(v *api.Value) { v.Raw, v.Text = v.Text, v.Raw },
		func(v *api.Value) { v.Keys[0] = "K" },
		func(v *api.Value) { v.Keys[1] = "L" },
		func(v *api.Value) { v.Keys = []string{"l", "k"} },
		func(v *api.Value) { v.Keys = v.Keys[:1] },
		func(v *api.Value) { v.Keys = append(v.Keys, "") },
		func(v *api.Value) { v.Keys = nil },
		func(v *api.Value) { v.Kids = nil },
		func(v *api.Value) { v.Kids = v.Kids[:1] },
		func(v *api.Value) { v.Kids = append(v.Kids, api.Value{}) },
		func(v *api.Value) { v.Kids[0], v.Kids[1] = v.Kids[1], v.Kids[0] },
		func(v *api.Value) { v.Kids[1] = api.Value{} },
		func(v *api.Value) { v.Kids[1].Text = "x" },
	} {
		outer, inner := full(), full()
		turn(&outer)
		turn(&inner.Kids[0])
		for _, v := range []api.Value{outer, inner} {
			if Same(v, full()) || Same(full(), v) || Same(array(v), array(full())) || Same(object("a", null(), "b", full()), object("a", null(), "b", v)) {
				t.Errorf("turn %d: %s", i, brief(v))
			}
			if !Same(v, v) || !Same(array(v), array(v)) {
				t.Errorf("turn %d: not the same as itself", i)
			}
		}
	}
}

func TestSameOfNilAndEmptyLists(t *testing.T) {
	for _, kind := range []int{0, api.Null, api.Array, api.Object, 9} {
		a := api.Value{Kind: kind}
		for _, b := range []api.Value{
			{Kind: kind, Keys: []string{}},
			{Kind: kind, Kids: []api.Value{}},
			{Kind: kind, Keys: []string{}, Kids: []api.Value{}},
			{Kind: kind, Keys: make([]string, 0, 5), Kids: make([]api.Value, 0, 5)},
			{Kind: kind, Keys: []string{"a"}[:0], Kids: []api.Value{null()}[:0]},
		} {
			if !Same(a, b) || !Same(b, a) || !Same(array(a, null()), array(b, null())) || !Same(object("a", b), object("a", a)) {
				t.Errorf("kind %d", kind)
			}
			if kind >= api.Null && kind <= api.Object && (!Alike(a, b) || !Alike(b, a)) {
				t.Errorf("not alike, kind %d", kind)
			}
		}
	}
}

func TestSameOfAnyTwo(t *testing.T) {
	list := slices.Concat(values(), plainlyBad())
	shown := make([]string, len(list))
	for i, v := range list {
		shown[i] = show(v)
	}
	for i, a := range list {
		for j, b := range list {
			if got := Same(a, b); got != (shown[i] == shown[j]) {
				t.Fatalf("Same(%s, %s) = %v", brief(a), brief(b), got)
			}
		}
	}
}

// P17.3

func TestAlikeExamples(t *testing.T) {
	for _, x := range []struct {
		a, b string
		want bool
	}{
		{"1.0", "1e0", true},
		{"-0", "0", true},
		{"1e9999999999", "1e9999999999", true},
		{"1e9999999999", "10e9999999998", false},
		{`{"a":1,"b":2}`, `{"b":2,"a":1,"a":3}`, true},
		{"[1,2]", "[2,1]", false},
	} {
		if Alike(parsed(t, x.a), parsed(t, x.b)) != x.want {
			t.Error(x)
		}
	}
}

func TestAlike(t *testing.T) {
	for _, x := range []struct {
		a, b string
		want bool
	}{
		{"null", "null", true}, {"null", "false", false}, {"true", "true", true}, {"true", "false", false}, {"false", "false", true}, {"0", "false", false}, {`""`, "null", false}, {"1", `"1"`, false},
		{`"a"`, `"\u0061"`, true}, {`"a"`, `"A"`, false}, {`"a"`, `"a "`, false}, {`""`, `""`, true}, {`"1.0"`, `"1"`, false}, {"\"\u00e4\"", `"a\u0308"`, false}, {`"\ud800"`, `"\ufffd"`, true},
		{"[]", "[]", true}, {"[]", "{}", false}, {"{}", "{}", true}, {"[]", "null", false}, {"[[]]", "[]", false}, {"[1]", "1", false}, {"[1]", "[1,1]", false}, {"[1,1]", "[1]", false}, {"[1.0,[2e0]]", "[1,[2]]", true}, {"[1,[2]]", "[[1],2]", false}, {"[null]", "[]", false}, {"[1,2,3]", "[1,2,4]", false},
		{`{"a":1}`, `{"a":1.0}`, true}, {`{"a":1}`, `{"a":2}`, false}, {`{"a":1}`, `{"b":1}`, false}, {`{"a":1}`, `{"a":1,"b":2}`, false}, {`{"a":1,"b":2}`, `{"a":1}`, false}, {`{"a":1}`, "{}", false}, {"{}", `{"":null}`, false}, {`{"a":null}`, `{"b":null}`, false}, {`{"a":[]}`, `{"a":{}}`, false},
		{`{"a":1,"a":2}`, `{"a":1}`, true}, {`{"a":1}`, `{"a":1,"a":2}`, true}, {`{"a":1,"a":2}`, `{"a":2}`, false}, {`{"a":1,"a":2}`, `{"a":2,"a":1}`, false}, {`{"a":1,"a":2}`, `{"a":1,"b":2}`, false}, {`{"a":1,"b":2}`, `{"a":1,"a":1}`, false}, {`{"a":1,"a":1,"b":2}`, `{"a":1,"b":2,"b":2}`, true}, {`{"a":1,"a":1,"b":2}`, `{"a":1,"b":2,"c":2}`, false},
		{`{"a":1,"b":2,"c":3}`, `{"c":3,"a":1,"b":2}`, true}, {`{"a":1,"b":2}`, `{"a":2,"b":1}`, false}, {`{"b":2,"a":1,"b":7,"a":8}`, `{"a":1,"a":9,"b":2}`, true}, {`{"a":1,"\u0061":2}`, `{"a":1}`, true},
		{`{"a":{"b":1,"c":[1.0]}}`, `{"a":{"c":[1],"b":10e-1,"b":0}}`, true}, {`[{"a":1,"b":2},0]`, `[{"b":2,"a":1},-0]`, true}, {`{"a":{"a":1,"a":2}}`, `{"a":{"a":2}}`, false}, {`{"x":[{"y":1}]}`, `{"x":[{"y":2}]}`, false},
	} {
		a, b := parsed(t, x.a), parsed(t, x.b)
		if Alike(a, b) != x.want || Alike(b, a) != x.want || (meaning(a) == meaning(b)) != x.want {
			t.Errorf("Alike(%s, %s) isn't %v", x.a, x.b, x.want)
		}
	}
}

// Numbers are alike just within their list; by themselves and within others.
func TestAlikeOfNumbers(t *testing.T) {
	for i, list := range worths {
		for _, a := range list {
			for j, other := range worths {
				for _, b := range other {
					v, w := number(a), number(b)
					if Alike(v, w) != (i == j) || Alike(array(null(), v), array(null(), w)) != (i == j) || Alike(object("a", v), object("a", w)) != (i == j) || (worth(a) == worth(b)) != (i == j) {
						t.Errorf("%s and %s", a, b)
					}
				}
			}
		}
	}
	long := strings.Repeat("123456789", 10000)
	if !Alike(number(long), number(long+".000")) || Alike(number(long), number(long[1:])) || !Alike(number("0."+long), number(long+"e-90000")) || Alike(number(long+"1"), number(long+"2")) {
		t.Error("long numbers")
	}
}

func TestAlikeOfAnyTwo(t *testing.T) {
	list := values()
	meanings := make([]string, len(list))
	for i, v := range list {
		meanings[i] = meaning(v)
	}
	alikes := 0
	for i, a := range list {
		for j, b := range list {
			got := Alike(a, b)
			if got != (meanings[i] == meanings[j]) {
				t.Fatalf("Alike(%s, %s) = %v", brief(a), brief(b), got)
			}
			if got && i != j {
				alikes++
			}
		}
	}
	if alikes == 0 {
		t.Error("no two are alike")
	}
}

// Values that are alike though hardly the same, and ones that differ by one thing.
func TestAlikeOfOthersThatMeanTheSame(t *testing.T) {
	var r rule = 21
	others := 0
	for n := range 5000 {
		a := r.value(n % 6)
		b := r.likened(a)
		if !Alike(a, b) || !Alike(b, a) || meaning(a) != meaning(b) {
			t.Fatalf("not Alike(%s, %s)", brief(a), brief(b))
		}
		c := r.spoilt(r.likened(a))
		want := wellShaped(c) && meaning(c) == meaning(a)
		if Alike(a, c) != want || Alike(c, a) != want {
			t.Fatalf("Alike(%s, %s) isn't %v", brief(a), brief(c), want)
		}
		if !want && wellShaped(c) {
			others++
		}
	}
	if others == 0 {
		t.Error("none differs")
	}
}

func TestAlikeOfWhatIsNotWellShaped(t *testing.T) {
	for _, v := range bad() {
		if Alike(v, v) || Alike(v, null()) || Alike(array(v), array(v)) || Alike(object("a", v), object("a", null())) {
			t.Errorf("Alike(%s)", brief(v))
		}
		// A member that doesn't count must be well shaped all the same.
		a, b := object("a", null(), "a", v), object("a", null())
		if Alike(a, b) || Alike(b, a) {
			t.Errorf("Alike(%s)", brief(a))
		}
		if Alike(array(null(), v), array(truth(true), null())) {
			t.Errorf("Alike(%s)", brief(v))
		}
	}
}

func TestAlikeOfManyMembers(t *testing.T) {
	const n = 100000
	a, b := object(), object()
	for i := range n {
		a.Keys = append(a.Keys, fmt.Sprint(i))
		a.Kids = append(a.Kids, number(fmt.Sprint(i)))
		b.Keys = append(b.Keys, fmt.Sprint(n-1-i))
		b.Kids = append(b.Kids, number(fmt.Sprint(n-1-i)+".0"))
	}
	if !Alike(a, b) {
		t.Error("not alike")
	}
	b.Kids[n/2].Raw = "7e77"
	if Alike(a, b) {
		t.Error("alike")
	}
	if deep := nest(1024, api.Object, text("a")); !Alike(deep, nest(1024, api.Object, text("a"))) || Alike(deep, nest(1024, api.Object, text("b"))) {
		t.Error("deep")
	}
}

// P17.4

func TestMemberExamples(t *testing.T) {
	v := parsed(t, `{"a":[1,2],"a":null}`)
	sameMember(t, v, "a", array(number("1"), number("2")), true)
	sameMember(t, v, "b", api.Value{}, false)
}

func TestMember(t *testing.T) {
	v := object("a", number("1"), "b", array(null()), "", text("e"), "a", number("2"), "b/~", object("a", null()), "", null(), "\xff", truth(true))
	for name, want := range map[string]api.Value{"a": number("1"), "b": array(null()), "": text("e"), "b/~": object("a", null()), "\xff": truth(true)} {
		sameMember(t, v, name, want, true)
	}
	for _, name := range []string{"A", "ab", "b/", "b~1~0", "0", "\xfe", " ", "a "} {
		sameMember(t, v, name, api.Value{}, false)
	}
	sameMember(t, object(), "", api.Value{}, false)
	sameMember(t, object(), "a", api.Value{}, false)
	// A member of the zero Value is told by the true alone.
	sameMember(t, object("a", api.Value{}), "a", api.Value{}, true)
}

func TestMemberOfWhatIsNoObject(t *testing.T) {
	keys, kids := []string{"a", "0", ""}, []api.Value{number("1"), number("2"), number("3")}
	for _, kind := range []int{0, api.Null, api.Bool, api.Number, api.Text, api.Array, 7, -1, -6, math.MaxInt} {
		for _, name := range keys {
			sameMember(t, api.Value{Kind: kind, Keys: keys, Kids: kids}, name, api.Value{}, false)
		}
	}
	for n := range 4 {
		for m := range 4 {
			v := api.Value{Kind: api.Object, Keys: keys[:n], Kids: kids[:m]}
			for i, name := range keys {
				if n == m && i < n {
					sameMember(t, v, name, kids[i], true)
				} else {
					sameMember(t, v, name, api.Value{}, false)
				}
			}
		}
	}
}

// The value need not be well shaped, nor the member: all that is in it is told.
func TestMemberOfAnyStruct(t *testing.T) {
	for _, w := range append(bad(), full()) {
		v := object("a", w, "b", null(), "a", text("x"))
		v.Bool, v.Raw, v.Text = true, "01", "\xff"
		sameMember(t, v, "a", w, true)
		sameMember(t, v, "b", null(), true)
		sameMember(t, v, "c", api.Value{}, false)
	}
}

func TestMemberIsTheFirstOfItsName(t *testing.T) {
	for _, v := range values() {
		for _, name := range append(plainNames, "nobody", "\xff") {
			if i := slices.Index(v.Keys, name); i >= 0 {
				sameMember(t, v, name, v.Kids[i], true)
			} else {
				sameMember(t, v, name, api.Value{}, false)
			}
		}
	}
}

// P17.5

func TestWalkExample(t *testing.T) {
	v := parsed(t, `{"a":[true],"x/y":1}`)
	sameWalk(t, v, []told{{"", show(v)}, {"/a", show(array(truth(true)))}, {"/a/0", show(truth(true))}, {"/x~1y", show(number("1"))}})
}

func TestWalk(t *testing.T) {
	for s, want := range map[string][]string{
		"null": {""}, "true": {""}, "1": {""}, `"a/b"`: {""}, "[]": {""}, "{}": {""},
		"[1,[2,[]],3]":                      {"", "/0", "/1", "/1/0", "/1/1", "/2"},
		`{"b":1,"a":2,"":3}`:                {"", "/b", "/a", "/"},
		`{"":{"":{"":[1]}}}`:                {"", "/", "//", "///", "////0"},
		`{"a":[1],"b":2,"a":[3,4]}`:         {"", "/a", "/a/0", "/b", "/a", "/a/0", "/a/1"},
		`{"~":0,"/":1,"~1":2,"/~0":3}`:      {"", "/~0", "/~1", "/~01", "/~1~00"},
		`{"m~n":[{"x/y":0}]}`:               {"", "/m~0n", "/m~0n/0", "/m~0n/0/x~1y"},
		`{"~~//":0,"%2f":1,"0":2}`:          {"", "/~0~0~1~1", "/%2f", "/0"},
		`{"a\u002fb":0," ":1,"\"":2,"ä":3}`: {"", "/a~1b", "/ ", "/\"", "/ä"},
		"[0,1,2,3,4,5,6,7,8,9,10,11]":       {"", "/0", "/1", "/2", "/3", "/4", "/5", "/6", "/7", "/8", "/9", "/10", "/11"},
		`[{"a":1},{"a":2}]`:                 {"", "/0", "/0/a", "/1", "/1/a"},
	} {
		v := parsed(t, s)
		var got []string
		for pointer := range Walk(v) {
			got = append(got, pointer)
		}
		if !slices.Equal(got, want) {
			t.Errorf("Walk of %s: %q, not %q", s, got, want)
		}
		sameWalk(t, v, parts(v, ""))
	}
}

func TestWalkOfValues(t *testing.T) {
	for _, v := range values() {
		sameWalk(t, v, parts(v, ""))
	}
	long := array()
	for i := range 3000 {
		long.Kids = append(long.Kids, array(number(fmt.Sprint(i))))
	}
	sameWalk(t, long, parts(long, ""))
	deep := nest(1024, api.Object, text("a"))
	n := 0
	for pointer, v := range Walk(deep) {
		if pointer != strings.Repeat("/a", n) || Depth(v) != 1024-n {
			t.Fatalf("level %d: %.20q", n, pointer)
		}
		n++
	}
	if n != 1025 {
		t.Errorf("%d levels", n)
	}
}

func TestWalkOfWhatIsNotWellShaped(t *testing.T) {
	for _, v := range bad() {
		for pointer := range Walk(v) {
			t.Errorf("Walk(%s): %q", brief(v), pointer)
		}
	}
}

func TestWalkLeftInTheMiddle(t *testing.T) {
	v := parsed(t, `{"a":[1,{"b":[2,3]},4],"c":{},"a":[5]}`)
	want := parts(v, "")
	seq := Walk(v)
	for n := range len(want) + 1 {
		var got []told
		seq(func(pointer string, part api.Value) bool {
			if len(got) > n {
				t.Fatalf("left behind %d, and there is more", n)
			}
			got = append(got, told{pointer, show(part)})
			return len(got) <= n
		})
		if last := min(n+1, len(want)); !slices.Equal(got, want[:last]) {
			t.Fatalf("%d: %q", n, got)
		}
	}
	if got := walked(seq); !slices.Equal(got, want) {
		t.Errorf("begun again: %q", got)
	}
}

func TestWalkWithinItself(t *testing.T) {
	v := parsed(t, `{"a":[1,{"b":2}],"c":[]}`)
	want := parts(v, "")
	seq := Walk(v)
	n := 0
	for pointer, part := range seq {
		if got := (told{pointer, show(part)}); got != want[n] {
			t.Fatalf("%q", got)
		}
		if got := walked(seq); !slices.Equal(got, want) {
			t.Fatalf("within %q: %q", pointer, got)
		}
		sameWalk(t, part, parts(part, ""))
		n++
	}
	if n != len(want) {
		t.Error(n)
	}
}

func TestWalkInTwoRoundsAtOneTime(t *testing.T) {
	v := parsed(t, `[[1,2],{"a":{"b":3}},4]`)
	want := parts(v, "")
	seq := Walk(v)
	first, stopFirst := iter.Pull2(seq)
	second, stopSecond := iter.Pull2(seq)
	defer stopFirst()
	defer stopSecond()
	ask := func(next func() (string, api.Value, bool), i int) {
		pointer, part, ok := next()
		if i >= len(want) {
			if ok || pointer != "" || show(part) != show(api.Value{}) {
				t.Fatalf("%d: more", i)
			}
		} else if got := (told{pointer, show(part)}); !ok || got != want[i] {
			t.Fatalf("%d: %q", i, got)
		}
	}
	ask(first, 0)
	ask(first, 1)
	for i := range len(want) + 1 {
		ask(second, i)
		ask(first, i+2)
	}
}

// scribble: writes over all that is in a value's lists, and the room behind them.
func scribble(v api.Value) {
	for _, kid := range v.Kids {
		scribble(kid)
	}
	keys, kids := v.Keys[:cap(v.Keys)], v.Kids[:cap(v.Kids)]
	for i := range keys {
		keys[i] = "scribbled"
	}
	for i := range kids {
		kids[i] = api.Value{Kind: -3, Raw: "scribbled"}
	}
}

// An iterator shows what was there when Walk was called.
func TestWalkOfAValueThatIsChanged(t *testing.T) {
	const s = `{"a":[1,{"b":[2,3]},4],"c":{"d":[]},"a":[5]}`
	want := parts(parsed(t, s), "")
	v := parsed(t, s)
	seq := Walk(v)
	scribble(v)
	if got := walked(seq); !slices.Equal(got, want) {
		t.Errorf("changed ahead of the round: %q", got)
	}
	for n := range want {
		v := parsed(t, s)
		seq := Walk(v)
		var got []told
		for pointer, part := range seq {
			got = append(got, told{pointer, show(part)})
			if len(got) == n+1 {
				scribble(v)
			}
		}
		if !slices.Equal(got, want) {
			t.Errorf("changed behind the part %d: %q", n, got)
		}
	}
	// Whether it is well shaped is asked then, too.
	v = array(number("1"))
	seq = Walk(v)
	v.Kids[0].Raw = "01"
	if got := walked(seq); len(got) != 2 {
		t.Errorf("spoilt afterwards: %q", got)
	}
	seq = Walk(v)
	v.Kids[0].Raw = "1"
	if got := walked(seq); len(got) != 0 {
		t.Errorf("mended afterwards: %q", got)
	}
}

// What it hands over is the caller's own: neither later parts, nor other rounds, nor the value are changed by what is done with it.
func TestWalkHandsOverWhatIsTheCallersOwn(t *testing.T) {
	for _, v := range values() {
		want, before := parts(v, ""), show(v)
		seq := Walk(v)
		for range 2 {
			var got []told
			var kept []api.Value
			for pointer, part := range seq {
				got = append(got, told{pointer, show(part)})
				kept = append(kept, part)
			}
			for i, part := range kept {
				if show(part) != want[i].part {
					t.Fatalf("%s: the part %d is changed", brief(v), i)
				}
				scribble(part)
			}
			if !slices.Equal(got, want) || show(v) != before {
				t.Fatalf("Walk(%s): %.300q", brief(v), got)
			}
			got = nil
			for pointer, part := range seq {
				got = append(got, told{pointer, show(part)})
				scribble(part)
			}
			if !slices.Equal(got, want) || show(v) != before {
				t.Fatalf("Walk(%s), scribbled on: %.300q", brief(v), got)
			}
		}
	}
}

// P17.6

func TestWhatParseAnswersIsWellShaped(t *testing.T) {
	for _, s := range documents() {
		for _, depth := range []int{1, 2, 3, 1024} {
			v, verdict, _ := Parse(s, depth)
			if verdict.Code == api.Valid && (!Formed(v) || !wellShaped(v) || Depth(v) > depth || Depth(v) != valid.Depth(s)) {
				t.Fatalf("Parse(%q, %d) = %s", s, depth, brief(v))
			}
			if verdict.Code != api.Valid && (Formed(v) || Depth(v) != 0) {
				t.Fatalf("Parse(%q, %d) = %s", s, depth, brief(v))
			}
		}
	}
}

func TestAlikeIsALikeness(t *testing.T) {
	list := values()
	var r rule = 33
	for _, v := range list[:120] {
		list = append(list, r.likened(v))
	}
	n := len(list)
	table := make([][]bool, n)
	for i, a := range list {
		table[i] = make([]bool, n)
		for j, b := range list {
			table[i][j] = Alike(a, b)
			if Same(a, b) && !table[i][j] {
				t.Fatalf("%s and %s are the same, and not alike", brief(a), brief(b))
			}
		}
		if !table[i][i] {
			t.Fatalf("%s isn't alike to itself", brief(a))
		}
	}
	for i := range n {
		for j := range n {
			if table[i][j] != table[j][i] {
				t.Fatalf("%s and %s are alike one way round", brief(list[i]), brief(list[j]))
			}
			if !table[i][j] {
				continue
			}
			// What is alike to the one is alike to the other.
			if !slices.Equal(table[i], table[j]) {
				t.Fatalf("%s and %s are alike, and not to the same ones", brief(list[i]), brief(list[j]))
			}
		}
	}
}

func TestWalkTellsCountParts(t *testing.T) {
	for _, v := range values() {
		n := 0
		for range Walk(v) {
			n++
		}
		if n != Count(v) {
			t.Errorf("Walk(%s) tells %d of %d", brief(v), n, Count(v))
		}
	}
}

func TestBlanksOutsideOfTextsChangeNothing(t *testing.T) {
	for n := range 500 {
		a, b := rule(n), rule(n)
		var other rule = 8
		one := a.document(n%6, func() string { return "" })
		two := b.document(n%6, other.blank)
		if v, w := parsed(t, one), parsed(t, two); !Same(v, w) || show(v) != show(w) || !Alike(v, w) {
			t.Fatalf("%q and %q", one, two)
		}
	}
	if Same(parsed(t, `" a"`), parsed(t, `"a "`)) || Same(parsed(t, `{"a ":1}`), parsed(t, `{"a":1}`)) {
		t.Error("blanks inside of texts")
	}
}

// Each text's own value: what stands between its quotes, unescaped.
func TestTextsAreWhatUnescapeSays(t *testing.T) {
	for _, q := range names {
		want, e := texts.Unescape(q[1 : len(q)-1])
		if e != api.OK {
			t.Fatal(q, e)
		}
		sameParse(t, "{"+q+":"+q+"}", object(want, text(want)))
	}
}

// Memory

// roomy: the same value in lists with room behind them, in which something stands.
func roomy(v api.Value) api.Value {
	keys := append(slices.Clone(v.Keys), "room", "room")
	v.Keys = keys[:len(v.Keys)]
	kids := append(slices.Clone(v.Kids), text("room"), text("room"))
	v.Kids = kids[:len(v.Kids)]
	for i, kid := range v.Kids {
		v.Kids[i] = roomy(kid)
	}
	return v
}

// withRoom: the struct's text, and that of what stands behind its lists.
func withRoom(v api.Value) string {
	w := v
	w.Keys, w.Kids = v.Keys[:len(v.Keys)+2], slices.Clone(v.Kids[:len(v.Kids)+2])
	s := show(w)
	for _, kid := range v.Kids {
		s += withRoom(kid)
	}
	return s
}

func TestWhatComesInStays(t *testing.T) {
	for _, v := range slices.Concat(values(), bad()) {
		if Depth(v) > 100 || Count(v) > 500 {
			continue
		}
		a, b := roomy(v), roomy(v)
		before := withRoom(a)
		Formed(a)
		Depth(a)
		Count(a)
		Same(a, b)
		Alike(a, b)
		for _, name := range append(v.Keys, "room", "nobody") {
			w, _ := Member(a, name)
			scribble(w)
		}
		for _, part := range Walk(a) {
			scribble(part)
		}
		if withRoom(a) != before || withRoom(b) != before {
			t.Fatalf("%s is changed", brief(v))
		}
	}
}

// fill: writes into the room behind all lists of a value.
func fill(v api.Value) {
	for _, kid := range v.Kids {
		fill(kid)
	}
	for keys := v.Keys[len(v.Keys):cap(v.Keys)]; len(keys) > 0; keys = keys[1:] {
		keys[0] = "filled"
	}
	for kids := v.Kids[len(v.Kids):cap(v.Kids)]; len(kids) > 0; kids = kids[1:] {
		kids[0] = api.Value{Kind: -4}
	}
}

func TestAnswersShareNothing(t *testing.T) {
	for _, s := range documents() {
		a, b := parsed(t, s), parsed(t, s)
		want := show(a)
		fill(a)
		if show(a) != want {
			t.Fatalf("Parse(%q): the room behind a list is another one's", s)
		}
		scribble(a)
		if show(b) != want {
			t.Fatalf("Parse(%q): two answers share a list", s)
		}
	}
	for _, kid := range append(values(), full()) {
		v := object("b", kid, "a", kid)
		before, want := show(v), show(kid)
		a, _ := Member(v, "a")
		b, _ := Member(v, "a")
		c, _ := Member(v, "b")
		fill(a)
		if show(a) != want {
			t.Fatalf("Member(%s): the room behind a list is another one's", brief(v))
		}
		scribble(a)
		if show(b) != want || show(c) != want || show(v) != before {
			t.Fatalf("Member(%s): the answer is somebody else's, too", brief(v))
		}
	}
	// Lists of one answer lie apart though they were one list in what came in.
	kids := []api.Value{null()}
	v := object("a", array(api.Value{Kind: api.Array, Kids: kids}, api.Value{Kind: api.Array, Kids: kids}))
	w, _ := Member(v, "a")
	w.Kids[0].Kids[0] = text("x")
	if show(w.Kids[1]) != show(array(null())) {
		t.Error("Member: two lists of one answer are one")
	}
	for pointer, part := range Walk(v) {
		if pointer == "/a" {
			part.Kids[0].Kids[0] = text("x")
			if show(part.Kids[1]) != show(array(null())) {
				t.Error("Walk: two lists of one answer are one")
			}
		}
	}
}

// textsOf: all texts of a value.
func textsOf(v api.Value) []string {
	list := append([]string{v.Raw, v.Text}, v.Keys...)
	for _, kid := range v.Kids {
		list = append(list, textsOf(kid)...)
	}
	return list
}

// lieApart: no text of the one list has a byte in common with one of the other.
func lieApart(t *testing.T, answer, given []string) {
	t.Helper()
	for _, a := range answer {
		for _, b := range given {
			from, at := uintptr(unsafe.Pointer(unsafe.StringData(b))), uintptr(unsafe.Pointer(unsafe.StringData(a)))
			if a != "" && at >= from && at < from+uintptr(len(b)) {
				t.Fatalf("%.40q lies in %.40q, which came in", a, b)
			}
		}
	}
}

func TestAnswersHoldOnToNoText(t *testing.T) {
	s := strings.Clone(`{"name":["text",12.50,{"a\u0062":"\n"}],"other":-7e9,"~/":"x"}`)
	v := parsed(t, s)
	lieApart(t, textsOf(v), []string{s})
	w, _ := Member(v, "name")
	lieApart(t, textsOf(w), textsOf(v))
	for pointer, part := range Walk(v) {
		lieApart(t, append(textsOf(part), pointer), textsOf(v))
	}
}

// Sameness

// asked: all that the calls answer.
func asked(s string, v, w api.Value) string {
	a, verdict, e := Parse(s, 3)
	kid, ok := Member(v, "a")
	return fmt.Sprint(show(a), verdict, e, Formed(v), Depth(v), Count(v), Same(v, w), Alike(v, w), show(kid), ok, walked(Walk(v)))
}

func TestTheSameAgainWhateverElseRuns(t *testing.T) {
	list := values()
	var r rule = 40
	others := make([]api.Value, len(list))
	for i, v := range list {
		others[i] = r.likened(v)
	}
	docs := documents()
	want := make([]string, len(list))
	for i, v := range list {
		want[i] = asked(docs[i], v, others[i])
	}
	shared := Walk(list[len(list)-1])
	all := walked(shared)
	var group sync.WaitGroup
	for k := range 8 {
		group.Go(func() {
			for i := range len(list) {
				at := (i*7 + k) % len(list)
				if got := asked(docs[at], list[at], others[at]); got != want[at] {
					t.Errorf("%s: %.300s, not %.300s", brief(list[at]), got, want[at])
				}
			}
			if got := walked(shared); !slices.Equal(got, all) {
				t.Errorf("one iterator: %q", got)
			}
		})
	}
	group.Wait()
}

func ExampleParse() {
	v, verdict, err := Parse(`{"a": [1.50, "b\u0063"]}`, 5)
	fmt.Println(v.Keys, v.Kids[0].Kids[0].Raw, v.Kids[0].Kids[1].Text, verdict, err)
	_, verdict, err = Parse("[1,]", 5)
	fmt.Println(verdict, err)
	// Output:
	// [a] 1.50 bc {1 24} 0
	// {2 3} 0
}

func ExampleAlike() {
	a, _, _ := Parse(`{"a": 1.0, "b": 2}`, 5)
	b, _, _ := Parse(`{"b": 2, "a": 1, "a": 3}`, 5)
	fmt.Println(Same(a, b), Alike(a, b))
	// Output:
	// false true
}

func ExampleMember() {
	v, _, _ := Parse(`{"a": 1, "a": 2}`, 5)
	kid, ok := Member(v, "a")
	fmt.Println(kid.Raw, ok)
	// Output:
	// 1 true
}

func ExampleWalk() {
	v, _, _ := Parse(`{"a": [true], "x/y": 1}`, 5)
	for pointer, part := range Walk(v) {
		fmt.Printf("%q %d\n", pointer, part.Kind)
	}
	// Output:
	// "" 6
	// "/a" 5
	// "/a/0" 2
	// "/x~1y" 3
}
