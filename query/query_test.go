package query

import (
	"fmt"
	"math"
	"slices"
	"strconv"
	"strings"
	"sync"
	"testing"
	"time"

	"quarry/api"
	"quarry/pointer"
	"quarry/texts"
	"quarry/tree"
	"quarry/valid"
)

// The exact types.
var (
	_ func(string, int, int, []string) ([]api.Hit, api.Verdict, api.Errno) = Run
	_ func(string, api.Span) ([]api.Span, []api.Span, api.Errno)           = Members
	_ func(string, api.Span) ([]api.Span, api.Errno)                       = Elements
)

// The documents of the chapter's examples and of the document's.
const (
	doc   = `{"a":[1,{"b":null}],"c/d":2,"a":3}`
	whole = `{"id": 7, "tags": ["a", "b\u0063"], "pos": {"x": -1.50, "y": 1e2}}`
)

// some levels to ask with: the ends, and those about which most documents of the tests lie.
var some = []int{1, 2, 3, 5, 64}

func span(from, to int) api.Span { return api.Span{From: from, To: to} }

// at: a hit.
func at(from, to int) api.Hit { return api.Hit{Found: true, Span: span(from, to)} }

// spans: of numbers in twos.
func spans(l ...int) []api.Span {
	var list []api.Span
	for i := 0; i < len(l); i += 2 {
		list = append(list, span(l[i], l[i+1]))
	}
	return list
}

// same: does Run answer that?
func same(t *testing.T, s string, depth, levels int, pointers []string, want answer) {
	t.Helper()
	if got := run(s, depth, levels, pointers...); got.text() != want.text() {
		t.Fatalf("Run(%.200q, %d, %d, %.300q): %.400s, not %.400s", s, depth, levels, pointers, got.text(), want.text())
	}
}

// asPlain: does Run answer what the chapter's words say?
func asPlain(t *testing.T, s string, depth int, levels []int, pointers ...string) {
	t.Helper()
	want := plain(s, depth, 1, pointers...)
	for _, n := range levels {
		same(t, s, depth, n, pointers, want)
	}
}

// finds: is just this text what a pointer finds? That none other in the document is meant, the caller sees to.
func finds(t *testing.T, s, p, want string) {
	t.Helper()
	for _, n := range some {
		got := run(s, 1024, n, p)
		if got.e != api.OK || len(got.hits) != 1 || !got.hits[0].Found || s[got.hits[0].Span.From:got.hits[0].Span.To] != want {
			t.Fatalf("Run(%.200q, %d, %.200q): %s, not %.100q", s, n, p, got.text(), want)
		}
	}
	asPlain(t, s, 1024, some, p)
}

// findsNone: does a pointer lead nowhere?
func findsNone(t *testing.T, s, p string) {
	t.Helper()
	for _, n := range some {
		same(t, s, 1024, n, []string{p}, answer{hits: []api.Hit{{}}, verdict: api.Verdict{Code: api.Valid, At: len(s)}})
	}
}

// takes: does Members of a {, Elements of a [, answer that?
func takes(t *testing.T, kind byte, s string, in api.Span, want parts) {
	t.Helper()
	if got := taken(kind, s, in); got.text() != want.text() {
		t.Fatalf("%c of %.200q at %v: %.400s, not %.400s", kind, s, in, got.text(), want.text())
	}
}

// P21.1

func TestRunExamples(t *testing.T) {
	six := []string{"", "/a", "/a/1/b", "/c~1d", "/a/2", "/x"}
	want := answer{hits: []api.Hit{at(0, 34), at(5, 19), at(13, 17), at(26, 27), {}, {}}, verdict: api.Verdict{Code: api.Valid, At: 34}}
	same(t, doc, 3, 1, six, want)
	same(t, doc, 3, 64, six, want)
	same(t, doc, 2, 1, []string{""}, answer{verdict: api.Verdict{Code: api.TooDeep, At: 8}})
	same(t, doc, 0, 1, nil, answer{e: api.ErrRange})
	same(t, doc, 1, 65, nil, answer{e: api.ErrRange})
	same(t, doc, 1, 1, make([]string, 257), answer{e: api.ErrRange})
	same(t, doc, 1, 1, []string{"a"}, answer{e: api.ErrPointer})
	same(t, "{", 1, 1, []string{""}, answer{verdict: api.Verdict{Code: api.Invalid, At: 1}})
}

func TestRunExampleOfTheWhole(t *testing.T) {
	for _, levels := range []int{1, 64} {
		same(t, whole, 9, levels, []string{"/tags/1", "/pos/x", "/pos", "/nope", "/tags/2"},
			answer{hits: []api.Hit{at(24, 33), at(49, 54), at(43, 65), {}, {}}, verdict: api.Verdict{Code: api.Valid, At: 66}})
	}
}

func TestRunOfNumbersThatCantBeMeant(t *testing.T) {
	far := []int{math.MinInt, math.MinInt32, -1024, -64, -2, -1, 0, math.MaxInt32, math.MaxInt}
	for _, s := range []string{"1", doc, "{", "", nested(1025, "array", "")} {
		for _, p := range [][]string{nil, {""}, {"/a"}, {"a"}, {"/a", "/~"}} {
			for _, n := range append(far, 1025, 1026, 2048) {
				same(t, s, n, 1, p, answer{e: api.ErrRange})
				same(t, s, n, 64, p, answer{e: api.ErrRange})
			}
			for _, n := range append(far, 65, 66, 128, 1024) {
				same(t, s, 1, n, p, answer{e: api.ErrRange})
				same(t, s, 1024, n, p, answer{e: api.ErrRange})
			}
		}
	}
	for _, n := range []int{1, 2, 1023, 1024} {
		for _, m := range []int{1, 2, 63, 64} {
			same(t, "[1]", n, m, []string{"/0"}, answer{hits: []api.Hit{at(1, 2)}, verdict: api.Verdict{Code: api.Valid, At: 3}})
		}
	}
}

func TestRunOfManyPointers(t *testing.T) {
	s := `{"a":[10,11,12],"b":{"c":null}}`
	list := []string{"", "/a", "/a/0", "/a/2", "/a/3", "/b/c", "/b/c/d", "/x"}
	var many []string
	for i := range 256 {
		many = append(many, list[i%len(list)])
	}
	for _, n := range []int{0, 1, 2, 255, 256} {
		asPlain(t, s, 2, some, many[:n]...)
	}
	for _, n := range []int{257, 258, 512, 100000} {
		same(t, s, 2, 1, make([]string, n), answer{e: api.ErrRange})
		// Neither a text that is no pointer nor one that is no document goes ahead of that.
		same(t, s, 2, 1, append(make([]string, n-1), "a"), answer{e: api.ErrRange})
		same(t, "{", 2, 1, make([]string, n), answer{e: api.ErrRange})
	}
}

func TestRunOfTextsThatAreNoPointers(t *testing.T) {
	for _, bad := range notPointers {
		for _, s := range []string{doc, "1", "", "{", "[[[]]]"} {
			for _, list := range [][]string{{bad}, {bad, "", "/a"}, {"", bad, "/a"}, {"", "/a", bad}, {bad, bad}} {
				for _, n := range some {
					same(t, s, 1, n, list, answer{e: api.ErrPointer})
				}
			}
			last := append(make([]string, 255), bad)
			same(t, s, 1024, 64, last, answer{e: api.ErrPointer})
			same(t, s, 1025, 64, last, answer{e: api.ErrRange})
			same(t, s, 0, 64, last, answer{e: api.ErrRange})
			same(t, s, 1, 0, last, answer{e: api.ErrRange})
			same(t, s, 1, 1, append(last, ""), answer{e: api.ErrRange})
		}
	}
}

func TestRunOfWhatIsNoDocument(t *testing.T) {
	for _, x := range none {
		for _, n := range []int{1, 2, 1024} {
			for _, list := range [][]string{nil, {""}, {"/a", "/0", ""}} {
				for _, levels := range some {
					same(t, x.s, n, levels, list, answer{verdict: api.Verdict{Code: api.Invalid, At: x.at}})
				}
			}
		}
	}
}

func TestRunOfDocumentsThatAreTooDeep(t *testing.T) {
	for _, kind := range []string{"array", "object", "both"} {
		for _, n := range []int{1, 2, 3, 63, 64, 65, 1023, 1024, 1025, 1100} {
			for _, inner := range []string{"1", "[]", "{}"} {
				s := nested(n, kind, inner)
				deep := valid.Depth(s)
				for _, depth := range []int{1, deep - 1, deep, deep + 1, 1024} {
					if depth < 1 || depth > 1024 {
						continue
					}
					verdict, many := api.Valid, 2
					if depth < deep {
						verdict, many = api.TooDeep, 0
					}
					for _, levels := range []int{1, 64} {
						got := run(s, depth, levels, "", wayDown(1, kind))
						if got.e != api.OK || got.verdict.Code != verdict || len(got.hits) != many {
							t.Fatalf("%d levels of %s with %d: %s", deep, kind, depth, got.text())
						}
					}
					if deep <= 1024 {
						asPlain(t, s, depth, []int{1, 64}, "", wayDown(1, kind), wayDown(2, kind))
					}
				}
			}
		}
	}
	same(t, "[[[]],1]", 2, 1, []string{""}, answer{verdict: api.Verdict{Code: api.TooDeep, At: 2}})
	same(t, "[[[]],1]", 1, 64, []string{"", "/1"}, answer{verdict: api.Verdict{Code: api.TooDeep, At: 1}})
	same(t, "[[[]],1]", 3, 1, []string{"/1"}, answer{hits: []api.Hit{at(6, 7)}, verdict: api.Verdict{Code: api.Valid, At: 8}})
}

// Blanks of all four kinds around all that is in a document: the same is found, without them.
func TestRunOfBlanksAround(t *testing.T) {
	const tokens = `{|"a"|:|[|1|,|{|"b"|:|null|}|,|"x y"|]|,|"c d"|:|{|}|,|"e"|:|[|]|}`
	list := []string{"", "/a", "/a/0", "/a/1", "/a/1/b", "/a/2", "/a/3", "/c d", "/e", "/c d/x", "/e/0"}
	found := []string{"", "", "1", "", "null", `"x y"`, "-", "", "", "-", "-"}
	for _, blank := range []string{"", " ", "\t", "\n", "\r", "\r\n", " \t\n\r ", strings.Repeat(" ", 63), strings.Repeat("\n", 64), strings.Repeat("\t", 65)} {
		s := blank + strings.ReplaceAll(tokens, "|", blank) + blank
		asPlain(t, s, 3, some, list...)
		for i, p := range list {
			switch found[i] {
			case "":
			case "-":
				findsNone(t, s, p)
			default:
				finds(t, s, p, found[i])
			}
		}
		finds(t, s, "", strings.Trim(s, " \t\n\r"))
		finds(t, s, "/c d", "{"+blank+"}")
		finds(t, s, "/e", "["+blank+"]")
		for _, x := range scalars {
			finds(t, blank+x+blank, "", x)
			finds(t, "["+blank+x+blank+"]", "/0", x)
			finds(t, "{"+blank+`""`+blank+":"+blank+x+blank+"}", "/", x)
		}
	}
}

func TestRunOfTheEmptyPointer(t *testing.T) {
	for _, s := range documents() {
		finds(t, s, "", strings.Trim(s, " \t\n\r"))
	}
}

func TestRunOfTheSamePointerTwice(t *testing.T) {
	same(t, doc, 3, 1, []string{"/a", "/a", "/x", "/a/0", "/x", "/a", "", ""},
		answer{hits: []api.Hit{at(5, 19), at(5, 19), {}, at(6, 7), {}, at(5, 19), at(0, 34), at(0, 34)}, verdict: api.Verdict{Code: api.Valid, At: 34}})
}

func TestRunOfNamesThatStandTwice(t *testing.T) {
	finds(t, `{"a":1,"a":2}`, "/a", "1")
	finds(t, `{"b":0,"a":1,"b":2,"a":3}`, "/a", "1")
	finds(t, `{"b":0,"a":1,"b":2,"a":3}`, "/b", "0")
	finds(t, `{"":1,"":2}`, "/", "1")
	// Written otherwise, it is the same name.
	finds(t, `{"\u0061":1,"a":2}`, "/a", "1")
	finds(t, `{"a":1,"\u0061":2}`, "/a", "1")
	finds(t, `{"\ud800":1,"\udfff":2,"`+"\ufffd"+`":3}`, "/\ufffd", "1")
	finds(t, `{"\/":1,"/":2,"\u002F":3}`, "/~1", "1")
	// It is the first one also where the pointer could go on below another one alone.
	findsNone(t, `{"a":1,"a":{"b":2}}`, "/a/b")
	findsNone(t, `{"a":{"c":1},"a":{"b":2}}`, "/a/b")
	findsNone(t, `{"a":[],"a":[1]}`, "/a/0")
	findsNone(t, `{"a":null,"a":[1]}`, "/a/0")
	findsNone(t, `{"a":{},"a":{"a":1}}`, "/a/a")
	finds(t, `{"a":{"b":1},"a":{"b":2}}`, "/a/b", "1")
	finds(t, `{"a":[{"b":1,"b":[]}],"a":{"0":{"b":2}}}`, "/a/0/b", "1")
	finds(t, `{"a":{"0":5},"a":[6]}`, "/a/0", "5")
	finds(t, `{"a":[6],"a":{"0":5}}`, "/a/0", "6")
	// Whoever asks first, and for what.
	s := `{"a":1,"b":{"a":2,"a":3},"a":4,"c":5,"b":6,"c":7}`
	for _, list := range [][]string{{"/a", "/b", "/c"}, {"/c", "/b", "/a"}, {"/x", "/a", "/b", "/b/a", "/c"}, {"/b/a", "/c", "/x", "/b", "/a"}, {"/c", "/c", "/a", "/a"}} {
		asPlain(t, s, 2, some, list...)
	}
}

func TestRunOfNamesWithEscapes(t *testing.T) {
	for _, raw := range quoted {
		name := meaningOf(raw)
		finds(t, `{"`+raw+`":1}`, pointerOf(name), "1")
		finds(t, `{"x y":0,"`+raw+`" : [ "`+raw+`" ] }`, pointerOf(name, "0"), `"`+raw+`"`)
		finds(t, `[{"x y":{"`+raw+`":{"`+raw+`":2}}}]`, pointerOf("0", "x y", name, name), "2")
		if name != raw {
			findsNone(t, `{"`+raw+`":1}`, pointerOf(raw))
		}
		for _, other := range names {
			if other != name {
				findsNone(t, `{"`+raw+`":1}`, pointerOf(other))
			}
		}
	}
}

func TestRunOfWhatCountsOutsideAlone(t *testing.T) {
	for _, x := range []string{"[", "]", "{", "}", ":", ",", `\"`, `\\`, `\\\"`, "[[[[", "]]]]", "{}", `{\"a\":1}`, `\",\"b\":\"`, `\":1,\"b\":`, ",,,:::", "}{][", "],[", `\\\\`} {
		s := `{"` + x + `":["` + x + `",{"` + x + `":"` + x + `"},1],"b":"` + x + `","c` + x + `":[` + `"` + x + `" , 2]}`
		name := meaningOf(x)
		finds(t, s, "/b", `"`+x+`"`)
		finds(t, s, pointerOf(name, "0"), `"`+x+`"`)
		finds(t, s, pointerOf(name, "1", name), `"`+x+`"`)
		finds(t, s, pointerOf(name, "2"), "1")
		finds(t, s, pointerOf("c"+name, "1"), "2")
		findsNone(t, s, pointerOf("c"+name, "2"))
		findsNone(t, s, pointerOf(name, "3"))
		findsNone(t, s, "/a")
	}
}

func TestRunOfPlaces(t *testing.T) {
	s := "[10,[20,21],12,13,14,15,16,17,18,19,110]"
	for i := range 11 {
		want := "1" + strconv.Itoa(i)
		if i == 1 {
			want = "[20,21]"
		}
		finds(t, s, "/"+strconv.Itoa(i), want)
		findsNone(t, s, "/0"+strconv.Itoa(i))
		findsNone(t, s, "/00"+strconv.Itoa(i))
		findsNone(t, s, "/-"+strconv.Itoa(i))
		findsNone(t, s, "/+"+strconv.Itoa(i))
		findsNone(t, s, "/"+strconv.Itoa(i)+" ")
		findsNone(t, s, "/"+strconv.Itoa(i)+".0")
		findsNone(t, s, "/"+strconv.Itoa(i)+"e0")
	}
	finds(t, s, "/1/0", "20")
	finds(t, s, "/1/1", "21")
	for _, name := range []string{"11", "12", "100", "-", "", " ", "a", "length", "0x0", "1_0", "\xff", "\u0661", "\uff11", "9223372036854775807", "9223372036854775808", "18446744073709551616", "18446744073709551617",
		"99999999999999999", "100000000000000000", "999999999999999999", "1000000000000000000", "1000000000000000001", "9999999999999999999", "000000000000000000", "000000000000000001", "0000000000000000001", strings.Repeat("9", 400), "4294967296", "4294967297"} {
		findsNone(t, s, pointerOf(name))
		findsNone(t, s, pointerOf("1", name))
		findsNone(t, "[]", pointerOf(name))
		if name != "" {
			findsNone(t, "[]", pointerOf(name, "0"))
		}
	}
	findsNone(t, "[]", "/0")
	findsNone(t, "[ ]", "/0")
	findsNone(t, "[[]]", "/1")
	findsNone(t, "[[]]", "/0/0")
	finds(t, "[[]]", "/0", "[]")
	finds(t, "[0]", "/0", "0")
	findsNone(t, "[0]", "/1")
}

func TestRunOfPlacesInObjects(t *testing.T) {
	s := `{"0":"a","1":"b","01":"c","-":"d","999999999999999999":"e","1000000000000000000":"f","-1":"g"}`
	for i, name := range []string{"0", "1", "01", "-", "999999999999999999", "1000000000000000000", "-1"} {
		finds(t, s, "/"+name, `"`+string(rune('a'+i))+`"`)
	}
	for _, name := range []string{"2", "3", "6", "00", "001", "", "+1"} {
		findsNone(t, s, "/"+name)
	}
	findsNone(t, `{"a":1,"b":2}`, "/0")
	findsNone(t, `{"a":1,"b":2}`, "/1")
	findsNone(t, "{}", "/0")
}

func TestRunBelowWhatHasNoParts(t *testing.T) {
	for _, x := range append(slices.Clone(scalars), `"a"`, `"[0]"`, `"{\"a\":1}"`, "[]", "{}", "[ ]", "{\n}") {
		for _, name := range append(slices.Clone(names), "0", "-", "length") {
			p := pointerOf(name)
			findsNone(t, x, p)
			findsNone(t, x, p+p)
			findsNone(t, "["+x+",[1],{}]", "/0"+p)
			findsNone(t, `{"a":`+x+`,"b":{"a":1}}`, "/a"+p)
			findsNone(t, `[[{"a": `+x+` }]]`, "/0/0/a"+p+"/a")
		}
	}
}

func TestRunOfManyLevels(t *testing.T) {
	all := []int{1, 2, 3, 7, 31, 32, 33, 62, 63, 64}
	for _, kind := range []string{"array", "object", "both"} {
		for _, n := range []int{1, 2, 3, 4, 62, 63, 64, 65, 66, 127, 128, 129, 130, 1022, 1023, 1024} {
			s := nested(n, kind, `"x"`)
			var list []string
			for _, k := range []int{0, 1, 2, 3, 61, 62, 63, 64, 65, 66, 67, 127, 128, 129, 1021, 1022, 1023, 1024, 1025, 1026, n - 1, n, n + 1} {
				list = append(list, wayDown(k, kind), wayDown(k, kind)+"/x")
			}
			asPlain(t, s, 1024, all, list...)
			slices.Reverse(list)
			asPlain(t, s, n, all, list...)
			finds(t, s, wayDown(n, kind), `"x"`)
			findsNone(t, s, wayDown(n+1, kind))
		}
	}
}

// Levels with more than one part each: the deepest first, last, and in between.
func TestRunOfManyLevelsWithParts(t *testing.T) {
	for _, n := range []int{1, 2, 5, 63, 64, 65, 70, 200, 1000} {
		for _, x := range []struct{ ahead, behind, step string }{
			{`[1,[`, `,"]"],2]`, "/1/0"},
			{`{"a":[0,{}],"b":`, `,"c":{"b":1}}`, "/b"},
			{` { "\"" : "," , "x" : [ `, ` ] , "x" : [ 5 ] } `, "/x/0"},
			{`[[[1],[2,[3]]],`, `]`, "/1"},
		} {
			per := strings.Count(x.step, "/")
			k := n / per
			s := strings.Repeat(x.ahead, k) + `"deep"` + strings.Repeat(x.behind, k)
			var list []string
			for i := 0; i <= k; i += 1 + k/20 {
				down := strings.Repeat(x.step, i)
				list = append(list, down, down+"/1", down+"/a", down+"/a/1", down+"/c/b", down+"/0", down+"/0/1/1/0")
			}
			asPlain(t, s, 1024, []int{1, 2, 3, 63, 64}, list[:min(256, len(list))]...)
			finds(t, s, strings.Repeat(x.step, k), `"deep"`)
		}
	}
}

// All that a document has, moved over the ends of blocks of 64 bytes.
func TestRunOverTheEndsOfBlocks(t *testing.T) {
	var r rule = 211
	for _, s := range []string{doc, whole, `{"\\\"":["\\",{"\"":1}],"b":[[],{}]}`, "[1,2,[3,[4,[5,[6]]]]]", `{"a":{"b":{"c":{"d":[{"e":"\""}]}}}}`} {
		list := r.asked(s)
		for n := range 131 {
			asPlain(t, strings.Repeat(" ", n)+s+strings.Repeat("\n", n), 9, []int{1, 2, 64}, list...)
			var moved []string
			for _, p := range list {
				moved = append(moved, "/1"+p, "/x"+p)
			}
			asPlain(t, `["`+strings.Repeat("x", n)+`",`+s+`]`, 9, []int{1, 2, 64}, moved[:min(256, len(moved))]...)
			asPlain(t, `{"`+strings.Repeat(`\"`, n)+`":0,"x":`+s+`}`, 9, []int{1, 2, 64}, moved[:min(256, len(moved))]...)
		}
	}
}

func TestRunOfDocuments(t *testing.T) {
	var r rule = 212
	for _, s := range documents() {
		asPlain(t, s, 1024, some, r.asked(s)...)
		asPlain(t, s, 1+r.below(5), some, r.asked(s)...)
	}
}

// Every text of a few parts: documents and others.
func TestRunOfShortTexts(t *testing.T) {
	list := []string{"", "/a", "/a/a", "/a/0", "/0", "/1", "/0/0", "/0/a", "/"}
	for _, s := range append(rows(6, "{", "}", "[", "]", `"a":`, ",", "1"), rows(6, "[", "]", " ", `"a"`, ",", "{}")...) {
		asPlain(t, s, 2, []int{1, 2}, list...)
	}
}

// P21.2 and P21.3

func TestMembersExamples(t *testing.T) {
	takes(t, '{', doc, span(0, 34), parts{names: spans(2, 3, 21, 24, 29, 30), values: spans(5, 19, 26, 27, 32, 33)})
	takes(t, '{', doc, span(8, 18), parts{names: spans(10, 11), values: spans(13, 17)})
	takes(t, '{', doc, span(5, 19), parts{e: api.ErrKind})
	takes(t, '{', doc, span(0, 33), parts{e: api.ErrKind})
	takes(t, '{', doc, span(8, 19), parts{e: api.ErrKind})
	takes(t, '{', doc, span(4, 3), parts{e: api.ErrRange})
	takes(t, '{', doc, span(0, 35), parts{e: api.ErrRange})
}

func TestElementsExamples(t *testing.T) {
	takes(t, '[', doc, span(5, 19), parts{values: spans(6, 7, 8, 18)})
	takes(t, '[', "[]", span(0, 2), parts{})
	takes(t, '[', " [] ", span(0, 4), parts{e: api.ErrKind})
}

func TestPartsOfSpansThatAreNone(t *testing.T) {
	for _, kind := range []byte("{[") {
		for _, s := range []string{"", "{}", "[]", doc, "x", `{"a":[]}`} {
			n := len(s)
			for _, in := range spans(-1, n, -1, -1, -1, 0, 0, n+1, n, n+1, n+1, n+1, n+1, n, n+1, n+2, 1, 0, 0, -1, math.MinInt, n, 0, math.MaxInt, math.MaxInt, math.MinInt, math.MaxInt, math.MaxInt, math.MinInt, math.MaxInt, math.MinInt, math.MinInt) {
				takes(t, kind, s, in, parts{e: api.ErrRange})
			}
			for i := range n + 1 {
				takes(t, kind, s, span(i, i), parts{e: api.ErrKind})
			}
		}
	}
}

// Every span of a text, and some beyond.
func TestPartsOfEverySpan(t *testing.T) {
	list := []string{doc, whole, "", "1", "[]", "{}", " { } ", "[ [ ] , { } ]", `{"a":{"b":[]},"c":{}}`, `["{}","[]",{"[]":"{}"}]`, `[1,2],[3,4]`, `{"a":1},{"b":2}`, `{"a":[1,2}`, "[[[]]]", "}{", "][", `{"\"":"\\","\\\"":[]}`, "{\"\xff\":1}", `["\x"]`}
	for _, s := range list {
		for from := -1; from <= len(s)+1; from++ {
			for to := -1; to <= len(s)+1; to++ {
				in := span(from, to)
				takes(t, '{', s, in, plainParts('{', s, in))
				takes(t, '[', s, in, plainParts('[', s, in))
			}
		}
	}
}

func TestPartsOfWhatIsNoneOfTheKind(t *testing.T) {
	for _, s := range append(slices.Clone(scalars), "[1]", "[]", "[{}]", ` {"a":1}`, `{"a":1} `, "\n{}", "{}\t", "{", "}", "{]", "[}", `{"a"}`, `{"a":1,}`, `{,}`, `{"a":}`, `{"a":1}{"a":1}`, `{}{}`, `{},{}`, `{"a":01}`, "{\"\xff\":1}", `{"\x":1}`, `{"a":{]}`, "{\"a\":\"\n\"}", "{1:2}", `{"a":[}`) {
		takes(t, '{', s, span(0, len(s)), parts{e: api.ErrKind})
		takes(t, '{', "xx"+s+"}", span(2, 2+len(s)), parts{e: api.ErrKind})
	}
	for _, s := range append(slices.Clone(scalars), `{"a":1}`, "{}", `{"a":[]}`, " [1]", "[1] ", "\n[]", "[]\t", "[", "]", "{]", "[}", "[1,]", "[,]", "[,1]", "[1 2]", "[1][1]", "[][]", "[],[]", "[01]", "[\"\xff\"]", `["\x"]`, "[{]]", "[\"\n\"]", `["a":1]`, `[[}]`) {
		takes(t, '[', s, span(0, len(s)), parts{e: api.ErrKind})
		takes(t, '[', "xx"+s+"]", span(2, 2+len(s)), parts{e: api.ErrKind})
	}
}

func TestPartsOfManyLevels(t *testing.T) {
	for _, n := range []int{1, 2, 63, 64, 65, 1023, 1024} {
		s := nested(n, "object", "1")
		takes(t, '{', s, span(0, len(s)), parts{names: spans(2, 3), values: spans(5, len(s)-1)})
		takes(t, '{', "["+s+"]", span(1, len(s)+1), parts{names: spans(3, 4), values: spans(6, len(s))})
		s = nested(n, "array", "1")
		takes(t, '[', s, span(0, len(s)), parts{values: spans(1, len(s)-1)})
		takes(t, '[', "["+s+"]", span(1, len(s)+1), parts{values: spans(2, len(s))})
	}
	for _, n := range []int{1025, 1026, 2000} {
		s := nested(n, "object", "1")
		takes(t, '{', s, span(0, len(s)), parts{e: api.ErrKind})
		// What lies within is not too deep.
		by := 5 * (n - 1024)
		takes(t, '{', s, span(by, len(s)-n+1024), parts{names: spans(by+2, by+3), values: spans(by+5, len(s)-n+1023)})
		s = nested(n, "array", "1")
		takes(t, '[', s, span(0, len(s)), parts{e: api.ErrKind})
		takes(t, '[', s, span(n-1024, len(s)-n+1024), parts{values: spans(n-1023, len(s)-n+1023)})
	}
}

// Around a span may stand anything: it isn't looked at.
func TestPartsAreTakenByThemselves(t *testing.T) {
	object, list := `{ "a" : [1,{"b":2}] , "a":"," , "\u0061" : {} }`, `[ 1 ,[2,3], {"a":[4,5]} ,"," ]`
	for _, ahead := range []string{"", " ", `"`, `\`, `\"`, "{", "[", "}", "]", ",", ":", "x", "\xff", "\x00", strings.Repeat("[", 2000), strings.Repeat(" ", 63), strings.Repeat("\"", 65)} {
		for _, behind := range []string{"", " ", `"`, `\`, "{", "[", "}", "]", ",", ":", "x", "\xff"} {
			n := len(ahead)
			takes(t, '{', ahead+object+behind, span(n, n+len(object)), parts{names: spans(n+3, n+4, n+23, n+24, n+33, n+39), values: spans(n+8, n+19, n+26, n+29, n+43, n+45)})
			takes(t, '[', ahead+list+behind, span(n, n+len(list)), parts{values: spans(n+2, n+3, n+5, n+10, n+12, n+23, n+25, n+28)})
		}
	}
}

func TestPartsOfDocuments(t *testing.T) {
	for _, s := range documents() {
		for _, v := range nodes(s).all() {
			for _, kind := range []byte("{[") {
				takes(t, kind, s, v.span, plainParts(kind, s, v.span))
			}
		}
	}
}

func TestPartsOfShortTexts(t *testing.T) {
	for _, s := range append(rows(5, "{", "}", `"a"`, ":", ",", " ", "1"), rows(6, "[", "]", ",", " ", "1")...) {
		in := span(0, len(s))
		takes(t, '{', s, in, plainParts('{', s, in))
		takes(t, '[', s, in, plainParts('[', s, in))
	}
}

func TestPartsOfBlanks(t *testing.T) {
	for _, blank := range []string{"", " ", "\t", "\n", "\r", " \t\r\n", strings.Repeat(" ", 64), strings.Repeat("\n", 129)} {
		for _, s := range []string{"{|}", `{|"a"|:|1|}`, `{|"a"|:|1|,|" b "|:|" : , "|,|""|:|{|}|}`, "[|]", "[|1|]", "[|1|,|[|]|,|{|}|,|\" \"|]"} {
			s = strings.ReplaceAll(s, "|", blank)
			takes(t, s[0], s, span(0, len(s)), plainParts(s[0], s, span(0, len(s))))
		}
	}
}

func TestPartsThatAreMany(t *testing.T) {
	for _, n := range []int{0, 1, 2, 63, 64, 65, 1000, 20000} {
		var members, elements []string
		for i := range n {
			members = append(members, fmt.Sprintf(`"n%d":[%d,{"a":0}]`, i%700, i))
			elements = append(elements, fmt.Sprintf(`{"a":[%d,1]}`, i))
		}
		s := "{" + strings.Join(members, ",") + "}"
		takes(t, '{', s, span(0, len(s)), plainParts('{', s, span(0, len(s))))
		if names, values, _ := Members(s, span(0, len(s))); len(names) != n || len(values) != n {
			t.Errorf("%d members: %d names, %d values", n, len(names), len(values))
		}
		s = "[" + strings.Join(elements, " , ") + "]"
		takes(t, '[', s, span(0, len(s)), plainParts('[', s, span(0, len(s))))
		if list, _ := Elements(s, span(0, len(s))); len(list) != n {
			t.Errorf("%d elements: %d", n, len(list))
		}
	}
}

// P21.4

func TestRunIsTheSameForAllLevels(t *testing.T) {
	var r rule = 213
	list := []string{doc, whole, nested(70, "both", "[1,2]"), nested(130, "object", `{"b":[{}]}`)}
	for range 60 {
		list = append(list, r.document(2+r.below(8)))
	}
	for _, s := range list {
		asked := r.asked(s)
		want := run(s, 1024, 1, asked...)
		for levels := 1; levels <= 64; levels++ {
			same(t, s, 1024, levels, asked, want)
		}
	}
}

// A pointer finds the same whoever else is asked for, and in whatever order.
func TestRunOfPointersOneByOne(t *testing.T) {
	var r rule = 214
	for _, s := range documents()[:260] {
		list := r.asked(s)
		all := run(s, 1024, 2, list...)
		for i, p := range list[:min(len(list), 30)] {
			same(t, s, 1024, 1+i%3, []string{p}, answer{hits: all.hits[i : i+1], verdict: all.verdict})
		}
		slices.Reverse(list)
		slices.Reverse(all.hits)
		same(t, s, 1024, 3, list, all)
	}
}

// parsedTo: what tree.Parse answers.
func parsedTo(t *testing.T, s string) api.Value {
	t.Helper()
	v, verdict, e := tree.Parse(s, 1024)
	if e != api.OK || verdict.Code != api.Valid {
		t.Fatalf("Parse(%.100q): %v, %d", s, verdict, e)
	}
	return v
}

func TestAHitIsWhatFindLeadsTo(t *testing.T) {
	var r rule = 215
	for _, s := range append(documents(), nested(1024, "both", ""), nested(200, "object", `{"b":1}`)) {
		if verdict, _ := valid.Check(s, 1024); verdict.Code != api.Valid {
			continue
		}
		v := parsedTo(t, s)
		list := r.asked(s)
		got := run(s, 1024, 1+r.below(64), list[:min(len(list), 60)]...)
		for i, hit := range got.hits {
			want, found, e := pointer.Find(v, list[i])
			if e != api.OK || found != hit.Found {
				t.Fatalf("%.200q at %.100q: %v, and Find says %v, %d", s, list[i], hit, found, e)
			}
			if !found {
				if hit != (api.Hit{}) {
					t.Fatalf("%.200q at %.100q: %v", s, list[i], hit)
				}
				continue
			}
			part := s[hit.Span.From:hit.Span.To]
			if strings.Trim(part, " \t\n\r") != part {
				t.Fatalf("%.200q at %.100q: %.100q", s, list[i], part)
			}
			if got := parsedTo(t, part); fmt.Sprint(got) != fmt.Sprint(want) {
				t.Fatalf("%.200q at %.100q: %.100q, which isn't %.100s", s, list[i], part, fmt.Sprint(want))
			}
			// The place behind it is that of which valid.Value speaks, too.
			if end, e := valid.Value(s, hit.Span.From); e != api.OK || end != hit.Span.To {
				t.Fatalf("%.200q at %.100q: %v, not up to %d, %d", s, list[i], hit, end, e)
			}
		}
	}
}

func TestHitsLieWithinOneAnotherAsPointersDo(t *testing.T) {
	var r rule = 216
	for _, s := range documents() {
		list := r.asked(s)
		list = list[:min(len(list), 40)]
		got := run(s, 1024, 1+r.below(64), list...)
		for i, a := range got.hits {
			for j, b := range got.hits {
				in, e := pointer.Within(list[i], list[j])
				if e != api.OK || !a.Found || !b.Found || !in {
					continue
				}
				if a.Span.From < b.Span.From || a.Span.To > b.Span.To {
					t.Fatalf("%.200q: %q at %v, %q at %v", s, list[i], a, list[j], b)
				}
			}
			// What leads somewhere does so at each name on the way.
			for j, b := range got.hits {
				if in, _ := pointer.Within(list[i], list[j]); in && a.Found && !b.Found {
					t.Fatalf("%.200q: %q is found, and %q isn't", s, list[i], list[j])
				}
			}
		}
	}
}

func TestPartsAreWhatParseAnswers(t *testing.T) {
	for _, s := range documents() {
		for _, node := range nodes(s).all() {
			v := parsedTo(t, s[node.span.From:node.span.To])
			names, values, e := Members(s, node.span)
			if v.Kind == api.Array {
				values, e = Elements(s, node.span)
			}
			if v.Kind != api.Array && v.Kind != api.Object {
				if e != api.ErrKind {
					t.Fatalf("%.200q at %v: %d", s, node.span, e)
				}
				continue
			}
			if e != api.OK || len(values) != len(v.Kids) || len(names) != len(v.Keys) {
				t.Fatalf("%.200q at %v: %v, %v, %d", s, node.span, names, values, e)
			}
			for i, in := range names {
				if name, e := texts.Unescape(s[in.From:in.To]); e != api.OK || name != v.Keys[i] {
					t.Fatalf("%.200q at %v: %q, %d, not %q", s, in, name, e, v.Keys[i])
				}
			}
			for i, in := range values {
				if got := parsedTo(t, s[in.From:in.To]); fmt.Sprint(got) != fmt.Sprint(v.Kids[i]) {
					t.Fatalf("%.200q at %v: %.100s", s, in, fmt.Sprint(got))
				}
			}
		}
	}
}

// What Run finds is what one comes to by Members and Elements, step by step.
func TestRunIsWhatStepsComeTo(t *testing.T) {
	var r rule = 217
	for _, s := range documents() {
		list := r.asked(s)
		list = list[:min(len(list), 16)]
		got := run(s, 1024, 2, list...)
		for i, p := range list {
			if hit := stepped(s, p); hit != got.hits[i] {
				t.Fatalf("%.200q at %q: %v, and by steps %v", s, p, got.hits[i], hit)
			}
		}
	}
}

func stepped(s, p string) api.Hit {
	part := run(s, 1024, 1, "").hits[0].Span
	for _, name := range namesOf(p) {
		kids, _ := Elements(s, part)
		i, ok := pointer.Place(name)
		if names, values, e := Members(s, part); e == api.OK {
			kids, ok = values, true
			i = slices.IndexFunc(names, func(in api.Span) bool { return texts.Same(s[in.From:in.To], name) })
		}
		if !ok || i < 0 || i >= len(kids) {
			return api.Hit{}
		}
		part = kids[i]
	}
	return api.Hit{Found: true, Span: part}
}

// Great documents: each must be over soon, whatever the levels.

// soon: fails if a call takes far longer than going through the document a few times does.
func soon(t *testing.T, what string, call func()) {
	t.Helper()
	begun := time.Now()
	call()
	if took := time.Since(begun); took > 20*time.Second {
		t.Errorf("%s: %v", what, took)
	}
}

func TestRunOfManyMembersAndElements(t *testing.T) {
	const n = 50000
	var members, elements, list []string
	for i := range n {
		members = append(members, fmt.Sprintf(`"name\u0020%d":{"a":[%d]}`, i, i))
		elements = append(elements, fmt.Sprintf(`[%d,{"a":"x"}]`, i))
	}
	s := `{"o":{` + strings.Join(members, ",") + `},"l":[` + strings.Join(elements, ",") + `]}`
	for i := 0; len(list) < 256; i += n / 60 {
		list = append(list, fmt.Sprintf("/o/name %d/a/0", n-1-i%n), fmt.Sprintf("/l/%d/0", i%n), fmt.Sprintf("/l/%d/1/a", n-1-i%n), fmt.Sprintf("/o/none %d", i))
	}
	list = list[:256]
	soon(t, "many members and elements", func() {
		got := run(s, 4, 64, list...)
		for i, hit := range got.hits {
			names := namesOf(list[i])
			switch {
			case strings.HasPrefix(list[i], "/o/none"):
				if hit != (api.Hit{}) {
					t.Fatal(list[i], hit)
				}
			case strings.HasSuffix(list[i], "/1/a"):
				if s[hit.Span.From:hit.Span.To] != `"x"` {
					t.Fatal(list[i], hit)
				}
			default:
				if want := strings.TrimPrefix(names[1], "name "); s[hit.Span.From:hit.Span.To] != want {
					t.Fatal(list[i], hit)
				}
			}
		}
		for _, levels := range []int{1, 2, 3} {
			same(t, s, 4, levels, list, got)
		}
	})
}

func TestRunOfManyLevelsThatAreWide(t *testing.T) {
	side := strings.Repeat(`{"x":[1,2]},`, 60)
	s := strings.Repeat("["+side, 1000) + "7" + strings.Repeat("]", 1000)
	var list []string
	for i := range 255 {
		list = append(list, strings.Repeat("/60", 1000-i)+"/59/x/1")
	}
	list = append(list, strings.Repeat("/60", 1000))
	soon(t, "many wide levels", func() {
		got := run(s, 1024, 1, list...)
		if last := got.hits[255]; !last.Found || s[last.Span.From:last.Span.To] != "7" {
			t.Fatal(last)
		}
		for i, hit := range got.hits[1:255] {
			if !hit.Found || s[hit.Span.From:hit.Span.To] != "2" {
				t.Fatal(i, hit)
			}
		}
		for _, levels := range []int{2, 63, 64} {
			same(t, s, 1024, levels, list, got)
		}
	})
}

// Memory

func TestWhatComesInStays(t *testing.T) {
	for _, s := range []string{doc, whole, "{", "[[[[]]]]"} {
		for _, list := range [][]string{{}, {""}, {"/a", "/a/1/b", "/c~1d"}, {"/a", "x"}} {
			all := append(slices.Clone(list), "/room", "room")
			before := slices.Clone(all)
			for _, levels := range []int{0, 1, 64} {
				Run(s, 3, levels, all[:len(list)])
				if !slices.Equal(all, before) {
					t.Fatalf("Run(%q, %q) changes it: %q", s, list, all)
				}
			}
		}
	}
}

// scribbled: writes over all of a list, and the room behind it.
func scribbled[T any](list []T, x T) {
	list = list[:cap(list)]
	for i := range list {
		list[i] = x
	}
}

// filled: writes into the room behind a list.
func filled[T any](list []T, x T) {
	scribbled(list[len(list):], x)
}

func TestAnswersShareNothing(t *testing.T) {
	wrong := span(-7, -8)
	for _, s := range documents() {
		list := []string{"", "/a", "/0", "/a/0"}
		a, b := run(s, 1024, 1, list...), run(s, 1024, 1, list...)
		want := a.text()
		scribbled(a.hits, api.Hit{Span: wrong})
		if c := run(s, 1024, 1, list...); b.text() != want || c.text() != want {
			t.Fatalf("%.200q: two answers share a list", s)
		}
		for _, v := range nodes(s).all() {
			for _, kind := range []byte("{[") {
				a, b := taken(kind, s, v.span), taken(kind, s, v.span)
				want := a.text()
				filled(a.names, wrong)
				filled(a.values, wrong)
				if a.text() != want {
					t.Fatalf("%.200q at %v: the room behind a list is the other one's", s, v.span)
				}
				scribbled(a.names, wrong)
				if fmt.Sprint(a.values) != fmt.Sprint(b.values) {
					t.Fatalf("%.200q at %v: names and values share a list", s, v.span)
				}
				scribbled(a.values, wrong)
				if c := taken(kind, s, v.span); b.text() != want || c.text() != want {
					t.Fatalf("%.200q at %v: two answers share a list", s, v.span)
				}
			}
		}
	}
}

// The list of pointers may be written over afterwards: the answers stay.
func TestAnswersStayWhateverTheirGiverDoes(t *testing.T) {
	list := []string{"/a", "/a/1/b", "/x"}
	got := run(doc, 3, 1, list...)
	want := got.text()
	scribbled(list, "")
	if got.text() != want {
		t.Error(got.text())
	}
}

// Sameness

func TestTheSameAgainWhateverElseRuns(t *testing.T) {
	var r rule = 218
	list := documents()
	list = append(list, nested(100, "both", "1"), "{", "[1,]")
	var asked [][]string
	var want []string
	tell := func(i int) string {
		s := list[i]
		a := run(s, 1+i%9, 1+i%64, asked[i]...)
		return a.text() + taken('{', s, span(0, len(s))).text() + taken('[', s, span(0, len(s))).text()
	}
	for i, s := range list {
		asked = append(asked, []string{"", "/a", "/0/a/0/a", "/a/b"})
		if i < len(list)-2 {
			asked[i] = r.asked(s)
		}
		if i%17 == 0 {
			asked[i] = []string{"/a", r.one(notPointers)}
		}
		want = append(want, tell(i))
	}
	var group sync.WaitGroup
	for k := range 8 {
		group.Go(func() {
			for i := range list {
				at := (i*7 + k) % len(list)
				if got := tell(at); got != want[at] {
					t.Errorf("%.200q, %.200q: %.300s, not %.300s", list[at], asked[at], got, want[at])
				}
			}
		})
	}
	group.Wait()
}

// The plain reading itself, where the examples can tell.
func TestThePlainReading(t *testing.T) {
	v := nodes(doc)
	if got := fmt.Sprint(v.pointers()); got != "[ /a /a/0 /a/1 /a/1/b /c~1d /a]" {
		t.Error(got)
	}
	want := answer{hits: []api.Hit{at(0, 34), at(5, 19), at(13, 17), at(26, 27), {}, {}}, verdict: api.Verdict{Code: api.Valid, At: 34}}
	if got := plain(doc, 3, 1, "", "/a", "/a/1/b", "/c~1d", "/a/2", "/x"); got.text() != want.text() {
		t.Error(got.text())
	}
	if got := plainParts('{', doc, span(8, 18)); got.text() != (parts{names: spans(10, 11), values: spans(13, 17)}).text() {
		t.Error(got.text())
	}
}

func ExampleRun() {
	s := `{"id": 7, "tags": ["a", "b\u0063"], "pos": {"x": -1.50, "y": 1e2}}`
	hits, verdict, err := Run(s, 9, 1, []string{"/tags/1", "/pos/x", "/nope"})
	for _, hit := range hits {
		fmt.Printf("%v %q\n", hit.Found, s[hit.Span.From:hit.Span.To])
	}
	fmt.Println(verdict.Code == api.Valid, verdict.At, err)
	// Output:
	// true "\"b\\u0063\""
	// true "-1.50"
	// false ""
	// true 66 0
}

func ExampleMembers() {
	s := `{"a":[1,{"b":null}],"c/d":2,"a":3}`
	names, values, err := Members(s, api.Span{From: 0, To: 34})
	fmt.Println(names, values, err)
	_, _, err = Members(s, api.Span{From: 5, To: 19})
	fmt.Println(err == api.ErrKind)
	// Output:
	// [{2 3} {21 24} {29 30}] [{5 19} {26 27} {32 33}] 0
	// true
}

func ExampleElements() {
	fmt.Println(Elements(`{"a":[1,{"b":null}]}`, api.Span{From: 5, To: 19}))
	// Output:
	// [{6 7} {8 18}] 0
}
