package valid

import (
	"encoding/json"
	"errors"
	"fmt"
	"math"
	"regexp"
	"runtime"
	"slices"
	"strings"
	"sync"
	"testing"
	"unicode/utf8"

	"quarry/api"
	"quarry/levels"
)

// The calls' exact types.
var (
	_ func(string, int) (api.Verdict, api.Errno) = Check
	_ func(string) bool                          = Scalar
	_ func(string) int                           = Depth
	_ func(string, int) (int, api.Errno)         = Value
)

func sameCheck(t *testing.T, s string, depth, code, at int) {
	t.Helper()
	if v, e := Check(s, depth); v != (api.Verdict{Code: code, At: at}) || e != api.OK {
		t.Fatalf("Check(%.80q, %d) = %v, %d, not %d %d", s, depth, v, e, code, at)
	}
}

// good: the text is a document of at most so many levels as may be.
func good(t *testing.T, s string) {
	t.Helper()
	sameCheck(t, s, api.MaxDepth, api.Valid, len(s))
}

// bad: the text is none, and could have been one up to a place, whatever the depth.
func bad(t *testing.T, s string, at int) {
	t.Helper()
	for _, depth := range []int{1, 2, 5, api.MaxDepth} {
		sameCheck(t, s, depth, api.Invalid, at)
	}
}

// asTheChapterSays: Check of s is what the chapter's words say, at each depth about as deep as s.
func asTheChapterSays(t *testing.T, s string) {
	t.Helper()
	is, k := far(s)
	for _, depth := range []int{1, 2, 3, api.MaxDepth} {
		want := wanted(s, depth, is, k)
		sameCheck(t, s, depth, want.Code, want.At)
	}
}

func sameValue(t *testing.T, s string, at, want int, e api.Errno) {
	t.Helper()
	if got, err := Value(s, at); got != want || err != e {
		t.Fatalf("Value(%.80q, %d) = %d, %d, not %d, %d", s, at, got, err, want, e)
	}
}

// library: whether the language's library takes a text, which is to be UTF-8, too, for a document.
func library(s string) bool { return utf8.ValidString(s) && json.Valid([]byte(s)) }

// rows: every row of at most n parts.
func rows(n int, parts ...string) []string {
	list := []string{""}
	last := list
	for range n {
		var next []string
		for _, s := range last {
			for _, p := range parts {
				next = append(next, s+p)
			}
		}
		list = append(list, next...)
		last = next
	}
	return list
}

// rule: ordinary numbers from a fixed rule.
type rule uint64

func (r *rule) below(n int) int {
	*r = *r*6364136223846793005 + 1442695040888963407
	return int((uint64(*r) ^ uint64(*r)>>29) % uint64(n))
}

func (r *rule) mixed(n int, parts ...string) string {
	var b strings.Builder
	for range n {
		b.WriteString(parts[r.below(len(parts))])
	}
	return b.String()
}

// value: a value's text of at most so many levels, with blanks in it.
func (r *rule) value(most int) string {
	kind := r.below(10)
	if most == 0 || kind < 4 {
		return scalars[r.below(len(scalars))]
	}
	var parts []string
	for range r.below(4) {
		v := r.blank() + r.value(most-1) + r.blank()
		if kind < 7 {
			v = r.blank() + names[r.below(len(names))] + r.blank() + ":" + v
		}
		parts = append(parts, v)
	}
	inner := strings.Join(parts, ",")
	if inner == "" {
		inner = r.blank()
	}
	if kind < 7 {
		return "{" + inner + "}"
	}
	return "[" + inner + "]"
}

func (r *rule) blank() string { return r.mixed(r.below(3)*r.below(2), blank...) }

// bytesOf: the byte by itself.
func bytesOf(x int) string { return string([]byte{byte(x)}) }

var blank = []string{" ", "\t", "\n", "\r"}

// Scalars of every kind, and the edges of each.
var scalars = []string{
	"null", "true", "false",
	"0", "-0", "7", "-12", "10", "0.0", "-1.50", "12.003", "1e5", "1E5", "0e0", "1e+5", "1e-05", "1.5E+00", "-0.0E-0", "123456789012345678901234567890", "1e99999999999999999999", "-1e-1073741825",
	`""`, `" "`, `"a"`, `"[{"`, `"]}"`, `":,"`, `"\""`, `"\\"`, `"\\\""`, `"\/\b\f\n\r\t"`, `"\u0000"`, `"\uABcd"`, `"\ud800"`, `"\udc00\ud800"`, `"\ud83d\ude00"`, "\"\x7f\"", "\"\u00e4\"", "\"\u20ac\"", "\"\U0001f600\"", "\"\U0010ffff\"", `"null"`, `"//"`,
}

var names = []string{`""`, `"a"`, `"a"`, `"\u0061"`, `"[:"`, `"\""`, `"\\"`, "\"\u00e4\""}

// Arrays and objects, empty and full, with blanks at each place where they may stand.
var nests = []string{
	"[]", "{}", "[ ]", "{\t}", "[\r\n]", "[1]", "[1,2]", "[[]]", "[{}]", "[[],[]]", "[[[]],1]", "[ 1 , 2 ]", "\n[\t1\r,\n2 ]",
	`{"a":1}`, `{"a":1,"b":2}`, `{"a":1,"a":2}`, `{"a":{}}`, `{"a":[]}`, `{ "a" : 1 , "b" : [ ] }`, "{\t\"a\"\n:\r1\t,\n\"b\"\r:\t{}\n}", `{"a":{"a":{"a":1}}}`,
	`[null,true,false,0,"",[],{}]`, `{"":null,"[":"]","}":"{"}`, `{"id": 7, "tags": ["a", "b\u0063"], "pos": {"x": -1.50, "y": 1e2}}`, `[{"a":[{"b":[]}]},"]"]`,
}

// Texts that are no documents, and how far each could have been one.
var broken = map[string]int{
	"": 0, " ": 1, "[": 1, "{": 1, "]": 0, "}": 0, ",": 0, ":": 0, "[,": 1, "[1,]": 3, "[1,,2]": 3, "[,1]": 1, "[1 2]": 3, "[1}": 2, "{]": 1, "[}": 1, "[1:2]": 2, "[]]": 2, "{}}": 2, "[[]": 3, "[1": 2, "[1,": 3,
	`{"a"}`: 4, `{"a":}`: 5, `{"a"::1}`: 5, `{"a" 1}`: 5, `{"a",1}`: 4, `{"a":1`: 6, `{"a":1,`: 7, `{"a":1,}`: 7, `{"a":1]`: 6, `{,"a":1}`: 1, `{"a":1,,"b":2}`: 7, `{"a":1 "b":2}`: 7, `{1:2}`: 1, `{a:1}`: 1, `{null:1}`: 1, `{[]:1}`: 1, `{"a":1:2}`: 6, `{'a':1}`: 1,
	"1 1": 2, "[] []": 3, `"a" "b"`: 4, `"a"1`: 3, `1"a"`: 1, "null null": 5, "nullnull": 4, "{}1": 2, "+1": 0, "'a'": 0, ".5": 0, "01": 1, "-": 1, "tru": 3, "nul]": 3, `"a`: 2, `"\x"`: 2, `"\u12g4"`: 5, "\"\n": 1, "\"\xff": 1, "\"\xe2\x82\"": 3, "\xef\xbb\xbf1": 0, "/**/1": 0, "1//": 1, "NaN": 0, "Infinity": 0, "-Infinity": 1, "undefined": 0, "TRUE": 0, "Null": 0,
}

// documents: all kinds of documents, with blanks around them and without.
func documents() []string {
	list := slices.Concat(scalars, nests)
	for _, s := range slices.Concat(scalars[:3], nests) {
		list = append(list, " "+s, s+"\n", "\t\r"+s+"  ")
	}
	var r rule = 1
	for n := range 300 {
		list = append(list, r.blank()+r.value(n%6)+r.blank())
	}
	return list
}

// faults: texts that are none, made of documents too: cut off, with a byte more and with one other.
func faults() []string {
	var list []string
	for s := range broken {
		list = append(list, s)
	}
	slices.Sort(list)
	var r rule = 2
	for _, s := range documents() {
		at := r.below(len(s))
		x := r.mixed(1, "[", "]", "{", "}", ",", ":", `"`, `\`, "0", "a", " ", "\xff", "\xc3", "\x00")
		for _, s := range []string{s[:at], s[:at] + x + s[at:], s[:at] + x + s[at+1:], s + x} {
			if !library(s) {
				list = append(list, s)
			}
		}
	}
	return list
}

// P16.1

func TestCheckExamples(t *testing.T) {
	for _, s := range []string{`{"a": [1, 2.5e3, "\n"]} `, "null", `" "`, "[]", "{ }"} {
		sameCheck(t, s, 5, api.Valid, len(s))
	}
	sameCheck(t, `{"a": [1, 2.5e3, "\n"]} `, 5, api.Valid, 24)
	for _, x := range []struct {
		s  string
		at int
	}{
		{"", 0}, {"   ", 3}, {"[1,]", 3}, {"[1 2]", 3}, {`{"a"}`, 4}, {"{1:2}", 1}, {"01", 1}, {"-", 1}, {"1.e", 2}, {"tru", 3}, {"trux", 3}, {"nul]", 3}, {`"a`, 2}, {`"\x"`, 2}, {`"\u12g4"`, 5}, {"[[]", 3}, {"[]]", 2}, {"1 1", 2}, {"+1", 0}, {"'a'", 0},
		{"\"\n", 1}, {"\"\xe2\x82\"", 3}, {"\"\xe2\x82", 3}, {"\"\xff", 1}, {"\xef\xbb\xbf\x31", 0},
	} {
		sameCheck(t, x.s, 5, api.Invalid, x.at)
	}
	sameCheck(t, "[[[]],1]", 2, api.TooDeep, 2)
	sameCheck(t, "[[[]],1]", 3, api.Valid, 8)
	sameCheck(t, "[[[]],1]", 1, api.TooDeep, 1)
	sameCheck(t, "[[[]", 1, api.Invalid, 4)
}

// The first of the whole's ten examples.
func TestCheckExamplesOfTheWhole(t *testing.T) {
	const d = `{"id": 7, "tags": ["a", "b\u0063"], "pos": {"x": -1.50, "y": 1e2}}`
	sameCheck(t, d, 2, api.Valid, 66)
	sameCheck(t, d, 1, api.TooDeep, 18)
	sameCheck(t, `{"a":1,}`, 9, api.Invalid, 7)
	sameCheck(t, d[:60], 9, api.Invalid, 60)
}

func TestCheckOfDepthsThatAreNone(t *testing.T) {
	for _, s := range []string{"0", "", "[", "[[]]", strings.Repeat("[", 2000)} {
		for _, depth := range []int{0, -1, 1025, -1024, 2048, math.MinInt, math.MaxInt} {
			if v, e := Check(s, depth); v != (api.Verdict{}) || e != api.ErrRange {
				t.Fatalf("Check(%.20q, %d) = %v, %d", s, depth, v, e)
			}
		}
	}
	for _, depth := range []int{1, 2, 1023, 1024} {
		sameCheck(t, "0", depth, api.Valid, 1)
		sameCheck(t, "", depth, api.Invalid, 0)
	}
}

func TestCheckOfDocuments(t *testing.T) {
	for _, s := range documents() {
		if !library(s) {
			t.Fatalf("%q", s)
		}
		good(t, s)
		asTheChapterSays(t, s)
	}
}

func TestCheckOfWhatIsNone(t *testing.T) {
	for s, at := range broken {
		bad(t, s, at)
	}
	for _, s := range faults() {
		asTheChapterSays(t, s)
	}
}

func TestCheckOfBlanks(t *testing.T) {
	for _, s := range rows(3, blank...) {
		bad(t, s, len(s))
		for _, v := range []string{"null", "true", "false", "0", "-1.5e3", `""`, `"a b"`, "[]", "{}", "[1]", `{"a":1}`} {
			good(t, s+v)
			good(t, v+s)
			good(t, s+v+s)
			good(t, "["+s+v+s+"]")
			good(t, "["+s+v+s+","+s+v+s+"]")
			good(t, "{"+s+`"a"`+s+":"+s+v+s+"}")
			good(t, "{"+s+`"a"`+s+":"+s+v+s+","+s+`"b"`+s+":"+s+v+s+"}")
			bad(t, "["+s+v+s, 1+2*len(s)+len(v))
		}
		good(t, "["+s+"]")
		good(t, "{"+s+"}")
	}
}

func TestCheckOfBytesThatLookLikeBlanks(t *testing.T) {
	for _, x := range []string{"\x0b", "\x0c", "\x00", "\xa0", "\u00a0", "\u0085", "\u2028", "\ufeff", "\x1f", "\x7f", "\x08"} {
		bad(t, x, 0)
		bad(t, " "+x, 1)
		for _, v := range []string{"null", "true", "1", "-1.5e3", `"a"`, "[]", `{"a":1}`} {
			bad(t, x+v, 0)
			bad(t, " "+x+v, 1)
			bad(t, v+x, len(v))
			bad(t, v+" "+x, len(v)+1)
			bad(t, "["+x+v+"]", 1)
			bad(t, "["+v+x+"]", 1+len(v))
			bad(t, "["+v+","+x+v+"]", 2+len(v))
			bad(t, "{"+x+`"a":`+v+"}", 1)
			bad(t, `{"a"`+x+":"+v+"}", 4)
			bad(t, `{"a":`+x+v+"}", 5)
			bad(t, `{"a":`+v+x+"}", 5+len(v))
			bad(t, `{"a":`+v+","+x+`"b":1}`, 6+len(v))
		}
		bad(t, "["+x+"]", 1)
		bad(t, "{"+x+"}", 1)
	}
}

// ahead: beginnings behind which a value must stand.
var ahead = []string{"", " ", "[", "[ ", "[[", "[1,", "[1, ", `{"a":`, `{"a" : `, `{"a":1,"b":`, `[{"a":[`}

// Each word cut off, with one other byte at each place, and with a byte behind it.
func TestCheckOfWords(t *testing.T) {
	for _, w := range []string{"null", "true", "false"} {
		good(t, w)
		for _, a := range ahead {
			for n := range len(w) {
				bad(t, a+w[:n], len(a)+n)
				for x := range 256 {
					if byte(x) == w[n] {
						continue
					}
					s := a + w[:n] + bytesOf(x) + w[n+1:]
					if n > 0 {
						bad(t, s, len(a)+n)
						bad(t, a+w[:n]+bytesOf(x), len(a)+n)
					}
					asTheChapterSays(t, s)
				}
			}
			for x := range 256 {
				asTheChapterSays(t, a+w+bytesOf(x))
			}
		}
		for x := range 256 {
			if slices.Contains(blank, bytesOf(x)) {
				good(t, w+bytesOf(x))
			} else {
				bad(t, w+bytesOf(x), len(w))
				bad(t, w+" "+bytesOf(x), len(w)+1)
			}
		}
		bad(t, strings.ToUpper(w), 0)
		bad(t, w+w, len(w))
	}
}

// Numbers that lack something, at the text's end and ahead of anything.
func TestCheckOfNumbersCutOff(t *testing.T) {
	for _, s := range []string{"-", "0.", "-0.", "12.", "1e", "1E", "0e", "1e+", "1e-", "1E+", "1.5e", "1.50E-", "-1.", "-0e+", "10.", "0.0e"} {
		for _, a := range ahead {
			for _, b := range []string{"", " ", "\t", "\n", "\r", ",", "]", "}", ", 1]", "[", "{", `"`, ":", ".", "a", "\x00", "\xff", "/", "x1"} {
				bad(t, a+s+b, len(a)+len(s))
			}
			for x := range 256 {
				asTheChapterSays(t, a+s+bytesOf(x))
			}
		}
	}
	bad(t, "1.e5", 2)
	bad(t, "1.-5", 2)
	bad(t, "1.+", 2)
	bad(t, "1e.", 2)
	bad(t, "1e+-1", 3)
	bad(t, "1e+ 1", 3)
	bad(t, "--1", 1)
	bad(t, "-+1", 1)
	bad(t, "- 1", 1)
}

// What can't go on ends a number; whether it may stand behind one is another question.
func TestCheckOfWhatStandsBehindANumber(t *testing.T) {
	for _, s := range []string{"00", "-00", "01", "-01", "09", "0123"} {
		n := strings.Index(s, "0") + 1
		for _, a := range ahead {
			for _, b := range []string{"", " ", ",", "]", "}", ".5", "e1"} {
				bad(t, a+s+b, len(a)+n)
			}
		}
	}
	for _, v := range []string{"0", "-0", "1", "12", "0.5", "1.0", "1e5", "1E+5", "-1.5e-5"} {
		for n := range len(v) {
			asTheChapterSays(t, v[:n])
		}
		good(t, v)
		good(t, "["+v+"]")
		good(t, `{"a":`+v+"}")
		good(t, "["+v+","+v+"]")
		for x := range 256 {
			for _, a := range ahead {
				asTheChapterSays(t, a+v+bytesOf(x))
			}
		}
	}
	bad(t, "1.5.2", 3)
	bad(t, "1e5.2", 3)
	bad(t, "1e5e5", 3)
	bad(t, "0x1", 1)
	bad(t, "1_0", 1)
	bad(t, "1-", 1)
	bad(t, "1+1", 1)
	bad(t, "1f", 1)
}

func TestCheckOfAPlus(t *testing.T) {
	for _, v := range []string{"", "1", "0", "0.5", "1e5", "-1"} {
		for _, a := range ahead {
			bad(t, a+"+"+v, len(a))
		}
	}
}

// Numbers that no decimal tells are numbers all the same.
func TestCheckOfNumbersOfAnySize(t *testing.T) {
	for _, v := range []string{"1e1073741825", "-1e-1073741825", "1e99999999999999999999999999", "1" + strings.Repeat("0", 100000), "0." + strings.Repeat("0", 100000) + "1e" + strings.Repeat("9", 1000)} {
		good(t, v)
		good(t, "["+v+", "+v+"]")
		bad(t, v+"a", len(v))
		bad(t, "["+v, 1+len(v))
	}
}

// aheadOfTexts: beginnings behind which a text between quotes may stand, as a value or as a name.
var aheadOfTexts = slices.Concat(ahead, []string{"{", "{ ", `{"a":1,`, `[{"a":[], `})

func TestCheckOfTextsThatArentClosed(t *testing.T) {
	for _, a := range aheadOfTexts {
		for _, s := range []string{`"`, `"a`, `"\`, `"\"`, `"\\`, `"\\\"`, `"\u`, `"\u0`, `"\u00`, `"\u004`, `"\u0041`, `"]`, `"a]}`, `"null`, `"\n`, "\"\u00e4"} {
			bad(t, a+s, len(a)+len(s))
		}
	}
	good(t, `""`)
	good(t, `"a"`)
	bad(t, `"""`, 2)
	bad(t, `""""`, 2)
	bad(t, `"a"b"`, 3)
	bad(t, `"\\"b"`, 4)
}

// Every byte behind a backslash: at the text's end, ahead of a quote, and ahead of what could be digits.
func TestCheckOfEscapes(t *testing.T) {
	for x := range 256 {
		for _, a := range aheadOfTexts {
			s := a + `"a\` + bytesOf(x)
			at := len(a) + 3
			if strings.Contains(`"\/bfnrtu`, bytesOf(x)) {
				at++
			}
			bad(t, s, at)
			if x != 'u' && at == len(s) {
				bad(t, s+`b`, len(s)+1)
			}
		}
		for _, behind := range []string{`"`, `0041"`, `\"`, `\n"`, "\x80", "\n"} {
			asTheChapterSays(t, `"\`+bytesOf(x)+behind)
			asTheChapterSays(t, `{"\`+bytesOf(x)+behind)
		}
	}
	for _, letter := range []string{`"`, `\`, `/`, "b", "f", "n", "r", "t"} {
		good(t, `"\`+letter+`"`)
		good(t, `"a\`+letter+`b"`)
		good(t, `["\`+letter+`\`+letter+`", "\`+letter+`"]`)
		good(t, `{"\`+letter+`":1}`)
	}
}

// No, one, two, three and four digits, and every byte in the place of each.
func TestCheckOfFourDigits(t *testing.T) {
	for _, digits := range []string{"0041", "Ff9a", "d83d", "DC00", "aBcD"} {
		for _, a := range aheadOfTexts {
			for n := range 4 {
				s := a + `"\u` + digits[:n]
				bad(t, s, len(s))
				for x := range 256 {
					if strings.Contains("0123456789abcdefABCDEF", bytesOf(x)) {
						bad(t, s+bytesOf(x), len(s)+1)
						continue
					}
					bad(t, s+bytesOf(x), len(s))
					bad(t, s+bytesOf(x)+digits[n+1:]+`"`, len(s))
				}
			}
		}
		good(t, `"\u`+digits+`"`)
		good(t, `"\u`+digits+`0"`)
		good(t, `{"\u`+digits+`":"\u`+digits+`\u`+digits+`"}`)
	}
	bad(t, `"\U0041"`, 2)
}

func TestCheckOfHalves(t *testing.T) {
	for _, s := range rows(3, `\ud800`, `\udbff`, `\udc00`, `\udfff`, "a", `\n`) {
		good(t, `"`+s+`"`)
		good(t, `{"`+s+`":["`+s+`"]}`)
	}
}

// Every byte within a text, alone.
func TestCheckOfEveryByteInAText(t *testing.T) {
	for x := range 256 {
		for _, a := range aheadOfTexts {
			s := a + `"a` + bytesOf(x)
			switch {
			case x < 32 || x > 0xf4 || x >= 0x80 && x < 0xc2:
				bad(t, s, len(s)-1)
				bad(t, s+`"`, len(s)-1)
			case x == '"':
			case x < 128:
				bad(t, s, len(s))
				bad(t, s+"b", len(s)+1)
			default:
				bad(t, s, len(s))
				bad(t, s+`"`, len(s))
				bad(t, s+`\`, len(s))
				bad(t, s+" ", len(s))
			}
		}
	}
	good(t, "\"\x7f\"")
}

// Characters cut off behind each of their bytes, and with every byte there instead.
func TestCheckOfCharactersCutOff(t *testing.T) {
	for _, c := range []string{"\u0080", "\u00e4", "\u07ff", "\u0800", "\u20ac", "\ud7ff", "\ue000", "\uffff", "\U00010000", "\U0001f600", "\U000fffff", "\U0010ffff"} {
		good(t, `"`+c+`"`)
		good(t, `{"`+c+c+`":"\n`+c+`\n"}`)
		for _, a := range aheadOfTexts {
			for n := 1; n < len(c); n++ {
				s := a + `"a` + c[:n]
				bad(t, s, len(s))
				for _, b := range []string{`"`, `\`, `\n`, "a", " ", "\x00", "\n", "\xff", "\xc3", c} {
					bad(t, s+b, len(s))
				}
			}
		}
		for n := 1; n < len(c); n++ {
			for x := range 256 {
				asTheChapterSays(t, `"`+c[:n]+bytesOf(x)+c[n+1:]+`"`)
			}
		}
	}
	for _, s := range []string{"\xe0\x80", "\xe0\x9f", "\xed\xa0", "\xed\xbf", "\xf0\x80", "\xf0\x8f", "\xf4\x90", "\xf4\xbf"} {
		bad(t, `"`+s+`\x80"`, 2)
	}
	for _, s := range []string{"\x80", "\xbf", "\xc0", "\xc1", "\xf5", "\xfe", "\xff"} {
		bad(t, `"`+s+`"`, 1)
		bad(t, "\"\u00e4"+s+`"`, 3)
	}
}

func TestCheckOfCharactersOutsideOfQuotes(t *testing.T) {
	for _, c := range []string{"\u00e4", "\u20ac", "\U0001f600", "\ufeff", "\u00a0", "\u2028", "\uff11", "\u0660", "\xff", "\x80", "\xc3"} {
		for _, a := range aheadOfTexts {
			bad(t, a+c, len(a))
		}
		for _, v := range []string{"null", "1", `""`, "[]", `{"a":1}`, `["a"`, `{"a"`, `{"a":1`} {
			bad(t, v+c, len(v))
		}
	}
}

// Of a fault of UTF-8 and one of the grammar the first one counts.
func TestCheckOfTwoFaults(t *testing.T) {
	bad(t, "[1,]\xff", 3)
	bad(t, "[\"\xff\",]", 2)
	bad(t, "\"\\x\xff\"", 2)
	bad(t, "\"\xff\\x\"", 1)
	bad(t, "\"\n\xff\"", 1)
	bad(t, "\"\xff\n\"", 1)
	bad(t, "\"\xe2\x82\\x\"", 3)
	bad(t, "{\"\xc3\" 1}", 3)
	bad(t, "[1 \"\xff\"]", 3)
	bad(t, "]\xff", 0)
	bad(t, "\xff]", 0)
	bad(t, "nul\xff", 3)
	bad(t, "-\xff", 1)
	bad(t, "{\"a\":\"\xff\",}", 6)
}

// Brackets, commas and colons: every row of them.
func TestCheckOfShortNests(t *testing.T) {
	for _, s := range rows(5, "[", "]", "{", "}", ",", "1") {
		asTheChapterSays(t, s)
	}
	for _, s := range rows(5, "{", "}", `""`, ":", ",", "1", " ", "[") {
		asTheChapterSays(t, s)
	}
}

// Every text of bytes of an alphabet, as long as it could still become a document, and every way to leave that.
func TestCheckByteByByte(t *testing.T) {
	for _, x := range []struct {
		from, of string
		most     int
	}{
		{"", "[]{}\":,\\0 ", 6},
		{"", "-+01.eE ,]", 6},
		{"[", "-09.e ,]", 5},
		{"\"", "\\\"u0dF/n\x1f\x7f ", 6},
		{"{\"", "\\\"u0:1,}", 5},
		{"\"", "\x00\x7f\x80\x8f\x90\x9f\xa0\xbf\xc1\xc2\xdf\xe0\xe1\xec\xed\xee\xef\xf0\xf1\xf4\xf5\xff\"", 3},
		{"", span(0, 255), 2},
		{"[", span(0, 255), 1},
		{"\"", span(0, 255), 2},
		{"{", span(0, 255), 1},
	} {
		c := start()
		for i := range len(x.from) {
			c, _ = c.with(x.from[i])
		}
		onward(t, c, x.from, x.of, x.most)
	}
}

// onward: Check of s, which is a beginning of a document, and of all texts that go on by at most so many bytes.
func onward(t *testing.T, c chart, s, of string, most int) {
	t.Helper()
	if c.document() != library(s) {
		t.Fatalf("%q: the library says otherwise than the grammar", s)
	}
	if !c.document() {
		sameCheck(t, s, api.MaxDepth, api.Invalid, len(s))
	} else {
		sameCheck(t, s, api.MaxDepth, api.Valid, len(s))
	}
	if most == 0 {
		return
	}
	for i := range len(of) {
		longer := s + of[i:i+1]
		if next, ok := c.with(of[i]); ok {
			onward(t, next, longer, of, most-1)
			continue
		}
		for _, behind := range []string{"", " ", "1", "]", "\"}]", "\xff"} {
			sameCheck(t, longer+behind, api.MaxDepth, api.Invalid, len(s))
		}
	}
}

// nested: so many levels, arrays and objects in turns as a pattern tells, around a value.
func nested(n int, pattern, v string) string {
	var open, shut strings.Builder
	for i := range n {
		if pattern[i%len(pattern)] == '[' {
			open.WriteString("[")
		} else {
			open.WriteString(`{"[":`)
		}
	}
	for i := n - 1; i >= 0; i-- {
		if pattern[i%len(pattern)] == '[' {
			shut.WriteString("]")
		} else {
			shut.WriteString("}")
		}
	}
	return open.String() + v + shut.String()
}

// place: where the bracket of the level n + 1 opens in such a text.
func place(n int, pattern string) int {
	return len(strings.TrimRight(nested(n, pattern, ""), "]}"))
}

func TestCheckOfLevels(t *testing.T) {
	for _, pattern := range []string{"[", "{", "[{", "{[", "[[{", "{{{["} {
		for _, depth := range []int{1, 2, 3, 5, 63, 64, 65, 1023, 1024} {
			for _, v := range []string{"1", `"["`} {
				for _, fewer := range []int{0, 1, depth} {
					s := nested(depth-fewer, pattern, v)
					sameCheck(t, s, depth, api.Valid, len(s))
				}
				for _, more := range []int{1, 2, 10, 5000} {
					s := nested(depth+more, pattern, v)
					sameCheck(t, s, depth, api.TooDeep, place(depth, pattern))
					sameCheck(t, "\n "+s, depth, api.TooDeep, place(depth, pattern)+2)
				}
			}
			for _, v := range []string{"[]", "{}", "[ ]", `{"a":[1]}`} {
				s := nested(depth, pattern, v)
				sameCheck(t, s, depth, api.TooDeep, place(depth, pattern))
			}
		}
	}
}

func TestCheckTellsTheFirstPlaceThatIsTooDeep(t *testing.T) {
	for _, x := range []struct {
		s     string
		depth int
		at    int
	}{
		{"[[],[]]", 1, 1}, {"[1,[],[]]", 1, 3}, {`[[],[{}],[[]]]`, 2, 5}, {`{"[":{}}`, 1, 5}, {`["[[[",{"]":"[","b":[]}]`, 2, 20}, {`{"a":1,"b":{"c":[{}]}}`, 2, 16}, {` [ [ ] ] `, 1, 3}, {`["\"[",[]]`, 1, 7}, {`["\\",[]]`, 1, 6},
	} {
		sameCheck(t, x.s, x.depth, api.TooDeep, x.at)
		asTheChapterSays(t, x.s)
	}
}

// However deep it is, what is no document is told as such.
func TestCheckOfWhatIsTooDeepAndNone(t *testing.T) {
	for _, x := range []struct {
		s  string
		at int
	}{
		{"[[[]", 4}, {"[[]]]", 4}, {"[[],]", 4}, {"[[]}", 3}, {"[[1 1]]", 4}, {"[[]] 1", 5}, {`[{"a":[}]`, 7}, {"[[\"\xff\"]]", 3}, {`[["\x"]]`, 4},
	} {
		sameCheck(t, x.s, 1, api.Invalid, x.at)
	}
	s := nested(3000, "[{", "1")
	sameCheck(t, s[:len(s)-1], 1024, api.Invalid, len(s)-1)
	sameCheck(t, s+"]", 1024, api.Invalid, len(s))
	sameCheck(t, s+" ,", 1, api.Invalid, len(s)+1)
}

func TestCheckOfLongTexts(t *testing.T) {
	const n = 1 << 20
	sameCheck(t, strings.Repeat("[", n), 1024, api.Invalid, n)
	sameCheck(t, strings.Repeat("[", n)+strings.Repeat("]", n), 1024, api.TooDeep, 1024)
	sameCheck(t, strings.Repeat("[", n)+strings.Repeat("]", n-1)+"}", 1, api.Invalid, 2*n-1)
	s := nested(n/8, "{", "null")
	sameCheck(t, s, 1, api.TooDeep, 5)
	s = "[" + strings.Repeat("1,", n) + "1]"
	sameCheck(t, s, 1, api.Valid, len(s))
	sameCheck(t, s[:len(s)-2]+"]", 1, api.Invalid, len(s)-2)
	s = `"` + strings.Repeat(`\"a\u00e4`+"\u20ac", n/16) + `"`
	sameCheck(t, s, 1, api.Valid, len(s))
	sameCheck(t, s[:len(s)-1], 1, api.Invalid, len(s)-1)
	sameCheck(t, s[:len(s)-2]+`"`, 1, api.Invalid, len(s)-2)
	s = strings.Repeat(" ", n)
	sameCheck(t, s, 1, api.Invalid, n)
	sameCheck(t, s+"0"+s, 1, api.Valid, 2*n+1)
}

func TestCheckOfMixedTexts(t *testing.T) {
	var r rule = 3
	for range 3000 {
		asTheChapterSays(t, r.mixed(r.below(12), "[", "]", "{", "}", ",", ":", `"a"`, `"`, "1", "-", "null", " ", `\`, "\u00e4", "\xc3", "e"))
	}
}

// The reader's own way to give up is caught, and no other one.
func TestStopped(t *testing.T) {
	if at := stopped(func() {}); at != -1 {
		t.Error(at)
	}
	for _, at := range []int{0, 1, 77} {
		r := reader{s: "a", at: at}
		if got := stopped(r.fail); got != at {
			t.Error(got, at)
		}
	}
}

// goesOnWith: what comes out of stopped, if what it reads panics with x.
func goesOnWith(read func()) (x any) {
	defer func() { x = recover() }()
	stopped(read)
	return nil
}

func TestAnyOtherPanicGoesOn(t *testing.T) {
	mine := errors.New("another one")
	for _, x := range []any{"text", 7, api.ErrInvalid, mine, &fault{at: 1}, struct{ at int }{1}} {
		if got := goesOnWith(func() { panic(x) }); got != x {
			t.Errorf("%v, not %v", got, x)
		}
	}
	list := []int{}
	if err, ok := goesOnWith(func() { list[len(list)]++ }).(runtime.Error); !ok {
		t.Error(err)
	}
	if x := goesOnWith(func() { panic(fault{at: 1}) }); x != nil {
		t.Error(x)
	}
}

// P16.2

func TestScalarExamples(t *testing.T) {
	for s, want := range map[string]bool{" 1 ": true, `"a"`: true, "[]": false, "1 1": false, "": false} {
		if Scalar(s) != want {
			t.Errorf("Scalar(%q)", s)
		}
	}
}

func TestScalarOfEveryKind(t *testing.T) {
	for _, s := range scalars {
		for _, a := range rows(2, blank...) {
			for _, b := range rows(2, blank...) {
				if !Scalar(a + s + b) {
					t.Fatalf("not Scalar(%q)", a+s+b)
				}
			}
			for _, x := range []string{"\x0b", "\x0c", "\x00", "\xa0", ",", "]", "}", ":", "1", "a", `"`} {
				if Scalar(x+a+s) != library(x+a+s) || Scalar(s+a+x) != library(s+a+x) {
					t.Fatalf("Scalar(%q) or Scalar(%q)", x+a+s, s+a+x)
				}
			}
		}
	}
	for _, s := range nests {
		if Scalar(s) || Scalar(" "+s+" ") {
			t.Fatalf("Scalar(%q)", s)
		}
	}
	for _, s := range []string{nested(1, "[", "1"), nested(1024, "[", "1"), nested(1025, "{", "1"), nested(5000, "[{", "1")} {
		if Scalar(s) {
			t.Fatalf("Scalar(%.20q)", s)
		}
	}
}

func TestScalarOfWhatIsNone(t *testing.T) {
	for _, s := range faults() {
		if Scalar(s) {
			t.Fatalf("Scalar(%q)", s)
		}
	}
}

func TestScalarOfShortTexts(t *testing.T) {
	for _, s := range rows(5, "[", "]", `"`, "1", "-", " ", ",", "{}") {
		want := library(s) && !strings.ContainsAny(strings.TrimSpace(s)[:1], "[{")
		if Scalar(s) != want {
			t.Fatalf("Scalar(%q)", s)
		}
	}
}

// P16.3

func sameDepth(t *testing.T, s string, want int) {
	t.Helper()
	if got := Depth(s); got != want {
		t.Fatalf("Depth(%.80q) = %d, not %d", s, got, want)
	}
}

func TestDepthExamples(t *testing.T) {
	sameDepth(t, "[[[]],1]", 3)
	sameDepth(t, "1", 0)
	sameDepth(t, "]][", 1)
	sameDepth(t, `"["`, 0)
}

func TestDepthOfAnyText(t *testing.T) {
	for _, x := range []struct {
		s    string
		want int
	}{
		{"", 0}, {"]", 0}, {"]]]]", 0}, {"][][", 1}, {"]}[[", 2}, {"[[]]]]][", 2}, {"[}{]", 1}, {"[}]}", 1}, {"[]{}[]", 1}, {"[[", 2}, {"[]]][[[", 3}, {"[a]b{c", 1},
		{`"[[`, 0}, {`"[["[`, 1}, {`["[["]`, 1}, {`\"[`, 1}, {`\\"[`, 0}, {`"\"["[`, 1}, {`"\\"[`, 1}, {`["]"[`, 2}, {"\xff[\x00[", 2}, {`{"[":"[","]":{}}`, 2}, {`\[`, 1},
	} {
		sameDepth(t, x.s, x.want)
	}
	for _, s := range slices.Concat(rows(5, "[", "]", "{", "}", `"`, `\`, "a"), documents(), faults()) {
		sameDepth(t, s, slices.Max(depths(s)))
	}
	for _, s := range documents() {
		most := 0
		for at := -1; at <= len(s)+1; at++ {
			most = max(most, levels.Depth(s, at))
		}
		sameDepth(t, s, most)
	}
}

func TestDepthOfManyLevels(t *testing.T) {
	for _, n := range []int{1, 63, 64, 65, 1023, 1024, 1025, 2000, 1 << 20} {
		open := strings.Repeat("[", n)
		sameDepth(t, open, n)
		sameDepth(t, open+strings.Repeat("]", n), n)
		sameDepth(t, strings.Repeat("]", n)+open, n)
		sameDepth(t, `"`+open+`"`, 0)
		sameDepth(t, strings.Repeat("]", n), 0)
		sameDepth(t, open+strings.Repeat("}", n)+open+"{", n+1)
		sameDepth(t, strings.Repeat("[]", n), 1)
	}
}

// P16.4

func TestValueExamples(t *testing.T) {
	const s = `{"a": [1, true]}`
	for at, want := range map[int]int{0: 16, 6: 15, 7: 8, 10: 14} {
		sameValue(t, s, at, want, api.OK)
	}
	for _, at := range []int{1, 5, 8, -1, 99} {
		sameValue(t, s, at, 0, api.ErrRange)
	}
	sameValue(t, " 12 ", 1, 3, api.OK)
	sameValue(t, " 12 ", 0, 0, api.ErrRange)
	sameValue(t, " 12 ", 2, 0, api.ErrRange)
	sameValue(t, "[1", 0, 0, api.ErrInvalid)
}

var token = regexp.MustCompile(`[\[\]{},:]|"(?:[^"\\]|\\.)*"|[^\[\]{},:" \t\n\r]+`)

// values: where each value of a document begins and ends: brackets that are closed, and each text and word ahead of no colon.
func values(s string) map[int]int {
	ends := map[int]int{}
	var open []int
	list := token.FindAllStringIndex(s, -1)
	for i, x := range list {
		switch s[x[0]] {
		case '[', '{':
			open = append(open, x[0])
		case ']', '}':
			ends[open[len(open)-1]] = x[1]
			open = open[:len(open)-1]
		case ',', ':':
		default:
			if i+1 == len(list) || s[list[i+1][0]] != ':' {
				ends[x[0]] = x[1]
			}
		}
	}
	return ends
}

// count: how many values the language's library finds in a document that has no name twice.
func count(x any) int {
	n := 1
	switch x := x.(type) {
	case []any:
		for _, kid := range x {
			n += count(kid)
		}
	case map[string]any:
		for _, kid := range x {
			n += count(kid)
		}
	}
	return n
}

func TestValueAtEveryPlace(t *testing.T) {
	for _, s := range documents() {
		ends := values(s)
		for at := -3; at <= len(s)+3; at++ {
			if end, ok := ends[at]; ok {
				sameValue(t, s, at, end, api.OK)
			} else {
				sameValue(t, s, at, 0, api.ErrRange)
			}
		}
	}
}

// As many values as the library finds, and their texts are those of its values.
func TestValueFindsAllValues(t *testing.T) {
	for _, s := range []string{
		`[null,true,false,0,"",[],{}]`, `{"":null,"[":"]","}":"{"}`, `{"id": 7, "tags": ["a", "b\u0063"], "pos": {"x": -1.50, "y": 1e2}}`, `[{"a":[{"b":[]}]},"]"]`, ` [ "a" , { "b" : "c" , "d" : [ "e" , -1.5e+3 ] } ] `, `{"a":{"a":{"a":1}}}`,
	} {
		var all any
		if err := json.Unmarshal([]byte(s), &all); err != nil {
			t.Fatal(err)
		}
		n := 0
		for at := range len(s) {
			end, e := Value(s, at)
			if e != api.OK {
				continue
			}
			n++
			if !library(s[at:end]) {
				t.Fatalf("Value(%q, %d) = %d", s, at, end)
			}
		}
		if want := count(all); n != want {
			t.Fatalf("%q: %d values, not %d", s, n, want)
		}
	}
}

// Names are no values, whatever stands between them and their colon.
func TestValueAtNames(t *testing.T) {
	for _, a := range rows(2, blank...) {
		for _, name := range names {
			s := "{" + a + name + a + ":" + a + name + a + "}"
			sameValue(t, s, 1+len(a), 0, api.ErrRange)
			from := 2 + 3*len(a) + len(name)
			sameValue(t, s, from, from+len(name), api.OK)
			for at := 1; at < len(s); at++ {
				if at != from {
					sameValue(t, s, at, 0, api.ErrRange)
				}
			}
			sameValue(t, s, 0, len(s), api.OK)
		}
	}
	sameValue(t, `[":"]`, 1, 4, api.OK)
	sameValue(t, `[":",":"]`, 1, 4, api.OK)
	sameValue(t, `{"a":"b","c":"d"}`, 5, 8, api.OK)
	sameValue(t, `{"a":"b","c":"d"}`, 9, 0, api.ErrRange)
	sameValue(t, `["a\"b" ,"c"]`, 1, 7, api.OK)
	sameValue(t, `["a\"b" ,"c"]`, 4, 0, api.ErrRange)
}

func TestValueAtNoPlaces(t *testing.T) {
	for _, s := range []string{"1", "[]", `"a"`, " null ", `{"a":1}`} {
		for _, at := range []int{-1, -2, -64, len(s), len(s) + 1, len(s) + 64, math.MinInt, math.MaxInt} {
			sameValue(t, s, at, 0, api.ErrRange)
		}
	}
}

func TestValueOfWhatIsNone(t *testing.T) {
	for _, s := range faults() {
		for at := -1; at <= len(s)+1; at++ {
			sameValue(t, s, at, 0, api.ErrInvalid)
		}
		sameValue(t, s, math.MaxInt, 0, api.ErrInvalid)
	}
}

func TestValueOfManyLevels(t *testing.T) {
	for _, pattern := range []string{"[", "{", "[{"} {
		s := nested(1024, pattern, "17")
		sameValue(t, s, 0, len(s), api.OK)
		at := strings.Index(s, "17")
		sameValue(t, s, at, at+2, api.OK)
		sameValue(t, s, at+1, 0, api.ErrRange)
		inner := place(1023, pattern)
		sameValue(t, s, inner, len(s)-1023, api.OK)
		for _, n := range []int{1025, 2000, 100000} {
			s := nested(n, pattern, "17")
			for _, at := range []int{-1, 0, 1, place(1000, pattern), strings.Index(s, "17"), len(s), len(s) + 1} {
				sameValue(t, s, at, 0, api.ErrInvalid)
			}
		}
	}
}

// P16.5

// nesting: how many arrays and objects lie in one another in a value, at most.
func nesting(x any) int {
	most := 0
	switch x := x.(type) {
	case []any:
		for _, kid := range x {
			most = max(most, nesting(kid))
		}
		return most + 1
	case map[string]any:
		for _, kid := range x {
			most = max(most, nesting(kid))
		}
		return most + 1
	}
	return 0
}

// oneName: documents in which no name stands twice in one object, as the library keeps one of them alone.
func oneName() []string {
	list := slices.Concat(scalars, nests)
	list = slices.DeleteFunc(list, func(s string) bool { return strings.Contains(s, `"a":1,"a"`) })
	for _, n := range []int{1, 2, 50, 1024, 1025, 3000} {
		list = append(list, nested(n, "[{{", "1"), nested(n, "[", "{}"), nested(n, "{[", `["[[["]`))
	}
	// Floats have no room for these.
	return slices.DeleteFunc(list, func(s string) bool { return strings.Contains(s, "e99") })
}

func TestADocumentHasAsManyLevelsAsDepthSays(t *testing.T) {
	for _, s := range oneName() {
		var all any
		if err := json.Unmarshal([]byte(s), &all); err != nil {
			t.Fatalf("%.40q: %v", s, err)
		}
		n := nesting(all)
		sameDepth(t, s, n)
		if Scalar(s) != (n == 0) {
			t.Fatalf("Scalar(%.40q)", s)
		}
		for _, depth := range []int{1, 2, n - 1, n, n + 1, api.MaxDepth} {
			if depth < 1 || depth > api.MaxDepth {
				continue
			}
			v, _ := Check(s, depth)
			if (v.Code == api.Valid) != (depth >= n) || (v.Code == api.TooDeep) != (depth < n) {
				t.Fatalf("Check(%.40q, %d) = %v, and it has %d levels", s, depth, v, n)
			}
		}
	}
}

// Where it is Invalid ahead of the end, all is said by the bytes up to there and the next one.
func TestInvalidWhateverComesBehind(t *testing.T) {
	behind := []string{"", " ", "]", "}", `"`, "1", ",", "null", "\xff", "\x80", `"a":1}`, "]]]]", "[[[[["}
	for _, s := range faults() {
		v, _ := Check(s, 3)
		if v.Code != api.Invalid {
			t.Fatalf("Check(%q) = %v", s, v)
		}
		if v.At == len(s) {
			continue
		}
		for _, b := range behind {
			longer := s[:v.At+1] + b
			bad(t, longer, v.At)
			if library(longer) {
				t.Fatalf("%q", longer)
			}
		}
	}
}

// A beginning of a document is one at every place of it, and is told as such.
func TestEveryBeginningOfADocument(t *testing.T) {
	for _, s := range documents() {
		for n := range len(s) {
			if library(s[:n]) {
				sameCheck(t, s[:n], api.MaxDepth, api.Valid, n)
			} else {
				bad(t, s[:n], n)
			}
		}
	}
}

// levelsOf: as many levels as the least depth with which Check is Valid says.
func levelsOf(t *testing.T, s string) int {
	t.Helper()
	if Scalar(s) {
		return 0
	}
	for depth := 1; depth <= api.MaxDepth; depth++ {
		if v, _ := Check(s, depth); v.Code == api.Valid {
			return depth
		}
	}
	t.Fatalf("%q is no document of at most so many levels", s)
	return 0
}

func TestDocumentsWithinDocuments(t *testing.T) {
	list := documents()
	for i, s := range list {
		n := levelsOf(t, s)
		for _, around := range [][2]string{{"[", "]"}, {`{"a":`, "}"}, {`{ "[" : `, "}"}} {
			wider := around[0] + s + around[1]
			if got := levelsOf(t, wider); got != n+1 {
				t.Fatalf("%q: %d levels, not %d", wider, got, n+1)
			}
		}
		other := list[(i*7+3)%len(list)]
		both := "[" + s + "," + other + "]"
		if got, want := levelsOf(t, both), max(n, levelsOf(t, other))+1; got != want {
			t.Fatalf("%q: %d levels, not %d", both, got, want)
		}
	}
	// And there is none around what is none.
	for _, s := range []string{"", " ", "1 1", "tru", "-", `"`, "[1", "1]", "\"\xff\""} {
		for _, wider := range []string{"[[" + s + "],1,]", `{"a":` + s + "}}"} {
			if v, _ := Check(wider, 9); v.Code != api.Invalid {
				t.Fatalf("Check(%q) = %v", wider, v)
			}
		}
	}
}

func TestBlanksAheadAndBehind(t *testing.T) {
	for _, s := range slices.Concat(documents(), faults()) {
		v, _ := Check(s, 2)
		for _, a := range []string{" ", "\t", "\n", "\r", " \t\r\n"} {
			w, _ := Check(a+s+a, 2)
			if v.Code == api.TooDeep && w != (api.Verdict{Code: api.TooDeep, At: v.At + len(a)}) {
				t.Fatalf("%q: %v, and %v with blanks", s, v, w)
			}
			if v.Code != w.Code {
				t.Fatalf("%q: %v, and %v with blanks", s, v, w)
			}
		}
	}
}

func TestEachValuesTextIsADocument(t *testing.T) {
	for _, s := range documents() {
		for at := range len(s) {
			end, e := Value(s, at)
			if e != api.OK {
				continue
			}
			text := s[at:end]
			good(t, text)
			sameValue(t, text, 0, len(text), api.OK)
			if strings.Trim(text, " \t\n\r") != text || text == "" {
				t.Fatalf("Value(%q, %d): %q", s, at, text)
			}
		}
	}
}

// Sameness

// asked: all that the calls answer of a text.
func asked(s string) string {
	v, e1 := Check(s, 2)
	w, e2 := Check(s, api.MaxDepth)
	end, e3 := Value(s, len(s)/2)
	whole, e4 := Value(s, 0)
	return fmt.Sprint(v, e1, w, e2, end, e3, whole, e4, Scalar(s), Depth(s))
}

func TestTheSameAgainWhateverElseRuns(t *testing.T) {
	list := slices.Concat(documents(), faults(), []string{nested(1024, "[{", "1"), nested(1025, "[{", "1"), strings.Repeat("[", 5000)})
	want := make([]string, len(list))
	for i, s := range list {
		want[i] = asked(s)
	}
	var group sync.WaitGroup
	for k := range 8 {
		group.Go(func() {
			for i := range len(list) {
				at := (i*7 + k) % len(list)
				if got := asked(list[at]); got != want[at] {
					t.Errorf("%.40q: %s, not %s", list[at], got, want[at])
				}
			}
		})
	}
	group.Wait()
}

func ExampleCheck() {
	fmt.Println(Check(`{"a": [1, 2.5e3, "\n"]}`, 5))
	fmt.Println(Check(`{"a": [1, 2.5e3, "\n"]}`, 1))
	fmt.Println(Check(`[1,]`, 5))
	_, err := Check("[]", 0)
	fmt.Println(err == api.ErrRange)
	// Output:
	// {1 23} 0
	// {3 6} 0
	// {2 3} 0
	// true
}

func ExampleScalar() {
	fmt.Println(Scalar(" 1 "), Scalar("[]"), Scalar("1 1"))
	// Output:
	// true false false
}

func ExampleDepth() {
	fmt.Println(Depth("[[[]],1]"), Depth("]]["), Depth(`"["`))
	// Output:
	// 3 1 0
}

func ExampleValue() {
	fmt.Println(Value(`{"a": [1, true]}`, 6))
	_, err := Value(`{"a": [1, true]}`, 1)
	fmt.Println(err == api.ErrRange)
	// Output:
	// 15 0
	// true
}
