package path

import (
	"fmt"
	"iter"
	"math"
	"slices"
	"strconv"
	"strings"
	"sync"
	"testing"
	"unicode"
	"unsafe"

	"quarry/api"
	"quarry/pointer"
	"quarry/texts"
	"quarry/tree"
)

// The calls' exact types.
var (
	_ func([]api.Step) bool                                    = Formed
	_ func(string) ([]api.Step, api.Errno, int)                = Parse
	_ func([]api.Step) (string, api.Errno)                     = Print
	_ func(api.Step, string, int, bool) bool                   = Takes
	_ func(api.Value, []api.Step) iter.Seq2[string, api.Value] = All
)

// parsed: the value of a text that is a document.
func parsed(t *testing.T, s string) api.Value {
	t.Helper()
	v, verdict, e := tree.Parse(s, api.MaxDepth)
	if verdict.Code != api.Valid || e != api.OK {
		t.Fatalf("tree.Parse(%.80q): %v, %d", s, verdict, e)
	}
	return v
}

func sameFormed(t *testing.T, p []api.Step, want bool) {
	t.Helper()
	if got := Formed(p); got != want {
		t.Fatalf("Formed(%s) = %v", brief(p), got)
	}
}

// samePath: s is a text of the path.
func samePath(t *testing.T, s string, want ...api.Step) {
	t.Helper()
	if got, e, at := Parse(s); !slices.Equal(got, want) || e != api.OK || at != 0 {
		t.Fatalf("Parse(%.200q) = %s, %d, %d, not %s", s, brief(got), e, at, brief(want))
	}
}

// refused: s is no path's text, and could be the beginning of one up to the place; nothing is told beside that.
func refused(t *testing.T, s string, want int) {
	t.Helper()
	if got, e, at := Parse(s); len(got) != 0 || e != api.ErrPath || at != want {
		t.Fatalf("Parse(%.200q) = %s, %d, %d, not %d", s, brief(got), e, at, want)
	}
}

// asPlain: Parse says what the chapter's words do; whether s is a path's text.
func asPlain(t *testing.T, s string) bool {
	t.Helper()
	if isText(s) {
		samePath(t, s, meaning(s)...)
		return true
	}
	refused(t, s, faultOf(s))
	return false
}

func prints(t *testing.T, want string, p ...api.Step) {
	t.Helper()
	if got, e := Print(p); got != want || e != api.OK {
		t.Fatalf("Print(%s) = %.200q, %d, not %.200q", brief(p), got, e, want)
	}
}

// misshapen: neither well shaped nor printed.
func misshapen(t *testing.T, p ...api.Step) {
	t.Helper()
	sameFormed(t, p, false)
	if got, e := Print(p); got != "" || e != api.ErrShape {
		t.Fatalf("Print(%s) = %.200q, %d", brief(p), got, e)
	}
}

func sameTakes(t *testing.T, s api.Step, name string, place int, object, want bool) {
	t.Helper()
	if got := Takes(s, name, place, object); got != want {
		t.Fatalf("Takes(%+v, %q, %d, %v) = %v", s, name, place, object, got)
	}
}

// sameRows: so much of what is found, each with its pointer.
func sameRows(t *testing.T, what string, got, want []string) {
	t.Helper()
	if !slices.Equal(got, want) {
		t.Fatalf("%.200s: %.600q, not %.600q", what, got, want)
	}
}

// findsAsPlain: All says what the chapter's words do, of a well shaped value and path; how many it finds.
func findsAsPlain(t *testing.T, v api.Value, p []api.Step) int {
	t.Helper()
	want := told(finds(v, p))
	sameRows(t, brief(v)+" "+brief(p), heard(All(v, p)), want)
	return len(want)
}

// findsNothing: of whatever isn't well shaped.
func findsNothing(t *testing.T, v api.Value, p []api.Step) {
	t.Helper()
	for at, w := range All(v, p) {
		t.Fatalf("All(%s, %s): %q %s", brief(v), brief(p), at, brief(w))
	}
}

// P22.1

func TestFormedOfNoSteps(t *testing.T) {
	sameFormed(t, nil, true)
	sameFormed(t, []api.Step{}, true)
}

func TestFormedOfEachKind(t *testing.T) {
	for _, s := range []api.Step{name(""), name("a"), name("c d"), name("\x00"), place(0), place(1), place(greatest), all} {
		sameFormed(t, []api.Step{s}, true)
		sameFormed(t, []api.Step{s, s}, true)
	}
	for _, kind := range []int{math.MinInt, -3, -2, -1, 0, 4, 5, 9, 255, 256, 257, 258, 259, 1<<32 + 1, 1<<32 + 2, 1<<32 + 3, math.MaxInt} {
		misshapen(t, api.Step{Kind: kind})
		misshapen(t, api.Step{Kind: kind, Name: "a"})
		misshapen(t, api.Step{Kind: kind, Place: 1})
	}
}

func TestFormedOfFields(t *testing.T) {
	for _, s := range names {
		sameFormed(t, []api.Step{name(s)}, true)
		for _, n := range []int{1, -1, greatest, math.MinInt, math.MaxInt} {
			misshapen(t, api.Step{Kind: api.ByName, Name: s, Place: n})
		}
		if s != "" {
			misshapen(t, api.Step{Kind: api.ByPlace, Name: s})
			misshapen(t, api.Step{Kind: api.ByPlace, Name: s, Place: 7})
			misshapen(t, api.Step{Kind: api.Each, Name: s})
		}
	}
	for _, s := range notUTF8 {
		misshapen(t, name(s))
		misshapen(t, api.Step{Kind: api.ByPlace, Name: s})
		misshapen(t, api.Step{Kind: api.Each, Name: s})
	}
	for _, n := range []int{-1, -2, -10, -greatest, -greatest - 1, math.MinInt, math.MinInt + 1, greatest + 1, greatest + 2, 2 * (greatest + 1), 9 * (greatest + 1), math.MaxInt - 1, math.MaxInt} {
		misshapen(t, place(n))
		misshapen(t, api.Step{Kind: api.Each, Place: n})
	}
	for _, n := range []int{0, 1, 9, 10, 1 << 31, 1<<31 - 1, 1 << 32, 1 << 53, 99999999999999999, 100000000000000000, greatest - 1, greatest} {
		sameFormed(t, []api.Step{place(n)}, true)
	}
	misshapen(t, api.Step{Kind: api.Each, Place: 1})
	misshapen(t, api.Step{Kind: api.Each, Name: "a"})
}

func TestFormedOfAStepThatIsNoGood(t *testing.T) {
	good := []api.Step{name("a"), place(0), all, name("")}
	is, not := 0, 0
	for _, s := range steps() {
		for _, p := range [][]api.Step{
			{s}, append([]api.Step{s}, good...), append(slices.Clone(good), s),
			{good[0], good[1], s, good[2], good[3]}, {s, s}, append(slices.Repeat(good, 50), s), append([]api.Step{s}, slices.Repeat(good, 50)...),
		} {
			want := isStep(s)
			sameFormed(t, p, want)
			if !want {
				misshapen(t, p...)
				not++
				continue
			}
			is++
			prints(t, writtenOf(p), p...)
		}
	}
	if is < 50 || not < 1000 {
		t.Error(is, not)
	}
}

// P22.2

func TestParseExamples(t *testing.T) {
	samePath(t, "$")
	samePath(t, `$.a[0].b_1["c d"].*[*]`, name("a"), place(0), name("b_1"), name("c d"), all, all)
	samePath(t, `$["a\u002f"]`, name("a/"))
	samePath(t, `$[""]`, name(""))
	refused(t, `$.\_`, 2)
	for s, want := range map[string]int{"": 0, "a": 0, "$a": 1, "$.": 2, "$.1": 2, "$.a b": 3, "$[": 2, "$[01]": 3, "$[-1]": 2, "$[1": 3, "$[1000000000000000000]": 20, `$["a`: 4, `$["a"`: 5, `$["\x"]`: 4, "$[*.a": 3, "$.*a": 3, "$[\"\xff": 3} {
		refused(t, s, want)
		if isText(s) || faultOf(s) != want {
			t.Errorf("%q: %d", s, faultOf(s))
		}
	}
}

// Each way in which a step can be written.
var ways = []struct {
	s    string
	step api.Step
}{
	{".a", name("a")}, {"._", name("_")}, {".Z", name("Z")}, {".b_1", name("b_1")}, {".null", name("null")}, {`["a"]`, name("a")}, {`["\u0061"]`, name("a")}, {`["b_1"]`, name("b_1")},
	{`[""]`, name("")}, {`["1"]`, name("1")}, {`["*"]`, name("*")}, {`["c d"]`, name("c d")}, {`["\""]`, name("\"")}, {`["]"]`, name("]")}, {`["[\"]"]`, name("[\"]")}, {`["\\"]`, name("\\")}, {`["\\\""]`, name("\\\"")}, {`[".a"]`, name(".a")}, {`["$"]`, name("$")},
	{"[\"\u00e4\"]", name("\u00e4")}, {"[\"\U0001f600\"]", name("\U0001f600")}, {`["\ud83d\ude00"]`, name("\U0001f600")}, {`["\/\b\f\n\r\t"]`, name("/\b\f\n\r\t")},
	{"[0]", place(0)}, {"[7]", place(7)}, {"[10]", place(10)}, {"[999999999999999999]", place(greatest)}, {"[100000000000000000]", place(100000000000000000)},
	{".*", all}, {"[*]", all},
}

func TestParseOfEachWay(t *testing.T) {
	for _, a := range ways {
		samePath(t, "$"+a.s, a.step)
		for _, b := range ways {
			samePath(t, "$"+a.s+b.s, a.step, b.step)
			samePath(t, "$"+b.s+a.s+b.s+b.s, b.step, a.step, b.step, b.step)
		}
	}
}

// What is cut off at any byte, and what has any byte put in, left out or changed, in each kind of step, as the first, the last or a middle one.
func TestParseOfSpoiltTexts(t *testing.T) {
	is, not := 0, 0
	for _, way := range ways {
		for _, s := range []string{"$" + way.s, "$.x" + way.s, "$" + way.s + ".x", "$[3]" + way.s + `["x"]`} {
			if len(s) > 25 && s != "$"+way.s {
				continue
			}
			for i := range len(s) {
				for _, x := range []string{s[:i], s[i:], s[:i] + s[i+1:]} {
					if asPlain(t, x) {
						is++
					} else {
						not++
					}
				}
				for _, x := range []byte("$.[]*\"\\ 0129-+_aAuzZ/'(,:;?@{}`^e\x00\t\n\r\x1f\x7f\x80\xbf\xc3\xe2\xed\xf0\xff") {
					c := string([]byte{x})
					for _, y := range []string{s[:i] + c + s[i:], s[:i] + c + s[i+1:]} {
						if asPlain(t, y) {
							is++
						} else {
							not++
						}
					}
				}
			}
		}
	}
	if is < 1000 || not < 1000 {
		t.Error(is, not)
	}
}

// Each of all bytes at each place of a step of each kind.
func TestParseOfEveryByte(t *testing.T) {
	for _, s := range []string{"$", "$.", "$.a", "$.a.", "$.*", "$[", "$[*", "$[*]", "$[0", "$[1", "$[12", "$[0]", `$["`, `$["a`, `$["\`, `$["\u`, `$["\u0`, `$["\u00`, `$["\u004`, `$["\u0041`, `$["\ud83d`, `$["\ud83d\`, `$["\ud83d\ude0`, `$["\ud83d\ude00`, `$["a"`, `$["a"]`, `$[""`, "$[\"\u00e4", "$[\"\xc3", "$[\"\xe0", "$[\"\xe2", "$[\"\xe2\x82", "$[\"\xed", "$[\"\xf0", "$[\"\xf0\x9f\x98", "$[\"\xf4", "$[\"\xf4\x8f", "$[\"\\\\", "$[\"\x7f", "$[100000000000000000", "$[99999999999999999", "$.a[0].b[\"c\"].*"} {
		if !isBeginning(s) {
			t.Fatalf("%q", s)
		}
		asPlain(t, s)
		for x := range 256 {
			c := string([]byte{byte(x)})
			for _, end := range []string{"", "]", `"]`, "a", "0]", "\x80", "\x80\"]"} {
				asPlain(t, s+c+end)
			}
		}
	}
	for x := range 256 {
		for _, rest := range []string{"", ".a", "[0]", "$", "$.a"} {
			asPlain(t, string([]byte{byte(x)})+rest)
		}
	}
}

func TestParseOfShortTexts(t *testing.T) {
	for _, s := range rows(5, ".", "[", "]", "*", "a", "0", `"`) {
		asPlain(t, "$"+s)
	}
	for _, s := range rows(5, `"`, "]", `\`, "u", "0", "\xe2") {
		asPlain(t, `$["`+s)
	}
	for _, s := range rows(4, "$", ".", "[", "a") {
		asPlain(t, s)
	}
	for _, s := range rows(4, "0", "1", "9", "-", "]", " ", "+", "e", "_") {
		asPlain(t, "$["+s)
	}
	for _, s := range rows(4, "a", "Z", "_", "0", "9", " ", "-", "\u00e4", ".") {
		asPlain(t, "$."+s)
	}
	for _, s := range rows(4, "\x80", "\xa0", "\xc3", "\xe0", "\xed", "\xf0", "\x9f", "\xf4", `"`) {
		asPlain(t, `$["`+s)
	}
}

func TestParseOfNamesBehindAPoint(t *testing.T) {
	const letters = "abcdefghijklmnopqrstuvwxyzABCDEFGHIJKLMNOPQRSTUVWXYZ_"
	for x := range 256 {
		c := string([]byte{byte(x)})
		first, later := strings.Contains(letters, c), strings.Contains(letters+"0123456789", c)
		switch {
		case first:
			samePath(t, "$."+c, name(c))
			samePath(t, "$."+c+c+"[0]", name(c+c), place(0))
		case c == "*":
			samePath(t, "$.*", all)
		default:
			refused(t, "$."+c, 2)
			refused(t, "$.a."+c+"a", 4)
		}
		switch {
		case later:
			samePath(t, "$.a"+c, name("a"+c))
			samePath(t, "$._"+c+"Z.b", name("_"+c+"Z"), name("b"))
		case c == "." || c == "[":
			refused(t, "$.a"+c, 4)
		default:
			refused(t, "$.a"+c, 3)
			refused(t, "$.ab1"+c+".b", 5)
		}
	}
	for _, s := range rows(4, "a", "Z", "_", "0", "9") {
		if s != "" && s[0] > '9' {
			samePath(t, "$."+s, name(s))
			samePath(t, "$."+s+"."+s+".*", name(s), name(s), all)
		} else {
			refused(t, "$."+s, 2)
		}
	}
	for _, s := range []string{"\u00e4", "\u0430", "\u212a", "\u017f", "\u0660", "\uff41", "\uff3f", "\U0001d41a"} {
		refused(t, "$."+s, 2)
		refused(t, "$.a"+s, 3)
	}
}

func TestParseOfPlaces(t *testing.T) {
	for n := range 2000 {
		s := strconv.Itoa(n)
		samePath(t, "$["+s+"]", place(n))
		refused(t, "$[0"+s+"]", 3)
		refused(t, "$[-"+s+"]", 2)
		refused(t, "$["+s, 2+len(s))
		refused(t, "$["+s+".", 2+len(s))
		refused(t, "$["+s+"x]", 2+len(s))
	}
	for n := 1; n <= 40; n++ {
		for _, first := range "123456789" {
			for _, rest := range "0123456789" {
				s := string(first) + strings.Repeat(string(rest), n-1)
				if n > 18 {
					refused(t, "$["+s+"]", 20)
					refused(t, "$.a["+s, 22)
					continue
				}
				want, err := strconv.Atoi(s)
				if err != nil {
					t.Fatal(err)
				}
				samePath(t, "$["+s+"]", place(want))
				samePath(t, "$["+s+"][0]", place(want), place(0))
			}
		}
		refused(t, "$["+strings.Repeat("0", n+1)+"]", 3)
	}
	samePath(t, "$[123456789012345678]", place(123456789012345678))
	for s, want := range map[string]int{
		"$[1234567890123456789]": 20, "$[9223372036854775807]": 20, "$[9223372036854775808]": 20, "$[18446744073709551616]": 20, "$[18446744073709551617]": 20,
		"$[]": 2, "$[ 1]": 2, "$[1 ]": 3, "$[1.0]": 3, "$[1e1]": 3, "$[+1]": 2, "$[-0]": 2, "$[--1]": 2, "$[0x1]": 3, "$[1_0]": 3, "$[1,2]": 3, "$[1:2]": 3, "$[00]": 3, "$[007]": 3, "$[0": 3, "$[0.": 3,
		"$[\u0661]": 2, "$[1\u0661]": 3, "$[\uff11]": 2, "$[1*]": 3, "$[*1]": 3, "$[1\"a\"]": 3, "$[\"a\"1]": 5, "$[a]": 2, "$['a']": 2, "$[?]": 2, "$[[0]]": 2, "$[0]]": 4, "$[0][": 5, "$[0].": 5, "$[0]0": 4, "$[0]a": 4,
	} {
		refused(t, s, want)
	}
}

func TestParseOfBlanks(t *testing.T) {
	for _, blank := range []string{" ", "\t", "\n", "\r", "\v", "\f", "\u00a0", "\u2028", "\ufeff"} {
		const s = `$.a[0]["b"].*[*]`
		for i := range len(s) + 1 {
			within := i > 7 && i < 10 // between the quotes
			if within && blank[0] >= ' ' {
				samePath(t, s[:i]+blank+s[i:], meaning(s[:i]+blank+s[i:])...)
			} else {
				refused(t, s[:i]+blank+s[i:], i)
			}
		}
	}
	samePath(t, `$[" "]`, name(" "))
	samePath(t, `$[" a "]`, name(" a "))
}

func TestParseOfEscapes(t *testing.T) {
	for s, want := range map[string]string{
		`\"`: "\"", `\\`: "\\", `\/`: "/", `\b`: "\b", `\f`: "\f", `\n`: "\n", `\r`: "\r", `\t`: "\t",
		`\u0041`: "A", `\u0000`: "\x00", `\u001f`: "\x1f", `\u0022`: "\"", `\u005c`: "\\", `\u005C`: "\\", `\u005d`: "]", `\u00e4`: "\u00e4", `\u00E4`: "\u00e4", `\u20ac`: "\u20ac", `\uabcd`: "\uabcd", `\uABCD`: "\uabcd", `\uffff`: "\uffff", `\ufffd`: "\ufffd",
		`\ud83d\ude00`: "\U0001f600", `\uD83D\uDE00`: "\U0001f600", `\ud800\udc00`: "\U00010000", `\udbff\udfff`: "\U0010ffff",
		`\ud83d`: "\ufffd", `\ude00`: "\ufffd", `\ude00\ud83d`: "\ufffd\ufffd", `\ud83d\u0041`: "\ufffdA", `\ud83dx`: "\ufffdx", `\ud83d\n`: "\ufffd\n", `\ud83d\ud83d\ude00`: "\ufffd\U0001f600", `\ud83d\\ude00`: "\ufffd\\ude00", `\ud83d\ude00\ude00`: "\U0001f600\ufffd", `\ud7ff\ue000`: "\ud7ff\ue000",
		`\\\"`: "\\\"", `\\\\`: "\\\\", `\\]`: "\\]", `\"]`: "\"]", `\"].a[\"`: "\"].a[\"", `a\nb`: "a\nb", `\\u0041`: "\\u0041", `[]`: "[]", `.`: ".", `$.*`: "$.*", `'`: "'", `//`: "//", "\x7f": "\x7f",
	} {
		samePath(t, `$["`+s+`"]`, name(want))
		samePath(t, `$.a["`+s+`"]["`+s+`"].b`, name("a"), name(want), name(want), name("b"))
		samePath(t, `$["x`+s+`y"]`, name("x"+want+"y"))
		refused(t, `$["`+s, 3+len(s))
		refused(t, `$["`+s+`"`, 4+len(s))
		refused(t, `$["`+s+`".a`, 4+len(s))
	}
	for x := range 256 {
		c := string([]byte{byte(x)})
		switch {
		case c == "u":
			refused(t, `$["\u"]`, 5)
		case strings.Contains(`"\/bfnrt`, c):
			samePath(t, `$["\`+c+`"]`, meaning(`$["\`+c+`"]`)...)
		default:
			refused(t, `$["\`+c+`"]`, 4)
			refused(t, `$.a["b\`+c+`"]`, 7)
		}
		for i, hex := range []string{"", "0", "00", "d83", "d83d\\", `d83d\u`, `d83d\ude`} {
			s := `$["\u` + hex + c
			asPlain(t, s)
			if s += strings.Repeat("0", 4) + `"]`; asPlain(t, s) && i < 3 && !unicode.Is(unicode.ASCII_Hex_Digit, rune(x)) {
				t.Errorf("%q", s)
			}
		}
	}
	for s, want := range map[string]int{`$["\`: 4, `$["\u`: 5, `$["\u1`: 6, `$["\u12`: 7, `$["\u123`: 8, `$["\u1234`: 9, `$["\u12g4"]`: 7, `$["\u12"]`: 7, `$["\U0041"]`: 4, `$["\u 041"]`: 5, `$["\u+041"]`: 5, `$["\ud83d\u"]`: 11, `$["\ud83d\x"]`: 10, `$["\ud83d\ude0"]`: 14, `$["\x41"]`: 4, `$["\'"]`: 4, `$["\0"]`: 4, `$["a"b"]`: 5, `$["a\"]`: 7, `$["\\\"]`: 8, `$["\\"]"]`: 7, `$["a""b"]`: 5, `$[""a"]`: 4, `$["a" ]`: 5, `$["a"]]`: 6, `$[" "`: 5, `$["`: 3} {
		refused(t, s, want)
	}
}

func TestParseOfControlBytes(t *testing.T) {
	for x := range 256 {
		c := string([]byte{byte(x)})
		for _, s := range []string{"", "a", "a b", "\u00e4", `\n`, `\\`, `\"`} {
			switch {
			case x < ' ':
				refused(t, `$["`+s+c+`"]`, 3+len(s))
				refused(t, `$["`+s+c, 3+len(s))
				refused(t, `$.b["`+s+c+`]`, 5+len(s))
			case x > 127:
				asPlain(t, `$["`+s+c+`"]`)
			}
		}
	}
}

// Characters of one to four bytes, cut off at every byte, with all that may come then.
func TestParseOfCharacters(t *testing.T) {
	for _, c := range []string{" ", "a", "\x7f", "\u0080", "\u00e4", "\u07ff", "\u0800", "\u20ac", "\ud7ff", "\ue000", "\ufeff", "\ufffd", "\uffff", "\U00010000", "\U0001f600", "\U0010ffff", "\u222f", "\u5c5c", "\u025c", "\u2222", "\u5d5d"} {
		samePath(t, `$["`+c+`"]`, name(c))
		samePath(t, `$.a["x`+c+c+`y"][*]["`+c+`"]`, name("a"), name("x"+c+c+"y"), all, name(c))
		refused(t, `$[`+c+`]`, 2)
		if c != "a" {
			refused(t, `$.a`+c, 3)
			refused(t, `$.`+c, 2)
		}
		for n := 1; n < len(c); n++ {
			cut := c[:n]
			refused(t, `$["`+cut, 3+n)
			refused(t, `$["`+cut+`"]`, 3+n)
			refused(t, `$["`+cut+`\n"]`, 3+n)
			refused(t, `$["`+cut+`a"]`, 3+n)
			refused(t, `$["`+cut+"\n", 3+n)
			refused(t, `$["`+cut+cut, 3+n)
			refused(t, `$["`+c+cut, 3+len(c)+n)
			refused(t, `$["`+c+cut+`"]`, 3+len(c)+n)
			refused(t, `$.a["`+cut+`"].b["\x"]`, 5+n)
			refused(t, `$["`+c[n:]+`"]`, 3)
			refused(t, `$["\`+c+`"]`, 4)
			refused(t, `$["\u`+c+`"]`, 5)
		}
	}
	for c := rune(' '); c <= unicode.MaxRune; c += 5 {
		if s := string(c); s != `"` && s != `\` {
			samePath(t, `$["`+s+`"]`, name(s))
		}
	}
	for _, s := range notUTF8 {
		asPlain(t, `$["`+s)
		if asPlain(t, `$["`+s+`"]`) || asPlain(t, `$.a["b`+s+`"].c`) {
			t.Errorf("%q", s)
		}
		// The fault that comes first is told.
		refused(t, `$["\x`+s+`"]`, 4)
		refused(t, `$.1["`+s+`"]`, 2)
	}
	for s, want := range map[string]int{"$[\"\xc0\x80\"]": 3, "$[\"\xe0\x80\x80\"]": 4, "$[\"\xed\xa0\x80\"]": 4, "$[\"\xf0\x8f\"]": 4, "$[\"\xf4\x90\"]": 4, "$[\"\xf5\"]": 3, "$[\"\xe2\x82A\"]": 5, "$[\"\x80\"]": 3, "$\xc3\xa4": 1, "$.\xc3\xa4": 2, "\xff": 0, "\xef\xbb\xbf$": 0, "$\x00": 1, "$.a\x00": 3} {
		refused(t, s, want)
	}
}

func TestParseOfOtherTexts(t *testing.T) {
	for s, want := range map[string]int{
		" ": 0, " $": 0, "$ ": 1, "$$": 1, "$.$": 2, "$.a$": 3, "a.b": 0, ".a": 0, "[0]": 0, "@.a": 0, "*": 0, "null": 0, "/a": 0, "$/a": 1,
		"$..": 2, "$..a": 2, "$.a..b": 4, "$.a.": 4, "$.[0]": 2, "$.\"a\"": 2, "$.**": 3, "$.*.": 4, "$.*[": 4, "$*": 1, "$.a*": 3, "$.*1": 3, "$[*": 3, "$[**]": 3, "$[*]]": 4, "$[*]*": 4, "$[.a]": 2, "$[$]": 2, "$[[": 2, "$]": 1, "$[\\\"a\"]": 2, "$.\\u0061": 2, "$(a)": 1, "$,": 1, "$.a,.b": 3, "$.a\n": 3,
	} {
		refused(t, s, want)
		if faultOf(s) != want {
			t.Errorf("%q: %d", s, faultOf(s))
		}
	}
}

func TestParseOfLongTexts(t *testing.T) {
	const n = 100000
	samePath(t, "$"+strings.Repeat(".ab[0].*", n), slices.Repeat([]api.Step{name("ab"), place(0), all}, n)...)
	samePath(t, "$."+strings.Repeat("a", n), name(strings.Repeat("a", n)))
	samePath(t, `$["`+strings.Repeat(`\"]\\`, n)+`"]`, name(strings.Repeat(`"]\`, n)))
	samePath(t, "$"+strings.Repeat(`["]\u00e4"]`, n), slices.Repeat([]api.Step{name("]\u00e4")}, n)...)
	refused(t, "$"+strings.Repeat(".ab", n)+".", 2+3*n)
	refused(t, "$"+strings.Repeat(".ab", n)+"]"+strings.Repeat(".ab", n), 1+3*n)
	refused(t, `$["`+strings.Repeat("\u00e4", n), 3+2*n)
	refused(t, `$["`+strings.Repeat(`\\`, n)+`\"]`, 5+2*n+1)
	refused(t, `$["`+strings.Repeat("\u00e4", n)+"\xe2\"]", 4+2*n)
	refused(t, "$"+strings.Repeat(`["]"]`, n)+`["`, 3+5*n)
	refused(t, "$["+strings.Repeat("1", n), 20)
	refused(t, strings.Repeat("[", n), 0)
}

// P22.3

func TestPrintExamples(t *testing.T) {
	prints(t, `$.a[0].*["c d"][""][9]`, name("a"), place(0), all, name("c d"), name(""), place(9))
	prints(t, `$["\""]`, name("\""))
	prints(t, "$[\"\xc3\xa9\"]", name("\u00e9"))
	misshapen(t, place(-1))
	misshapen(t, api.Step{Kind: 9})
	misshapen(t, name("\xff"))
	misshapen(t, api.Step{Kind: api.Each, Name: "a"})
	prints(t, "$")
	prints(t, "$", []api.Step{}...)
}

func TestPrintOfEachKind(t *testing.T) {
	prints(t, "$.*", all)
	prints(t, "$.*.*", all, all)
	for _, n := range []int{0, 1, 9, 10, 123, 1 << 31, greatest - 1, greatest} {
		prints(t, "$["+strconv.Itoa(n)+"]", place(n))
		prints(t, "$.a["+strconv.Itoa(n)+"].*", name("a"), place(n), all)
	}
	for s, want := range map[string]string{
		"a": ".a", "_": "._", "Z": ".Z", "a0": ".a0", "_9": "._9", "b_1": ".b_1", "__": ".__", "null": ".null", "length": ".length",
		"": `[""]`, "0": `["0"]`, "1a": `["1a"]`, "9_": `["9_"]`, "a b": `["a b"]`, "a-b": `["a-b"]`, "a.b": `["a.b"]`, "a ": `["a "]`, " a": `[" a"]`, "*": `["*"]`, "$": `["$"]`, "[0]": `["[0]"]`, "a]": `["a]"]`, "/": `["/"]`, "~": `["~"]`, "'": `["'"]`, "a'": `["a'"]`,
		"\"": `["\""]`, "\\": `["\\"]`, "\\n": `["\\n"]`, "\b\f\n\r\t": `["\b\f\n\r\t"]`, "\x00": `["\u0000"]`, "\x1f": `["\u001f"]`, "a\x01b": `["a\u0001b"]`, "\x7f": "[\"\x7f\"]",
		"\u00e4": "[\"\u00e4\"]", "a\u00e4": "[\"a\u00e4\"]", "\u00e4a": "[\"\u00e4a\"]", "\u0080": "[\"\u0080\"]", "\u20ac": "[\"\u20ac\"]", "\U0001f600": "[\"\U0001f600\"]", "\u212a": "[\"\u212a\"]", "\u0660": "[\"\u0660\"]", "a\u0660": "[\"a\u0660\"]", "\ufffd": "[\"\ufffd\"]", "\u2028": "[\"\u2028\"]",
	} {
		prints(t, "$"+want, name(s))
		prints(t, "$.x"+want+"[0]"+want, name("x"), name(s), place(0), name(s))
	}
}

func TestPrintOfNames(t *testing.T) {
	for _, s := range names {
		prints(t, writtenOf([]api.Step{name(s)}), name(s))
		raw, _ := texts.Escape(s)
		if !nameText.MatchString(s) {
			prints(t, `$["`+raw+`"]`, name(s))
		}
		for _, u := range names {
			p := []api.Step{name(s), place(1), name(u), all, name(s + u)}
			prints(t, writtenOf(p), p...)
		}
	}
	for x := range 128 {
		for y := range 128 {
			p := []api.Step{name(string([]byte{byte(x), byte(y)}))}
			prints(t, writtenOf(p), p...)
		}
	}
	for c := rune(0); c <= unicode.MaxRune; c += 3 {
		p := []api.Step{name(string(c)), name("a" + string(c))}
		prints(t, writtenOf(p), p...)
	}
}

// P22.4

func TestTakesExamples(t *testing.T) {
	sameTakes(t, name("a"), "a", 7, true, true)
	sameTakes(t, name("a"), "a", 7, false, false)
	sameTakes(t, place(7), "a", 7, false, true)
	for _, s := range names {
		for _, n := range []int{-1, 0, 7, math.MaxInt} {
			sameTakes(t, all, s, n, true, true)
			sameTakes(t, all, s, n, false, true)
			sameTakes(t, api.Step{}, s, n, true, false)
			sameTakes(t, api.Step{}, s, n, false, false)
		}
	}
}

// Each kind, and kinds that are none, for members and elements of all names and places, with all fields filled.
func TestTakesOfAnySteps(t *testing.T) {
	is := 0
	for _, s := range steps() {
		for _, own := range []string{"", "a", "A", "aa", "7", "c d", "\u00e4", "\xff", "a\xe2\x82", "a\xe2"} {
			for _, n := range []int{math.MinInt, -greatest, -7, -1, 0, 1, 7, 1 << 31, greatest, greatest + 1, math.MaxInt} {
				for _, object := range []bool{false, true} {
					want := takesIt(s, own, n, object)
					sameTakes(t, s, own, n, object, want)
					if want {
						is++
					}
				}
			}
		}
	}
	if is < 1000 {
		t.Error(is)
	}
}

func TestTakesLooksAtNothingElse(t *testing.T) {
	full := api.Step{Kind: api.ByName, Name: "a", Place: 3}
	sameTakes(t, full, "a", 0, true, true)
	sameTakes(t, full, "b", 3, true, false)
	sameTakes(t, full, "a", 3, false, false)
	full.Kind = api.ByPlace
	sameTakes(t, full, "b", 3, false, true)
	sameTakes(t, full, "a", 4, false, false)
	sameTakes(t, full, "a", 3, true, false)
	full.Kind = api.Each
	sameTakes(t, full, "b", 4, true, true)
	sameTakes(t, full, "b", 4, false, true)
	for _, kind := range []int{-1, 0, 4, 257, 258, 259, math.MinInt, math.MaxInt} {
		full.Kind = kind
		sameTakes(t, full, "a", 3, true, false)
		sameTakes(t, full, "a", 3, false, false)
	}
	// A place that no path may have, and a name that isn't UTF-8, are asked like others.
	sameTakes(t, place(-1), "", -1, false, true)
	sameTakes(t, place(greatest+1), "", greatest+1, false, true)
	sameTakes(t, name("\xff"), "\xff", 0, true, true)
	sameTakes(t, name("\xff"), "\xfe", 0, true, false)
	sameTakes(t, name("\xff"), "\ufffd", 0, true, false)
	// Names as they are: neither names of places nor characters that look like others.
	sameTakes(t, name("7"), "", 7, false, false)
	sameTakes(t, place(7), "7", 0, true, false)
	sameTakes(t, name("\u00e4"), "a\u0308", 0, true, false)
	sameTakes(t, name("~0"), "~", 0, true, false)
}

// P22.5

func TestAllExamples(t *testing.T) {
	v := parsed(t, `{"a":[1,{"b":2}],"c":{"b":3},"a":{"b":4}}`)
	for s, want := range map[string][]string{
		"$.*.b": {"/c/b", "3"}, "$.a[1].b": {"/a/1/b", "2"}, "$.a.*": {"/a/0", "1", "/a/1", `{"b":2}`}, "$": {"", `{"a":[1,{"b":2}],"c":{"b":3},"a":{"b":4}}`}, "$.a[2]": nil, "$.c[0]": nil, "$.a.b": nil,
	} {
		p, e, _ := Parse(s)
		if e != api.OK {
			t.Fatal(s, e)
		}
		var list []string
		for i := 0; i < len(want); i += 2 {
			list = append(list, want[i]+" "+show(parsed(t, want[i+1])))
		}
		sameRows(t, s, heard(All(v, p)), list)
	}
}

func TestAllOfWhatIsNotWellShaped(t *testing.T) {
	for _, v := range bad() {
		for _, p := range [][]api.Step{nil, {all}, {name("a")}, {place(0)}, {name("none")}, {all, all}} {
			findsNothing(t, v, p)
		}
	}
	// Also where the path leads past what isn't well shaped.
	v := object("good", array(null()), "bad", num("01"))
	findsNothing(t, v, []api.Step{name("good"), place(0)})
	findsNothing(t, v, []api.Step{name("good")})
	// A list that lies within itself is deeper than anything, and the call ends all the same.
	for _, kind := range []int{api.Array, api.Object} {
		kids := make([]api.Value, 2)
		v := api.Value{Kind: kind, Kids: kids}
		if kind == api.Object {
			v.Keys = []string{"a", "b"}
		}
		kids[0], kids[1] = v, v
		findsNothing(t, v, nil)
		findsNothing(t, v, []api.Step{all, all})
	}
}

func TestAllOfNoPaths(t *testing.T) {
	for _, v := range []api.Value{null(), array(null(), null()), object("a", array(null()), "", null()), num("01")} {
		for _, s := range steps() {
			if isStep(s) {
				continue
			}
			// Also behind steps that take nothing.
			for _, p := range [][]api.Step{{s}, {s, all}, {all, s}, {name("a"), s, all}, {name("none"), s}, {all, all, all, s}} {
				findsNothing(t, v, p)
			}
		}
	}
}

func TestAllOfNoSteps(t *testing.T) {
	for _, v := range values() {
		for _, p := range [][]api.Step{nil, {}} {
			sameRows(t, brief(v), heard(All(v, p)), []string{" " + show(v)})
		}
	}
}

func TestAllInArrays(t *testing.T) {
	for _, n := range []int{0, 1, 2, 9, 10, 11, 100, 301} {
		v := array()
		var want, within []string
		for i := range n {
			kid := array(num(strconv.Itoa(i)))
			v.Kids = append(v.Kids, kid)
			want = append(want, "/"+strconv.Itoa(i)+" "+show(kid))
			within = append(within, "/"+strconv.Itoa(i)+"/0 "+show(kid.Kids[0]))
		}
		sameRows(t, "each", heard(All(v, []api.Step{all})), want)
		sameRows(t, "each, each", heard(All(v, []api.Step{all, all})), within)
		sameRows(t, "each, 0", heard(All(v, []api.Step{all, place(0)})), within)
		findsNothing(t, v, []api.Step{all, place(1)})
		for i := range n {
			sameRows(t, "place", heard(All(v, []api.Step{place(i)})), want[i:i+1])
			sameRows(t, "place, each", heard(All(v, []api.Step{place(i), all})), within[i:i+1])
			findsNothing(t, v, []api.Step{name(strconv.Itoa(i))})
		}
		for _, i := range []int{n, n + 1, 1 << 31, 1 << 32, greatest} {
			findsNothing(t, v, []api.Step{place(i)})
			findsNothing(t, v, []api.Step{place(i), all})
		}
		findsNothing(t, v, []api.Step{name("")})
		findsNothing(t, v, []api.Step{name("0")})
		findsNothing(t, v, []api.Step{name("-")})
	}
}

func TestAllInObjects(t *testing.T) {
	v := object()
	for i, own := range slices.Compact(slices.Sorted(slices.Values(names))) {
		v.Keys = append(v.Keys, own)
		v.Kids = append(v.Kids, object(own, num(strconv.Itoa(i))))
	}
	var want, within []string
	for i, own := range v.Keys {
		s := "/" + tildes.Replace(own)
		want = append(want, s+" "+show(v.Kids[i]))
		within = append(within, s+s+" "+show(num(strconv.Itoa(i))))
		sameRows(t, own, heard(All(v, []api.Step{name(own)})), want[i:])
		sameRows(t, own+" each", heard(All(v, []api.Step{name(own), all})), within[i:])
		sameRows(t, "each "+own, heard(All(v, []api.Step{all, name(own)})), within[i:])
		findsNothing(t, v, []api.Step{name(own), name("none")})
		findsNothing(t, v, []api.Step{name(own), place(0)})
	}
	sameRows(t, "each", heard(All(v, []api.Step{all})), want)
	sameRows(t, "each, each", heard(All(v, []api.Step{all, all})), within)
	for _, s := range []string{"none", "abc", "AB", "\u00c4", "a\u0308", "~00", "x~1y", "\\u0061", "\x00\x00"} {
		findsNothing(t, v, []api.Step{name(s)})
	}
	for i := range 20 {
		findsNothing(t, v, []api.Step{place(i)})
	}
}

func TestAllOfNamesThatStandTwice(t *testing.T) {
	v := parsed(t, `{"a":1,"b":{"c":2,"c":[3],"":4},"a":[5],"b":{"d":6},"":7,"":8,"\u0061":9}`)
	row := func(at, s string) string { return at + " " + show(parsed(t, s)) }
	for s, want := range map[string][]string{
		"$.a": {row("/a", "1")}, "$.*": {row("/a", "1"), row("/b", `{"c":2,"c":[3],"":4}`), row("/", "7")}, "$.b.*": {row("/b/c", "2"), row("/b/", "4")}, "$.b.c": {row("/b/c", "2")}, `$[""]`: {row("/", "7")},
		"$.*.c": {row("/b/c", "2")}, "$.*.*": {row("/b/c", "2"), row("/b/", "4")},
		// What is only to be had through a member that doesn't count isn't to be had.
		"$.a[0]": nil, "$.b.d": nil, "$.*.d": nil, "$.b.c[0]": nil, "$.*[0]": nil, "$.*.*.*": nil,
	} {
		p, e, _ := Parse(s)
		if e != api.OK {
			t.Fatal(s)
		}
		sameRows(t, s, heard(All(v, p)), want)
	}
	// Each object by itself: a name that stood in another one counts.
	w := parsed(t, `[{"a":{"a":1}},{"a":{"a":2,"a":3}},{"b":4,"a":{"a":5}}]`)
	sameRows(t, "w", heard(All(w, []api.Step{all, all, all})), []string{row("/0/a/a", "1"), row("/1/a/a", "2"), row("/2/a/a", "5")})
	sameRows(t, "w", heard(All(w, []api.Step{all, name("a"), name("a")})), []string{row("/0/a/a", "1"), row("/1/a/a", "2"), row("/2/a/a", "5")})
}

func TestAllOfTildesAndSlashes(t *testing.T) {
	v := object("~", object("/", num("1"), "~1", num("2")), "/", array(num("3")), "m~n/o", num("4"), "~0", num("5"), "", object("", num("6")))
	for _, x := range []struct {
		at string
		p  []api.Step
		n  string
	}{
		{"/~0/~1", []api.Step{name("~"), name("/")}, "1"}, {"/~0/~01", []api.Step{name("~"), name("~1")}, "2"}, {"/~1/0", []api.Step{name("/"), place(0)}, "3"}, {"/m~0n~1o", []api.Step{name("m~n/o")}, "4"}, {"/~00", []api.Step{name("~0")}, "5"}, {"//", []api.Step{name(""), name("")}, "6"},
	} {
		sameRows(t, x.at, heard(All(v, x.p)), []string{x.at + " " + show(num(x.n))})
	}
	findsNothing(t, v, []api.Step{name("~1")})
	findsNothing(t, v, []api.Step{name("~0/~1")})
}

// From a value that is neither array nor object no step takes anything.
func TestAllFromScalars(t *testing.T) {
	for _, v := range []api.Value{null(), truth(true), truth(false), num("0"), num("10"), text(""), text("a"), text("[1]"), text(`{"a":1}`), array(), object()} {
		for _, p := range paths(3, name("a"), name(""), place(0), all) {
			if len(p) == 0 {
				continue
			}
			findsNothing(t, v, p)
			findsNothing(t, array(v), append([]api.Step{all}, p...))
			findsNothing(t, object("a", v), append([]api.Step{name("a")}, p...))
		}
	}
}

func TestAllInValues(t *testing.T) {
	var r rule = 225
	found := 0
	short := paths(3, name("a"), name(""), place(0), place(2), all)
	for _, v := range values() {
		for _, p := range short {
			found += findsAsPlain(t, v, p)
		}
		for range 30 {
			found += findsAsPlain(t, v, r.path(v))
		}
	}
	if found < 10000 {
		t.Errorf("%d: the rule tells too little", found)
	}
}

func TestAllOfSeveralEachs(t *testing.T) {
	v := num("0")
	for range 5 {
		v = array(v, object("b", v, "a", v), array(), null())
	}
	for n := range 14 {
		got := findsAsPlain(t, v, slices.Repeat([]api.Step{all}, n))
		if n < 8 && got == 0 {
			t.Errorf("%d steps: nothing", n)
		}
		for _, s := range []api.Step{name("a"), name("b"), place(0), place(1), place(3)} {
			findsAsPlain(t, v, append(slices.Repeat([]api.Step{all}, n), s))
			findsAsPlain(t, v, append([]api.Step{s}, slices.Repeat([]api.Step{all}, n)...))
		}
	}
}

func TestAllOfManyLevels(t *testing.T) {
	for _, n := range []int{1, 2, 1000, 1023, 1024} {
		for _, kind := range []int{api.Array, api.Object} {
			own, one := "/0", place(0)
			if kind == api.Object {
				own, one = "/a", name("a")
			}
			v := nest(n, kind, num("7"))
			for _, s := range []api.Step{all, one} {
				sameRows(t, "all levels", heard(All(v, slices.Repeat([]api.Step{s}, n))), []string{strings.Repeat(own, n) + " " + show(num("7"))})
				sameRows(t, "all but one", heard(All(v, slices.Repeat([]api.Step{s}, n-1))), []string{strings.Repeat(own, n-1) + " " + show(nest(1, kind, num("7")))})
				findsNothing(t, v, slices.Repeat([]api.Step{s}, n+1))
				findsNothing(t, v, slices.Repeat([]api.Step{s}, 100000))
			}
		}
	}
}

// A long way to a wide part, and a long name above it: neither must be told anew for what isn't found.
func TestAllOfManyParts(t *testing.T) {
	const n = 100000
	wide := array(slices.Repeat([]api.Value{object("x", null())}, n)...)
	v := object(strings.Repeat("long", n), wide)
	findsNothing(t, v, []api.Step{all, all, name("y")})
	deep := nest(600, api.Object, array(slices.Repeat([]api.Value{null()}, n)...))
	findsNothing(t, deep, append(slices.Repeat([]api.Step{all}, 601), all))
	sameRows(t, "the last", heard(All(deep, append(slices.Repeat([]api.Step{name("a")}, 600), place(n-1)))), []string{strings.Repeat("/a", 600) + "/" + strconv.Itoa(n-1) + " " + show(null())})
	count := 0
	for at, w := range All(wide, []api.Step{all, all}) {
		if at != "/"+strconv.Itoa(count)+"/x" || w.Kind != api.Null {
			t.Fatal(count, at, brief(w))
		}
		count++
	}
	if count != n {
		t.Error(count)
	}
	many := object()
	for i := range n {
		many.Keys = append(many.Keys, "m"+strconv.Itoa(i/2))
		many.Kids = append(many.Kids, num(strconv.Itoa(i)))
	}
	count = 0
	for at, w := range All(many, []api.Step{all}) {
		if at != "/m"+strconv.Itoa(count) || w.Raw != strconv.Itoa(2*count) {
			t.Fatal(count, at, brief(w))
		}
		count++
	}
	if count != n/2 {
		t.Error(count)
	}
}

func TestAllIsLeft(t *testing.T) {
	var r rule = 226
	for _, v := range values() {
		for _, p := range [][]api.Step{nil, {all}, {all, all}, r.path(v), r.path(v)} {
			want := told(finds(v, p))
			seq := All(v, p)
			for most := range len(want) + 2 {
				var got []string
				for at, w := range seq {
					if len(got) == most {
						break
					}
					got = append(got, at+" "+show(w))
				}
				sameRows(t, "left", got, want[:min(most, len(want))])
				// Asked by hand, it asks no more once it was told to end.
				asked := 0
				seq(func(string, api.Value) bool {
					asked++
					return asked < most
				})
				if asked > max(most, 1) {
					t.Fatalf("%s, %s: asked %d times, of %d", brief(v), brief(p), asked, most)
				}
			}
			sameRows(t, "again", heard(seq), want)
		}
	}
}

func TestAllWithinItself(t *testing.T) {
	var r rule = 227
	for _, v := range values() {
		p := r.path(v)
		want := told(finds(v, p))
		seq := All(v, p)
		i := 0
		for at, w := range seq {
			sameRows(t, "within", heard(seq), want)
			for range seq {
				break
			}
			if at+" "+show(w) != want[i] {
				t.Fatalf("%s, %s: %q %s, not %s", brief(v), brief(p), at, brief(w), want[i])
			}
			i++
		}
		if i != len(want) {
			t.Fatal(i, len(want))
		}
		// Two rounds in turns.
		one, stop := iter.Pull2(seq)
		two, end := iter.Pull2(seq)
		for _, row := range append(want, "") {
			a, x, ok := one()
			b, y, is := two()
			if ok != is || ok != (row != "") || ok && (a+" "+show(x) != row || b+" "+show(y) != row) {
				t.Fatalf("%q %s, %q %s, not %s", a, brief(x), b, brief(y), row)
			}
		}
		stop()
		end()
	}
}

// P22.6

func TestWhatIsPrintedIsParsedAsTheSame(t *testing.T) {
	back := func(p []api.Step) {
		t.Helper()
		s, e := Print(p)
		if e != api.OK || !isText(s) {
			t.Fatalf("Print(%s) = %q, %d", brief(p), s, e)
		}
		samePath(t, s, p...)
	}
	parts := []api.Step{all, place(0), place(greatest)}
	for _, s := range names {
		parts = append(parts, name(s))
	}
	for _, a := range parts {
		back([]api.Step{a})
		for _, b := range parts {
			back([]api.Step{a, b})
			back([]api.Step{b, all, a, a})
		}
	}
	for _, s := range rows(4, `"`, `\`, "]", "u", "\x00") {
		back([]api.Step{name(s), name("a" + s)})
	}
	for c := rune(0); c <= unicode.MaxRune; c += 11 {
		back([]api.Step{name(string(c)), name("x" + string(c) + "y")})
	}
	var r rule = 223
	for range 3000 {
		var p []api.Step
		for range r.below(12) {
			s := ""
			for range r.below(6) {
				s += r.one(names)
			}
			p = append(p, []api.Step{name(s), place(r.below(1 << (1 + r.below(58)))), all}[r.below(3)])
		}
		back(p)
	}
}

func TestWhatIsParsedIsPrintedAsTheSame(t *testing.T) {
	is := 0
	check := func(s string) {
		t.Helper()
		p, e, _ := Parse(s)
		if e != api.OK {
			return
		}
		is++
		sameFormed(t, p, true)
		again, e := Print(p)
		if e != api.OK {
			t.Fatalf("Print(Parse(%q)): %d", s, e)
		}
		samePath(t, again, p...)
	}
	for _, s := range rows(6, ".", "[", "]", "*", "a", "0", `"`) {
		check("$" + s)
	}
	for _, s := range rows(5, `\n`, `\"`, "\\ud83d", "\\ude00", "\u00e4", "a", "]") {
		check(`$["` + s + `"]`)
	}
	for _, a := range ways {
		for _, b := range ways {
			check("$" + a.s + b.s + a.s)
		}
	}
	if is < 10000 {
		t.Error(is)
	}
}

// Of a text that is refused at a place below its length: no text that begins with one byte more is a path's, and what stands ahead of that byte can be brought to one.
func TestWhatIsRefusedCannotBeMended(t *testing.T) {
	within, short := 0, append(rows(2, ".", "[", "]", "*", "a", "0", `"`, `\`, "u", "\x80"), allEnds...)
	check := func(s string) {
		t.Helper()
		_, e, k := Parse(s)
		if e == api.OK {
			return
		}
		if !slices.ContainsFunc(allEnds, func(end string) bool { _, f, _ := Parse(s[:k] + end); return f == api.OK }) {
			t.Fatalf("%q is refused at %d, and can't be brought to a path ahead of that", s, k)
		}
		if k == len(s) {
			return
		}
		within++
		for _, end := range short {
			refused(t, s[:k+1]+end, k)
		}
	}
	for _, s := range rows(4, ".", "[", "]", "*", "a", "0", `"`) {
		check("$" + s)
	}
	for _, s := range rows(4, `"`, "]", `\`, "u", "0", "\xe2", "\x82") {
		check(`$["` + s)
	}
	for x := range 256 {
		for _, s := range []string{"", "$", "$.", "$.a", "$[", "$[1", `$["`, `$["\`, `$["\u00`, `$["a"`, "$[\"\xe2", "$[100000000000000000"} {
			check(s + string([]byte{byte(x)}))
		}
	}
	if within < 1000 {
		t.Error(within)
	}
}

func TestPointersLeadToWhatIsFound(t *testing.T) {
	var r rule = 228
	found := 0
	for _, v := range values() {
		for _, p := range [][]api.Step{nil, {all}, {all, all}, {all, all, all}, r.path(v), r.path(v), r.path(v)} {
			seen := map[string]bool{}
			for at, w := range All(v, p) {
				if seen[at] {
					t.Fatalf("%s, %s: %q comes twice", brief(v), brief(p), at)
				}
				seen[at] = true
				got, ok, e := pointer.Find(v, at)
				if !ok || e != api.OK || !tree.Same(got, w) || !tree.Formed(w) {
					t.Fatalf("%s, %s: %q leads to %s, not %s", brief(v), brief(p), at, brief(got), brief(w))
				}
				if names, _ := pointer.Parse(at); len(names) != len(p) {
					t.Fatalf("%q: %d names of %d steps", at, len(names), len(p))
				}
				found++
			}
		}
	}
	if found < 1000 {
		t.Errorf("%d: the values tell too little", found)
	}
}

func TestPathsOfTwoParts(t *testing.T) {
	var r rule = 229
	found := 0
	for _, v := range values() {
		for range 10 {
			p := r.path(v)
			cut := r.below(len(p) + 1)
			var want []string
			for at, w := range All(v, p[:cut]) {
				for on, x := range All(w, p[cut:]) {
					want = append(want, at+on+" "+show(x))
				}
			}
			sameRows(t, brief(v)+" "+brief(p), heard(All(v, p)), want)
			if cut > 0 && cut < len(p) {
				found += len(want)
			}
		}
	}
	if found < 500 {
		t.Errorf("%d: the rule tells too little", found)
	}
}

func TestPathsWithoutEachFindOneAtMost(t *testing.T) {
	var r rule = 230
	found := 0
	for _, v := range values() {
		for range 20 {
			p := slices.DeleteFunc(r.path(v), func(s api.Step) bool { return s.Kind == api.Each })
			n := len(heard(All(v, p)))
			if n > 1 {
				t.Fatalf("%s, %s: %d", brief(v), brief(p), n)
			}
			if len(p) > 0 {
				found += n
			}
		}
	}
	if found < 500 {
		t.Errorf("%d: the rule tells too little", found)
	}
}

// Memory

// roomy: the same value in lists with room behind them, in which something stands.
func roomy(v api.Value) api.Value {
	keys := append(slices.Clone(v.Keys), "room", "room")
	v.Keys = keys[:len(v.Keys)]
	kids := append(slices.Clone(v.Kids), text("room"), text("room"))
	v.Kids = kids[:len(v.Kids)]
	for i, kid := range v.Kids {
		v.Kids[i] = roomy(kid)
	}
	return v
}

// withRoom: the struct's text, and that of what stands behind its lists.
func withRoom(v api.Value) string {
	w := v
	w.Keys, w.Kids = v.Keys[:len(v.Keys)+2], v.Kids[:len(v.Kids)+2]
	s := show(w)
	for _, kid := range v.Kids {
		s += withRoom(kid)
	}
	return s
}

// scribble: writes over all that is in a value's lists, and the room behind them.
func scribble(v api.Value) {
	for _, kid := range v.Kids {
		scribble(kid)
	}
	keys, kids := v.Keys[:cap(v.Keys)], v.Kids[:cap(v.Kids)]
	for i := range keys {
		keys[i] = "scribbled"
	}
	for i := range kids {
		kids[i] = api.Value{Kind: -3, Raw: "scribbled"}
	}
}

// scribbleSteps: likewise of a list of steps.
func scribbleSteps(p []api.Step) {
	p = p[:cap(p)]
	for i := range p {
		p[i] = api.Step{Kind: -5, Name: "scribbled", Place: -5}
	}
}

func TestWhatComesInStays(t *testing.T) {
	var r rule = 231
	for _, v := range append(values(), plainlyBad()...) {
		a := roomy(v)
		before := withRoom(a)
		list := [][]api.Step{nil, {all}, {all, all}, {name("room")}, {place(2)}, {{Kind: 9}}}
		if tree.Formed(v) {
			list = append(list, r.path(v), r.path(v))
		}
		for _, p := range list {
			wide := append(slices.Clone(p), name("room"), api.Step{Kind: 7})
			was := slices.Clone(wide)
			p = wide[:len(p)]
			for _, w := range All(a, p) {
				scribble(w)
			}
			Formed(p)
			Print(p)
			if withRoom(a) != before || !slices.Equal(wide, was) {
				t.Fatalf("All(%s, %s) changes what came in", brief(v), brief(p))
			}
		}
	}
}

// The value, the path and what is handed over may be written over, behind the call and between rounds: what comes is what was there when the call was made.
func TestRoundsShowWhatWasThere(t *testing.T) {
	var r rule = 232
	found := 0
	for _, v := range values() {
		for _, p := range [][]api.Step{nil, {all}, {all, all}, {name("a"), all}, r.path(v), r.path(v)} {
			a, q := roomy(v), slices.Clone(p)
			want := told(finds(v, p))
			seq := All(a, q)
			var got []string
			for at, w := range seq {
				got = append(got, at+" "+show(w))
				scribble(a)
				scribbleSteps(q)
				scribble(w)
			}
			sameRows(t, "first round", got, want)
			sameRows(t, "second round", heard(seq), want)
			found += len(want)
		}
		a, q := roomy(v), []api.Step{all, all}
		seq := All(a, q)
		scribble(a)
		scribbleSteps(q)
		sameRows(t, "changed ahead of the first round", heard(seq), told(finds(v, []api.Step{all, all})))
	}
	if found < 1000 {
		t.Error(found)
	}
}

// fill: writes into the room behind all lists of a value.
func fill(v api.Value) {
	for _, kid := range v.Kids {
		fill(kid)
	}
	for keys := v.Keys[len(v.Keys):cap(v.Keys)]; len(keys) > 0; keys = keys[1:] {
		keys[0] = "filled"
	}
	for kids := v.Kids[len(v.Kids):cap(v.Kids)]; len(kids) > 0; kids = kids[1:] {
		kids[0] = api.Value{Kind: -4}
	}
}

func TestAnswersShareNothing(t *testing.T) {
	for _, kid := range values() {
		v := array(kid, object("a", kid), kid)
		before := show(v)
		seq := All(v, []api.Step{all})
		var one, two []api.Value
		for range 2 {
			for _, w := range seq {
				one = append(one, w)
			}
		}
		for _, w := range All(v, []api.Step{all}) {
			two = append(two, w)
		}
		want := heard(seq)
		for i, w := range one {
			fill(w)
			for j, x := range one[i:] {
				if row := want[(i+j)%3]; !strings.HasSuffix(row, " "+show(x)) {
					t.Fatalf("%s: the room behind a list is another one's", brief(v))
				}
			}
			scribble(w)
		}
		for i, w := range two {
			if !strings.HasSuffix(want[i], " "+show(w)) {
				t.Fatalf("%s: two answers share a list", brief(v))
			}
		}
		sameRows(t, "again", heard(seq), want)
		if show(v) != before {
			t.Fatalf("%s: the answer is what came in", brief(v))
		}
	}
	// Lists of one answer lie apart though they were one list in what came in.
	kids := []api.Value{null()}
	twin := api.Value{Kind: api.Array, Kids: kids}
	for _, w := range All(array(array(twin, twin)), []api.Step{all}) {
		w.Kids[0].Kids[0] = text("x")
		if show(w.Kids[1]) != show(array(null())) {
			t.Error("two lists of one answer are one")
		}
	}
	for _, way := range ways {
		s := "$" + way.s + ".b" + way.s
		a, _, _ := Parse(s)
		b, _, _ := Parse(s)
		scribbleSteps(a)
		c, _, _ := Parse(s)
		if want := []api.Step{way.step, name("b"), way.step}; !slices.Equal(b, want) || !slices.Equal(c, want) {
			t.Fatalf("Parse(%q): two answers share a list", s)
		}
	}
	p := []api.Step{name("a"), place(1), all}
	s, _ := Print(p)
	scribbleSteps(p)
	if s != "$.a[1].*" {
		t.Error(s)
	}
}

// textsOf: all texts of a value.
func textsOf(v api.Value) []string {
	list := append([]string{v.Raw, v.Text}, v.Keys...)
	for _, kid := range v.Kids {
		list = append(list, textsOf(kid)...)
	}
	return list
}

// lieApart: no text of the one list has a byte in common with one of the other.
func lieApart(t *testing.T, answer, given []string) {
	t.Helper()
	for _, a := range answer {
		for _, b := range given {
			from, at := uintptr(unsafe.Pointer(unsafe.StringData(b))), uintptr(unsafe.Pointer(unsafe.StringData(a)))
			if a != "" && at >= from && at < from+uintptr(len(b)) {
				t.Fatalf("%.40q lies in %.40q, which came in", a, b)
			}
		}
	}
}

func TestAnswersHoldOnToNoText(t *testing.T) {
	v := parsed(t, `{"name":["text",12.50,{"a\u0062":"\n"}],"other":-7e9,"~/":"x"}`)
	for _, p := range [][]api.Step{nil, {all}, {all, all}, {name("name")}, {name("~/")}, {name("name"), place(2), name("ab")}} {
		given := textsOf(v)
		for _, s := range p {
			given = append(given, s.Name)
		}
		for at, w := range All(v, p) {
			lieApart(t, append(textsOf(w), at), given)
		}
		s, _ := Print(p)
		lieApart(t, []string{s}, given)
	}
	for _, s := range []string{"$.name", "$.name.other[0].*", `$["name"]["c d"]`, `$["a\u0062"]`} {
		s = strings.Clone(s)
		p, _, _ := Parse(s)
		for _, x := range p {
			lieApart(t, []string{x.Name}, []string{s})
		}
	}
}

// Sameness

// asked: all that the calls answer.
func asked(v api.Value, p []api.Step, s string) string {
	list, e, at := Parse(s)
	written, f := Print(p)
	return fmt.Sprintf("%v %d %d %q %d %v %v %q", list, e, at, written, f, Formed(p), len(p) > 0 && Takes(p[0], s, len(s), true), heard(All(v, p)))
}

func TestTheSameAgainWhateverElseRuns(t *testing.T) {
	list := values()
	var r rule = 233
	var ps [][]api.Step
	var ss, want []string
	for i, v := range list {
		p := r.path(v)
		if i%9 == 0 {
			p = append(p, steps()[i])
		}
		s := writtenOf(r.path(v))
		if i%7 == 0 {
			s += "["
		}
		ps, ss = append(ps, p), append(ss, s)
		want = append(want, asked(v, p, s))
	}
	whole := array(list...)
	seq := All(whole, []api.Step{all, all})
	rows := heard(seq)
	var group sync.WaitGroup
	for k := range 8 {
		group.Go(func() {
			for i := range list {
				at := (i*7 + k) % len(list)
				if got := asked(list[at], ps[at], ss[at]); got != want[at] {
					t.Errorf("%s, %s, %q: %.300s, not %.300s", brief(list[at]), brief(ps[at]), ss[at], got, want[at])
				}
			}
			// Rounds of one iterator, too.
			for range 3 {
				if got := heard(seq); !slices.Equal(got, rows) {
					t.Errorf("%d rows, not %d", len(got), len(rows))
				}
			}
		})
	}
	group.Wait()
}

func ExampleParse() {
	p, err, at := Parse(`$.a[0]["c d"].*`)
	fmt.Println(p, err, at)
	p, err, at = Parse("$.a b")
	fmt.Println(p, err, at)
	// Output:
	// [{1 a 0} {2  0} {1 c d 0} {3  0}] 0 0
	// [] 220 3
}

func ExamplePrint() {
	s, err := Print([]api.Step{{Kind: api.ByName, Name: "a"}, {Kind: api.ByPlace, Place: 7}, {Kind: api.Each}, {Kind: api.ByName, Name: "c d"}})
	fmt.Println(s, err)
	// Output:
	// $.a[7].*["c d"] 0
}

func ExampleAll() {
	v, _, _ := tree.Parse(`{"a":[1,{"b":2}],"c":{"b":3},"a":{"b":4}}`, 5)
	p, _, _ := Parse("$.*.b")
	for at, w := range All(v, p) {
		fmt.Println(at, w.Raw)
	}
	// Output:
	// /c/b 3
}
