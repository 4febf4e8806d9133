package valid

import (
	"strings"
	"testing"

	"quarry/api"
)

// The chapter's words as the rules of a grammar, and a recogniser that knows nothing of any rule but its text: it keeps every way in which the bytes so far may go on. As every name has some text, bytes are a beginning of a document just as long as a way is left.

// symbol: a name, or one byte of a set.
type symbol struct {
	name string
	set  string
}

// phrase: what a name may be.
type phrase struct {
	left  string
	right []symbol
}

// item: a rule of which some symbols are read, from a place on.
type item struct {
	rule, done, from int
}

// chart: for each place the ways that are left ahead of it.
type chart [][]item

// span: the bytes from lo to hi.
func span(lo, hi int) string {
	var b strings.Builder
	for x := lo; x <= hi; x++ {
		b.WriteByte(byte(x))
	}
	return b.String()
}

// said: a rule: names with great letters, bytes in themselves, and the sets under the small names of the list below.
func said(left, right string) phrase {
	sets := map[string]string{
		"blank": "\x20\x09\x0a\x0d", "digit": span('0', '9'), "first": span('1', '9'), "e": "eE", "sign": "+-",
		"hex": "0123456789abcdefABCDEF", "short": `"\/bfnrt`,
		"plain": span(32, 33) + span(35, 91) + span(93, 127), "tail": span(0x80, 0xbf),
		"two": span(0xc2, 0xdf), "three": span(0xe1, 0xec) + span(0xee, 0xef), "four": span(0xf1, 0xf3),
		"E0": "\xe0", "A0": span(0xa0, 0xbf), "ED": "\xed", "9F": span(0x80, 0x9f),
		"F0": "\xf0", "90": span(0x90, 0xbf), "F4": "\xf4", "8F": span(0x80, 0x8f),
	}
	r := phrase{left: left}
	for _, w := range strings.Fields(right) {
		switch {
		case sets[w] != "":
			r.right = append(r.right, symbol{set: sets[w]})
		case len(w) > 1 && w[0] >= 'A' && w[0] <= 'Z':
			r.right = append(r.right, symbol{name: w})
		default:
			for i := range len(w) {
				r.right = append(r.right, symbol{set: w[i : i+1]})
			}
		}
	}
	return r
}

var grammar = []phrase{
	said("Document", "Blanks Value Blanks"),
	said("Blanks", ""), said("Blanks", "Blanks blank"),
	said("Value", "null"), said("Value", "true"), said("Value", "false"),
	said("Value", "Number"), said("Value", "Text"), said("Value", "Array"), said("Value", "Object"),
	said("Number", "Minus Whole Point Power"),
	said("Minus", ""), said("Minus", "-"),
	said("Whole", "0"), said("Whole", "first Digits"),
	said("Digits", ""), said("Digits", "Digits digit"),
	said("Point", ""), said("Point", ". digit Digits"),
	said("Power", ""), said("Power", "e Sign digit Digits"),
	said("Sign", ""), said("Sign", "sign"),
	said("Text", `" Raw "`),
	said("Raw", ""), said("Raw", "Raw Thing"),
	said("Thing", "plain"), said("Thing", "two tail"),
	said("Thing", "E0 A0 tail"), said("Thing", "three tail tail"), said("Thing", "ED 9F tail"),
	said("Thing", "F0 90 tail tail"), said("Thing", "four tail tail tail"), said("Thing", "F4 8F tail tail"),
	said("Thing", `\ short`), said("Thing", `\u hex hex hex hex`),
	said("Array", "[ Blanks ]"), said("Array", "[ Elements ]"),
	said("Elements", "Element"), said("Elements", "Elements , Element"),
	said("Element", "Blanks Value Blanks"),
	said("Object", "{ Blanks }"), said("Object", "{ Members }"),
	said("Members", "Member"), said("Members", "Members , Member"),
	said("Member", "Blanks Text Blanks : Blanks Value Blanks"),
}

// phrases: which rules each name has.
var phrases = func() map[string][]int {
	list := map[string][]int{}
	for j, g := range grammar {
		list[g.left] = append(list[g.left], j)
	}
	return list
}()

// start: the chart of no bytes.
func start() chart {
	return chart{}.close([]item{{0, 0, 0}})
}

// close: puts a set behind the chart, with all that follows from its items.
func (c chart) close(set []item) chart {
	at := len(c)
	seen := map[item]bool{}
	for _, x := range set {
		seen[x] = true
	}
	add := func(x item) {
		if !seen[x] {
			seen[x] = true
			set = append(set, x)
		}
	}
	for i := 0; i < len(set); i++ {
		x := set[i]
		r := grammar[x.rule]
		if x.done == len(r.right) {
			// A rule that ends where it began has no bytes, and was stepped over when it was foreseen.
			if x.from < at {
				for _, y := range c[x.from] {
					if g := grammar[y.rule]; y.done < len(g.right) && g.right[y.done].name == r.left {
						add(item{y.rule, y.done + 1, y.from})
					}
				}
			}
			continue
		}
		next := r.right[x.done].name
		if next == "" {
			continue
		}
		for _, j := range phrases[next] {
			add(item{j, 0, at})
			// Each name that may have no bytes has a rule that says so.
			if len(grammar[j].right) == 0 {
				add(item{x.rule, x.done + 1, x.from})
			}
		}
	}
	return append(c[:at:at], set)
}

// with: the chart with one byte more; false, if no way is left.
func (c chart) with(x byte) (chart, bool) {
	var set []item
	for _, y := range c[len(c)-1] {
		if g := grammar[y.rule]; y.done < len(g.right) && strings.IndexByte(g.right[y.done].set, x) >= 0 {
			set = append(set, item{y.rule, y.done + 1, y.from})
		}
	}
	if len(set) == 0 {
		return nil, false
	}
	return c.close(set), true
}

// document: are all bytes a document?
func (c chart) document() bool {
	for _, y := range c[len(c)-1] {
		if y == (item{0, len(grammar[0].right), 0}) {
			return true
		}
	}
	return false
}

// far: whether a text is a document, and if not, how far it could have been one.
func far(s string) (bool, int) {
	c := start()
	for i := range len(s) {
		next, ok := c.with(s[i])
		if !ok {
			return false, i
		}
		c = next
	}
	return c.document(), len(s)
}

// wanted: what the chapter says of Check, if far answers that.
func wanted(s string, depth int, is bool, k int) api.Verdict {
	if !is {
		return api.Verdict{Code: api.Invalid, At: k}
	}
	ahead := depths(s)
	for i := range len(s) {
		if ahead[i] == depth && ahead[i+1] == depth+1 {
			return api.Verdict{Code: api.TooDeep, At: i}
		}
	}
	return api.Verdict{Code: api.Valid, At: len(s)}
}

// depths: chapters 6, 7, 8 and 10, word by word: the depth ahead of each place, the length among them.
func depths(s string) []int {
	list := []int{0}
	escaped, inside, depth := false, false, 0
	for i := range len(s) {
		mark := s[i] == 34 && !escaped
		escaped = s[i] == 92 && !escaped
		switch {
		case mark:
			inside = !inside
		case inside:
		case s[i] == '[' || s[i] == '{':
			depth++
		case (s[i] == ']' || s[i] == '}') && depth > 0:
			depth--
		}
		list = append(list, depth)
	}
	return list
}

// The recogniser itself, held against the chapter's examples.
func TestGrammar(t *testing.T) {
	for _, s := range []string{"0", "-0.0E+00", " [ ] ", `{"a": [1, 2.5e3, "\n"]} `, `"\ud800"`, "\"\xf4\x8f\xbf\xbf\""} {
		if is, k := far(s); !is || k != len(s) {
			t.Errorf("%q: %v %d", s, is, k)
		}
	}
	for s, want := range map[string]int{"": 0, "   ": 3, "[1,]": 3, `{"a"}`: 4, "01": 1, "1.e": 2, `"\u12g4"`: 5, "[[]": 3, "1 1": 2, "\"\xe2\x82\"": 3, "\"\xff": 1} {
		if is, k := far(s); is || k != want {
			t.Errorf("%q: %v %d, not %d", s, is, k, want)
		}
	}
}
