package pieces

import (
	"fmt"
	"math"
	"runtime"
	"slices"
	"strings"
	"sync"
	"testing"
	"time"
	stdutf8 "unicode/utf8"

	"quarry/api"
	"quarry/escape"
	"quarry/marks"
	"quarry/quotes"
	"quarry/utf8"
)

func part(a, b bool, x, y int) api.Part { return api.Part{Odd: [2]bool{a, b}, Out: [2]int{x, y}} }

// ten: the Parts that are well shaped, each with a text that has it.
var ten = []struct {
	s string
	p api.Part
}{
	{``, part(false, false, 0, 1)},
	{`\`, part(false, false, 1, 0)},
	{`x`, part(false, false, 0, 0)},
	{`"`, part(true, false, 0, 0)},
	{`\"`, part(false, true, 0, 0)},
	{`x"`, part(true, true, 0, 0)},
	{`x\`, part(false, false, 1, 1)},
	{`"a\`, part(true, false, 1, 1)},
	{`\"\`, part(false, true, 1, 1)},
	{`x"\`, part(true, true, 1, 1)},
}

// met: by the chapter's words, of a piece whose first byte is escaped or not: whether its quotes that aren't escaped are odd in number, and the state behind it.
func met(s string, state int) (odd bool, out int) {
	escaped := state == 1
	for i := range len(s) {
		if s[i] == 34 && !escaped {
			odd = !odd
		}
		escaped = s[i] == 92 && !escaped
	}
	if escaped {
		out = 1
	}
	return odd, out
}

func plainOf(s string) api.Part {
	var p api.Part
	for x := range 2 {
		p.Odd[x], p.Out[x] = met(s, x)
	}
	return p
}

// plainIndex: by chapter 8's words, byte by byte.
func plainIndex(s string) []int {
	var list []int
	escaped, inside, word := false, false, false
	for i := range len(s) {
		mark := s[i] == 34 && !escaped
		escaped = s[i] == 92 && !escaped
		switch x := s[i]; {
		case mark:
			if !inside {
				list = append(list, i)
			}
			inside, word = !inside, false
		case inside:
		case x == 123 || x == 125 || x == 91 || x == 93 || x == 58 || x == 44:
			list = append(list, i)
			word = false
		case x == 32 || x == 9 || x == 10 || x == 13:
			word = false
		default:
			if !word {
				list = append(list, i)
			}
			word = true
		}
	}
	return list
}

// begun: may a text go on so that it is UTF-8? Of the bytes that may follow in a form these three will do, whatever it begins with.
func begun(s string) bool {
	for s != "" {
		_, n := stdutf8.DecodeRuneInString(s)
		if r := s[:n]; !stdutf8.ValidString(r) {
			break
		}
		s = s[n:]
	}
	if s == "" {
		return true
	}
	rows := []string{""}
	for i := 0; i < len(rows) && len(s)+len(rows[i]) < 4; i++ {
		for _, x := range []string{"\x80", "\x90", "\xa0"} {
			rows = append(rows, rows[i]+x)
		}
	}
	return slices.ContainsFunc(rows, func(row string) bool { return stdutf8.ValidString(s + row) })
}

// plainBad: by chapter 5's words.
func plainBad(s string) int {
	if stdutf8.ValidString(s) {
		return -1
	}
	for k := len(s); ; k-- {
		if begun(s[:k]) {
			return k
		}
	}
}

// crews: the numbers of workers that are asked in turns.
var crews = []int{1, 2, 3, 16, 7, 15}

func checkIndex(t *testing.T, s string, cuts []int, workers int, want []int) {
	t.Helper()
	if got, err := Index(s, cuts, workers); err != api.OK || !slices.Equal(got, want) {
		t.Fatalf("Index(%q, %v, %d): %v, %d, not %v", s, cuts, workers, got, err, want)
	}
}

func checkBad(t *testing.T, s string, cuts []int, workers int, want int) {
	t.Helper()
	if got, err := Bad(s, cuts, workers); err != api.OK || got != want {
		t.Fatalf("Bad(%q, %v, %d): %d, %d, not %d", s, cuts, workers, got, err, want)
	}
}

// rule: ordinary numbers from a fixed rule.
type rule uint64

func (r *rule) below(n int) int {
	*r = *r*6364136223846793005 + 1442695040888963407
	return int((uint64(*r) ^ uint64(*r)>>29) % uint64(n))
}

// text: n of these pieces, one behind the other.
func (r *rule) text(n int, of []string) string {
	var b strings.Builder
	for range n {
		b.WriteString(of[r.below(len(of))])
	}
	return b.String()
}

// cuts: so many cuts of a text of n bytes.
func (r *rule) cuts(n, many int) []int {
	list := make([]int, many)
	for i := range list {
		list[i] = r.below(n + 1)
	}
	slices.Sort(list)
	return list
}

// byteSets: what mixed texts are made of, thick and thin.
var byteSets = [][]string{
	{`"`, `\`, `a`, `,`, ` `},
	{`"`, `\`, `\`, `\`, `\`, `\`, `\`, `\\\\\`, `a`},
	{`a`, `b`, `c`, `d`, `1`, `-`, "\x80", ` `, `,`},
	{`{"a":`, `}`, `[`, `]`, `,`, ` `, `"b\"c"`, `true`, `"`, "\n", `-1.5e3`},
	{`"`, `""`, `\"`, `\\"`, `,`, `:`, "\t", "\r", `w`},
	{`a`, `aaaaaaaaaaaaaaaaaaaaaaaa`, `                `, `,,,,,,,,`, `"`},
}

// short: every text of at most n bytes of these.
func short(n int, of string) []string {
	list := []string{""}
	for i := 0; len(list[i]) < n; i++ {
		for k := range len(of) {
			list = append(list, list[i]+of[k:k+1])
		}
	}
	return list
}

// everyCuts: all lists of at most so many cuts of a text of n bytes.
func everyCuts(n, many int) [][]int {
	list := [][]int{nil}
	for i := 0; i < len(list); i++ {
		if len(list[i]) == many {
			break
		}
		from := 0
		if k := len(list[i]); k > 0 {
			from = list[i][k-1]
		}
		for cut := from; cut <= n; cut++ {
			list = append(list, append(slices.Clone(list[i]), cut))
		}
	}
	return list
}

// each: a cut at every place of a text of n bytes, its length among them; so often each.
func each(n, often int) []int {
	var list []int
	for at := range n + 1 {
		for range often {
			list = append(list, at)
		}
	}
	return list
}

func filled(n int, x byte) string { return strings.Repeat(string([]byte{x}), n) }

func slashes(n int) string { return strings.Repeat(`\`, n) }

// The chapter's examples, row by row.

func TestExamplesOfOf(t *testing.T) {
	for _, x := range []struct {
		s    string
		want api.Part
	}{
		{``, part(false, false, 0, 1)},
		{`\`, part(false, false, 1, 0)},
		{`x`, part(false, false, 0, 0)},
		{`"`, part(true, false, 0, 0)},
		{`\"`, part(false, true, 0, 0)},
		{`"a\`, part(true, false, 1, 1)},
	} {
		if got := Of(x.s); got != x.want {
			t.Errorf("Of(%q): %v", x.s, got)
		}
	}
}

func TestExamplesOfFormed(t *testing.T) {
	for _, x := range []struct {
		p    api.Part
		want bool
	}{
		{api.Part{}, true},
		{part(false, false, 1, 0), true},
		{part(true, false, 0, 1), false},
		{part(false, false, 2, 0), false},
		{part(true, true, 0, 0), true},
	} {
		if got := Formed(x.p); got != x.want {
			t.Errorf("Formed(%v): %v", x.p, got)
		}
	}
	if Of(`x`) != (api.Part{}) || Of(`x"`) != part(true, true, 0, 0) {
		t.Error("the texts that the examples name")
	}
}

func TestExamplesOfJoin(t *testing.T) {
	if got := Join(Of(`\`), Of(`"`)); got != part(false, true, 0, 0) {
		t.Errorf("%v", got)
	}
	if got := Join(part(false, false, 2, 0), api.Part{}); got != (api.Part{}) {
		t.Errorf("%v", got)
	}
}

func TestExamplesOfIndex(t *testing.T) {
	s := `{"a":1}`
	checkIndex(t, s, []int{0, 2, 2}, 2, []int{0, 1, 4, 5, 6})
	for _, x := range []struct {
		cuts    []int
		workers int
	}{{[]int{3, 2}, 2}, {[]int{8}, 2}, {[]int{-1}, 2}, {[]int{0, 2, 2}, 0}, {[]int{0, 2, 2}, 17}} {
		if got, err := Index(s, x.cuts, x.workers); err != api.ErrRange || len(got) != 0 {
			t.Errorf("Index(%v, %d): %v, %d", x.cuts, x.workers, got, err)
		}
	}
}

func TestExamplesOfBad(t *testing.T) {
	checkBad(t, "a", nil, 1, -1)
	checkBad(t, "\xff", []int{0, 1}, 2, 0)
}

// P9.1

func TestOfShortTexts(t *testing.T) {
	for _, s := range short(8, `"\a`) {
		if got, want := Of(s), plainOf(s); got != want {
			t.Fatalf("Of(%q): %v, not %v", s, got, want)
		}
	}
}

// Rows of backslashes even and odd in number, over the ends of words of bits too, with nothing, a quote or another byte on either side.
func TestOfRowsOfBackslashes(t *testing.T) {
	for _, n := range []int{0, 1, 2, 3, 4, 5, 62, 63, 64, 65, 66, 126, 127, 128, 129, 130} {
		for _, ahead := range []string{``, `a`, `"`, `"a`, `""`, `\"`, "\x00"} {
			for _, behind := range []string{``, `a`, `"`, `"a`, `""`, `"\`, `a"\`, ` "`, "\xdc"} {
				s := ahead + slashes(n) + behind
				if got, want := Of(s), plainOf(s); got != want {
					t.Fatalf("Of(%q): %v, not %v", s, got, want)
				}
			}
		}
		odd := n % 2
		if got := Of(slashes(n)); got != part(false, false, odd, 1-odd) {
			t.Errorf("%d backslashes: %v", n, got)
		}
		if got := Of(slashes(n) + `"`); got != part(odd == 0, odd == 1, 0, 0) {
			t.Errorf("%d backslashes and a quote: %v", n, got)
		}
	}
}

// Of every byte alone: two of them do something, whatever the state.
func TestOfEveryByte(t *testing.T) {
	for x := range 256 {
		want := api.Part{}
		switch x {
		case '"':
			want = part(true, false, 0, 0)
		case '\\':
			want = part(false, false, 1, 0)
		}
		if got := Of(string([]byte{byte(x)})); got != want {
			t.Errorf("the byte %d: %v", x, got)
		}
	}
}

func TestOfMixedTexts(t *testing.T) {
	r := rule(91)
	for n := range 300 {
		for _, of := range byteSets {
			s := r.text(n, of)
			if got, want := Of(s), plainOf(s); got != want {
				t.Fatalf("Of(%q): %v, not %v", s, got, want)
			}
		}
	}
}

// parts: every Part whose Outs are among these.
func parts(outs []int) []api.Part {
	var list []api.Part
	for _, x := range outs {
		for _, y := range outs {
			for _, a := range []bool{false, true} {
				for _, b := range []bool{false, true} {
					list = append(list, part(a, b, x, y))
				}
			}
		}
	}
	return list
}

var wrongOuts = []int{2, 3, 4, 63, 64, 255, 256, 257, 1 << 32, 1<<32 + 1, -1, -2, math.MaxInt, math.MinInt, math.MinInt + 1}

func isTen(p api.Part) bool {
	for _, x := range ten {
		if p == x.p {
			return true
		}
	}
	return false
}

func TestFormedAtTheTenAlone(t *testing.T) {
	for _, x := range ten {
		if Of(x.s) != x.p || !Formed(x.p) {
			t.Errorf("%q: %v", x.s, x.p)
		}
	}
	formed := 0
	for _, p := range parts(append([]int{0, 1}, wrongOuts...)) {
		if Formed(p) != isTen(p) {
			t.Errorf("Formed(%v): %v", p, Formed(p))
		}
		if Formed(p) {
			formed++
		}
	}
	if formed != 10 {
		t.Errorf("%d are well shaped", formed)
	}
}

// No text has another Part than the ten.
func TestThePartOfAnyTextIsFormed(t *testing.T) {
	for _, s := range short(8, `"\a`) {
		if p := Of(s); !Formed(p) || !isTen(p) {
			t.Fatalf("Of(%q): %v", s, p)
		}
	}
}

// P9.2

func TestJoinOfAllWithAll(t *testing.T) {
	for _, a := range ten {
		for _, b := range ten {
			p, q := a.p, b.p
			var want api.Part
			for x := range 2 {
				want.Odd[x] = p.Odd[x] && !q.Odd[p.Out[x]] || !p.Odd[x] && q.Odd[p.Out[x]]
				want.Out[x] = q.Out[p.Out[x]]
			}
			if got := Join(p, q); got != want {
				t.Errorf("Join(%v, %v): %v, not %v", p, q, got, want)
			}
		}
	}
}

func TestJoinOfWhatIsNotFormed(t *testing.T) {
	var wrong []api.Part
	for _, p := range parts(append([]int{0, 1}, wrongOuts...)) {
		if !isTen(p) {
			wrong = append(wrong, p)
		}
	}
	for i, p := range wrong {
		for _, x := range ten {
			if got := Join(p, x.p); got != (api.Part{}) {
				t.Fatalf("Join(%v, %v): %v", p, x.p, got)
			}
			if got := Join(x.p, p); got != (api.Part{}) {
				t.Fatalf("Join(%v, %v): %v", x.p, p, got)
			}
		}
		q := wrong[(i*7+3)%len(wrong)]
		if got := Join(p, q); got != (api.Part{}) {
			t.Fatalf("Join(%v, %v): %v", p, q, got)
		}
	}
}

// P9.3, P9.4: what is refused

// wrongCuts: what are no cuts of a text of n bytes.
func wrongCuts(n int) [][]int {
	list := [][]int{
		{-1}, {n + 1}, {n + 2}, {math.MinInt}, {math.MaxInt}, {-64}, {n + 64},
		{0, -1}, {-1, 0}, {0, n + 1}, {n + 1, 0}, {n, n + 1}, {n + 1, n + 1}, {-1, -1}, {-2, -1},
		{0, n, n + 1}, {0, math.MaxInt, n}, {math.MinInt, 0, n}, {0, 0, math.MinInt},
	}
	for at := 1; at <= n; at++ {
		list = append(list, []int{at, at - 1}, []int{0, at, at - 1}, []int{at, 0}, []int{at, at - 1, n}, []int{0, at, at, 0, n})
	}
	return list
}

var wrongWorkers = []int{0, -1, -16, 17, 18, 32, 256, 1 << 32, 1<<32 + 1, math.MaxInt, math.MaxInt - 1, math.MinInt, math.MinInt + 1}

func refused(t *testing.T, s string, cuts []int, workers int) {
	t.Helper()
	if got, err := Index(s, cuts, workers); err != api.ErrRange || len(got) != 0 {
		t.Fatalf("Index(%q, %v, %d): %v, %d", s, cuts, workers, got, err)
	}
	if got, err := Bad(s, cuts, workers); err != api.ErrRange || got != 0 {
		t.Fatalf("Bad(%q, %v, %d): %d, %d", s, cuts, workers, got, err)
	}
}

func TestCutsThatAreNone(t *testing.T) {
	for _, s := range []string{"", "a", `"`, "\xff", `{"a":1}`, "a\xe2\x82"} {
		for _, cuts := range wrongCuts(len(s)) {
			for _, workers := range []int{1, 2, 16, 0, 17} {
				refused(t, s, cuts, workers)
			}
		}
	}
}

func TestWorkersThatAreNone(t *testing.T) {
	for _, s := range []string{"", "a", "\xff", `{"a":1}`} {
		for _, workers := range wrongWorkers {
			refused(t, s, nil, workers)
			refused(t, s, []int{0, len(s)}, workers)
			refused(t, s, each(len(s), 1), workers)
		}
	}
}

// Right behind a refusal all is as ever.
func TestBehindARefusal(t *testing.T) {
	s := "[\"a\xff"
	for _, workers := range wrongWorkers {
		refused(t, s, []int{1}, workers)
		checkIndex(t, s, []int{1}, 2, []int{0, 1})
		checkBad(t, s, []int{1}, 2, 3)
	}
}

func TestEachNumberOfWorkers(t *testing.T) {
	s := "{\"a\\\"b\": [12, true], \"c\xc3\xa9\": \"d\"} \xe2\x82"
	index, bad := plainIndex(s), plainBad(s)
	for workers := 1; workers <= api.MaxCrew; workers++ {
		for _, cuts := range [][]int{nil, {0}, {len(s)}, {9}, {9, 20}, each(len(s), 1), each(len(s), 3)} {
			checkIndex(t, s, cuts, workers, index)
			checkBad(t, s, cuts, workers, bad)
		}
	}
}

// P9.3

// All texts of few bytes, in all the ways of cutting them.
func TestIndexOfShortTexts(t *testing.T) {
	calls := 0
	for _, s := range short(5, "\"\\a, ") {
		want := plainIndex(s)
		for _, cuts := range everyCuts(len(s), 2) {
			calls++
			checkIndex(t, s, cuts, crews[calls%len(crews)], want)
		}
		checkIndex(t, s, each(len(s), 1), crews[calls%len(crews)], want)
	}
	for _, s := range short(6, "\"\\a") {
		checkIndex(t, s, each(len(s), 2), crews[len(s)%len(crews)], plainIndex(s))
	}
}

// Cuts of which several are alike, and all lists of at most four.
func TestIndexOfEveryCuts(t *testing.T) {
	for i, s := range []string{"", `a`, `"`, `\`, `ab`, `\"`, `a"`, `"\"`, `a,b`, `\\"a`, `"a"b`, `a\"b`} {
		want := plainIndex(s)
		for k, cuts := range everyCuts(len(s), 4) {
			checkIndex(t, s, cuts, crews[(i+k)%len(crews)], want)
		}
	}
}

// What lies at, ahead of, behind and over the places 63, 64 and 65, cut there and at its own ends.
func TestIndexAtTheEndsOfWords(t *testing.T) {
	calls := 0
	for _, piece := range []string{`a`, `abc`, `,`, ` `, `"`, `""`, `"a b"`, `\"`, `\\"`, `\\\"a"`, `a"b"c`, "a b", "a,b", "\xe2\x82\xac", slashes(7), slashes(8) + `"`} {
		for _, fill := range []byte{' ', ',', 'x', '\\', '"'} {
			for at := 63 - len(piece); at <= 65; at++ {
				s := filled(at, fill) + piece + filled(70-at, fill)
				want := plainIndex(s)
				for _, cuts := range [][]int{nil, {63}, {64}, {65}, {63, 64}, {64, 64}, {64, 65}, {63, 64, 65}, {0, 63, 63, 65, len(s)}, {1, 64}, {at}, {at, at + len(piece)}, {at, at + 1, at + len(piece)}} {
					calls++
					checkIndex(t, s, cuts, crews[calls%len(crews)], want)
				}
			}
		}
	}
}

// A cut between a backslash and what it escapes, and within a row of backslashes, outside and inside.
func TestIndexOfCutsAmongBackslashes(t *testing.T) {
	calls := 0
	for _, n := range []int{1, 2, 3, 4, 5, 63, 64, 65} {
		for _, ahead := range []string{``, ` `, `a`, `"`, `"a`, `,`, `""`, `\"`} {
			for _, behind := range []string{``, `"`, `a`, `,`, ` `, `"a,b"c`, `a"b,c"d`, `" "`} {
				s := ahead + slashes(n) + behind
				want := plainIndex(s)
				for cut := len(ahead); cut <= len(ahead)+n+1 && cut <= len(s); cut++ {
					calls++
					checkIndex(t, s, []int{cut}, crews[calls%len(crews)], want)
					checkIndex(t, s, []int{cut, cut, min(cut+1, len(s))}, crews[calls%len(crews)], want)
				}
				checkIndex(t, s, each(len(s), 1), crews[calls%len(crews)], want)
			}
		}
	}
}

// A word is begun once, wherever it is cut; behind a mark, a structural byte or a blank another one begins.
func TestIndexOfCutsWithinAWord(t *testing.T) {
	for _, x := range []struct {
		s    string
		want []int
	}{
		{"abcdef", []int{0}},
		{" abcdef ", []int{1}},
		{`\"a\"b`, []int{0}},
		{`ab"cd"ef`, []int{0, 2, 6}},
		{"ab,cd", []int{0, 2, 3}},
		{"ab cd", []int{0, 3}},
		{"ab\x0bcd\x80", []int{0}},
		{`a\\"b`, []int{0, 3}},
		{`"a"b`, []int{0, 3}},
		{`\a\,\ \"`, []int{0, 3, 4, 6}},
	} {
		for _, cuts := range append(everyCuts(len(x.s), 2), each(len(x.s), 1), each(len(x.s), 2)) {
			for _, workers := range []int{1, 2, 16} {
				checkIndex(t, x.s, cuts, workers, x.want)
			}
		}
	}
}

// A cut within a text between quotes: what stands there begins nothing in whichever piece it lies.
func TestIndexOfCutsInside(t *testing.T) {
	for n := range 70 {
		in := strings.Repeat(`{a,\"b: `, n)[:n]
		if escape.Behind(in, false) {
			in = in[:n-1] + "x"
		}
		for _, s := range []string{`"` + in, `"` + in + `"`, `["` + in + `"]a`, `"` + in + `""` + in + `"b`} {
			want := plainIndex(s)
			for _, cut := range []int{0, 1, len(s) / 3, len(s) / 2, len(s) - 1, len(s)} {
				checkIndex(t, s, []int{cut}, 2, want)
			}
			checkIndex(t, s, each(len(s), 1), 3, want)
		}
	}
}

func TestIndexOfMixedTexts(t *testing.T) {
	r := rule(93)
	for n := range 250 {
		for i, of := range byteSets {
			s := r.text(n, of)
			want := plainIndex(s)
			checkIndex(t, s, r.cuts(len(s), r.below(9)), crews[(n+i)%len(crews)], want)
			checkIndex(t, s, r.cuts(len(s), r.below(40)), crews[r.below(len(crews))], want)
		}
	}
}

// As many cuts as the text has places, and more of them.
func TestManyCuts(t *testing.T) {
	r := rule(94)
	s := r.text(2500, []string{`{"a":`, `}`, `,`, `"b\"c"`, `tr`, `\`, ` `, "\xc3\xa9", `"`})
	index, bad := plainIndex(s), plainBad(s)
	for _, workers := range crews {
		for _, cuts := range [][]int{each(len(s), 1), each(len(s), 2), r.cuts(len(s), 3*len(s))} {
			checkIndex(t, s, cuts, workers, index)
			checkBad(t, s, cuts, workers, bad)
		}
	}
	// All of them at one place: a piece that is empty changes nothing.
	for _, at := range []int{0, 1, len(s) / 2, len(s)} {
		cuts := slices.Repeat([]int{at}, 3000)
		checkIndex(t, s, cuts, 16, index)
		checkBad(t, s, cuts, 16, bad)
	}
}

// Of a text no bound is told but the one of all: it may be longer than a row that is made.
func TestOfALongText(t *testing.T) {
	n := api.MaxBits + 65
	b := []byte(filled(n, ' '))
	for at, piece := range map[int]string{5: "ab", 4000: `" [,a"f`, 1 << 20: "c\xc3\xa9d", api.MaxBits - 1: "gh", api.MaxBits + 60: "ijk\xe2\x82"} {
		copy(b[at:], piece)
	}
	s := string(b)
	cuts := []int{6, 4003, 4003, 1<<20 + 2, api.MaxBits, n - 1}
	checkIndex(t, s, cuts, 8, []int{5, 4000, 4006, 1 << 20, api.MaxBits - 1, api.MaxBits + 60})
	checkBad(t, s, cuts, 8, n)
	checkBad(t, s[:n-2], cuts[:5], 8, -1)
}

// P9.4

// All texts of few bytes, in all the ways of cutting them: first bytes of each length and those that are none, and what may follow some of them and others not.
func TestBadOfShortTexts(t *testing.T) {
	calls := 0
	for _, s := range short(4, "a\x80\x90\xa0\xc3\xe0\xe2\xed\xf0\xf4\xff") {
		want := plainBad(s)
		for _, cuts := range everyCuts(len(s), 1) {
			calls++
			checkBad(t, s, cuts, crews[calls%len(crews)], want)
		}
		checkBad(t, s, each(len(s), 1), crews[calls%len(crews)], want)
	}
	for _, s := range short(7, "\x80\xf1a") {
		want := plainBad(s)
		for at := range len(s) + 1 {
			checkBad(t, s, []int{at / 2, at}, crews[at%len(crews)], want)
		}
		checkBad(t, s, each(len(s), 1), crews[len(s)%len(crews)], want)
	}
}

// A fault, and a character of each length, over a cut, right ahead of one and right behind one.
func TestBadBesideCuts(t *testing.T) {
	faults := []string{"\xff", "\x80", "\xc0\x80", "\xc1", "\xe0\x80\x80", "\xed\xa0\x80", "\xf0\x8f\x80\x80", "\xf4\x90\x80\x80", "\xf5", "\xc3a", "\xe2\x82a", "\xf0\x9f\x98a", "\xc3", "\xe2\x82", "\xf0\x9f\x98", "\xc3\xc3\xa9", "\xe2\xe2\x82\xac", "\x80\x80\x80\x80\x80", "\xf0\x9f\x98\x80\x80"}
	forms := []string{"", "a", "\xc3\xa9", "\xe2\x82\xac", "\xf0\x9f\x98\x80"}
	calls := 0
	for _, ahead := range forms {
		for _, fault := range append(faults, forms...) {
			for _, behind := range forms {
				s := ahead + fault + behind
				want := plainBad(s)
				for _, cuts := range append(everyCuts(len(s), 2), each(len(s), 1), each(len(s), 2)) {
					calls++
					checkBad(t, s, cuts, crews[calls%len(crews)], want)
				}
			}
		}
	}
}

// The first fault is told, whichever worker finds one first.
func TestBadTellsTheFirst(t *testing.T) {
	for n := range 40 {
		s := filled(n, 'a') + "\xff" + filled(40-n, 'b') + "\xff\xfe\x80"
		for _, workers := range crews {
			checkBad(t, s, each(len(s), 1), workers, n)
			checkBad(t, s, []int{10, 20, 30, 41}, workers, n)
			checkBad(t, s, []int{n, n + 1}, workers, n)
		}
	}
}

// A text that ends within a form is bad at its length, if all ahead is well.
func TestBadAtTheEnd(t *testing.T) {
	for _, end := range []string{"\xc3", "\xe2", "\xe2\x82", "\xf0", "\xf0\x9f", "\xf0\x9f\x98"} {
		for _, n := range []int{0, 1, 60, 61, 62, 63, 64, 65} {
			s := filled(n, 'a') + end
			for _, cuts := range everyCuts(len(end), 3) {
				for i := range cuts {
					cuts[i] += n
				}
				checkBad(t, s, cuts, 3, len(s))
			}
		}
	}
}

func TestBadAtTheEndsOfWords(t *testing.T) {
	for _, piece := range []string{"\xc3\xa9", "\xe2\x82\xac", "\xf0\x9f\x98\x80", "\xff", "\x80", "\xe2\x82a", "\xed\xa0\x80"} {
		for at := 60; at <= 66; at++ {
			s := filled(at, 'a') + piece + filled(10, 'b')
			want := plainBad(s)
			for _, cuts := range [][]int{{63}, {64}, {65}, {63, 64, 65}, {64, 64}, {60, 61, 62, 63, 64, 65, 66}} {
				checkBad(t, s, cuts, 2, want)
			}
		}
	}
}

func TestBadOfMixedTexts(t *testing.T) {
	r := rule(95)
	good := []string{"a", "\xc3\xa9", "\xe2\x82\xac", "\xf0\x9f\x98\x80", "\xed\x9f\xbf", "\xf4\x8f\xbf\xbf"}
	for n := range 200 {
		for _, fault := range []string{"", "\x80", "\xe2\x82", "\xf0\x9f\x98", "\xff"} {
			s := r.text(n, good) + fault + r.text(r.below(30), good)
			want := plainBad(s)
			checkBad(t, s, r.cuts(len(s), r.below(9)), crews[n%len(crews)], want)
			checkBad(t, s, r.cuts(len(s), r.below(60)), crews[r.below(len(crews))], want)
		}
	}
}

// P9.5

// pairs: all pairs of short texts, and some of long ones.
func pairs() [][2]string {
	var list [][2]string
	for _, s := range short(4, `"\a`) {
		for _, next := range short(4, `"\a`) {
			list = append(list, [2]string{s, next})
		}
	}
	r := rule(96)
	for n := range 200 {
		of := byteSets[n%len(byteSets)]
		list = append(list, [2]string{r.text(n, of), r.text(r.below(150), of)})
	}
	return list
}

func TestOfTwoOneBehindTheOther(t *testing.T) {
	for _, x := range pairs() {
		if got, want := Join(Of(x[0]), Of(x[1])), Of(x[0]+x[1]); got != want {
			t.Fatalf("%q and %q: %v, not %v", x[0], x[1], got, want)
		}
	}
}

func TestJoinOfThree(t *testing.T) {
	for _, a := range ten {
		for _, b := range ten {
			for _, c := range ten {
				left, right := Join(Join(a.p, b.p), c.p), Join(a.p, Join(b.p, c.p))
				if left != right || left != Of(a.s+b.s+c.s) {
					t.Errorf("%q, %q, %q: %v and %v", a.s, b.s, c.s, left, right)
				}
			}
		}
	}
}

func TestJoinWithTheEmptyText(t *testing.T) {
	none := Of("")
	for _, x := range ten {
		if Join(none, x.p) != x.p || Join(x.p, none) != x.p {
			t.Errorf("%v: %v and %v", x.p, Join(none, x.p), Join(x.p, none))
		}
	}
}

func TestJoinOfFormedIsFormed(t *testing.T) {
	for _, a := range ten {
		for _, b := range ten {
			if p := Join(a.p, b.p); !Formed(p) || !isTen(p) {
				t.Errorf("Join(%v, %v): %v", a.p, b.p, p)
			}
		}
	}
}

func TestOfAgainstTheLayersBelow(t *testing.T) {
	for _, x := range pairs() {
		s := x[0] + x[1]
		p := Of(s)
		if p.Odd[0] != quotes.Open(s) || (p.Out[0] == 1) != escape.Behind(s, false) || (p.Out[1] == 1) != escape.Behind(s, true) {
			t.Fatalf("Of(%q): %v", s, p)
		}
	}
}

func TestTheSameWhateverTheCutsAndTheWorkers(t *testing.T) {
	r := rule(97)
	for n := range 60 {
		s := r.text(n, []string{`"`, `\`, `a`, `,`, ` `, "\xc3\xa9", "\xe2\x82\xac", `{"b":`, "\xf0"})
		index, bad := marks.Index(s), utf8.Bad(s)
		if !slices.Equal(index, plainIndex(s)) || bad != plainBad(s) {
			t.Fatalf("%q: %v, %d", s, index, bad)
		}
		for workers := 1; workers <= api.MaxCrew; workers++ {
			cuts := r.cuts(len(s), r.below(20))
			// Asked again, with the same cuts.
			for range 3 {
				checkIndex(t, s, cuts, workers, index)
				checkBad(t, s, cuts, workers, bad)
			}
		}
	}
}

// Memory, Sameness

// all: a list with the room behind its end.
func all(list []int) []int { return list[:cap(list)] }

func TestCutsAreLeftAsTheyWere(t *testing.T) {
	s := "a\xc3\xa9\"b\\\"\xe2\x82\xac\" ,c\xff"
	for _, cuts := range append(everyCuts(len(s), 3), wrongCuts(len(s))...) {
		given := append(make([]int, 0, len(cuts)+4), cuts...)
		for i := len(cuts); i < cap(given); i++ {
			all(given)[i] = -77 - i
		}
		was := slices.Clone(all(given))
		Index(s, given, 3)
		Bad(s, given, 3)
		if !slices.Equal(all(given), was) {
			t.Fatalf("%v: now %v", was, all(given))
		}
	}
}

// Nothing of the cuts is kept: they may be written over behind the call.
func TestAnswersLieApart(t *testing.T) {
	s := `{"a\"b":[1,true, "c"]}`
	want := plainIndex(s)
	for _, cuts := range [][]int{nil, {0}, {5}, {3, 9}, each(len(s), 1), {len(s), len(s)}} {
		given := slices.Clone(cuts)
		first, _ := Index(s, given, 4)
		second, _ := Index(s, given, 4)
		for i := range given {
			given[i] = -5
		}
		for i := range all(second) {
			all(second)[i] = -9
		}
		if !slices.Equal(first, want) {
			t.Errorf("%v: an answer was written over: %v", cuts, first)
		}
		for i := range all(first) {
			all(first)[i] = -9
		}
		checkIndex(t, s, cuts, 4, want)
	}
}

func TestTheSameWhateverElseRuns(t *testing.T) {
	r := rule(98)
	s := r.text(400, []string{`"`, `\`, `a`, `,`, ` `, "\xc3\xa9", "\xe2\x82\xac", `{"b":`}) + "\xff"
	cuts := r.cuts(len(s), 60)
	index, bad, of := plainIndex(s), plainBad(s), plainOf(s)
	var callers sync.WaitGroup
	for k := range 8 {
		callers.Go(func() {
			for i := range 40 {
				workers := (k+i)%api.MaxCrew + 1
				if got, err := Index(s, cuts, workers); err != api.OK || !slices.Equal(got, index) {
					t.Errorf("Index by %d: %v, %d", workers, got, err)
				}
				if got, err := Bad(s, cuts, workers); err != api.OK || got != bad {
					t.Errorf("Bad by %d: %d, %d", workers, got, err)
				}
				if got := Of(s); got != of {
					t.Errorf("Of: %v", got)
				}
			}
		})
	}
	callers.Wait()
}

// A worker that has said that it is done may take a moment to end; one that waits for ever would still be there.
func TestNoWorkerIsLeftBehind(t *testing.T) {
	before := runtime.NumGoroutine()
	s := strings.Repeat("{\"a\":1}\xff", 20)
	for _, cuts := range [][]int{nil, {0}, each(len(s), 1), {-1}, {len(s) + 1}} {
		for workers := -1; workers <= api.MaxCrew+1; workers++ {
			Index(s, cuts, workers)
			Bad(s, cuts, workers)
		}
	}
	for range 200 {
		if runtime.NumGoroutine() <= before {
			return
		}
		time.Sleep(10 * time.Millisecond)
	}
	t.Errorf("%d goroutines, %d before", runtime.NumGoroutine(), before)
}

func ExampleJoin() {
	// A backslash at the end of the one piece takes the quote of the other one away.
	fmt.Println(Join(Of(`"a\`), Of(`"b`)) == Of(`"a\"b`))
	// Output: true
}

func ExampleIndex() {
	fmt.Println(Index(`{"a":1}`, []int{0, 2, 2}, 2))
	// Output: [0 1 4 5 6] 0
}

func ExampleBad() {
	// The character lies over the cut.
	fmt.Println(Bad("a\xe2\x82\xac\xff", []int{2}, 2))
	// Output: 4 0
}
