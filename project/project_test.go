package project

import (
	"fmt"
	"math"
	"slices"
	"strconv"
	"strings"
	"sync"
	"testing"
	"time"
	"unsafe"

	"quarry/api"
	"quarry/path"
	"quarry/pointer"
	"quarry/tree"
	"quarry/trie"
	"quarry/valid"
	"quarry/write"
)

// The calls' exact types.
var (
	_ func(string, int, []api.Node) ([]api.Found, api.Verdict, api.Errno) = Run
	_ func(string, int, []api.Node) (api.Value, api.Verdict, api.Errno)   = Keep
)

// The documents of the chapter's examples and of the document's.
const (
	doc   = `{"a":[{"b":1,"c":2},{"b":3}],"b":4}`
	whole = `{"id": 7, "tags": ["a", "b\u0063"], "pos": {"x": -1.50, "y": 1e2}}`
)

// trieOf: the trie of some texts of paths.
func trieOf(texts ...string) []api.Node { return built(pathsOf(texts...)...) }

func pathsOf(texts ...string) [][]api.Step {
	var list [][]api.Step
	for _, s := range texts {
		p, e, at := path.Parse(s)
		if e != api.OK {
			panic(fmt.Sprintf("path.Parse(%q): %d", s, at))
		}
		list = append(list, p)
	}
	return list
}

// parsed: the value of a document.
func parsed(t *testing.T, s string) api.Value {
	t.Helper()
	v, verdict, e := tree.Parse(s, 1024)
	if e != api.OK || verdict.Code != api.Valid {
		t.Fatalf("tree.Parse(%.200q): %v", s, verdict)
	}
	return v
}

// compact: a value's text.
func compact(t *testing.T, v api.Value) string {
	t.Helper()
	s, e := write.Compact(v)
	if e != api.OK {
		t.Fatalf("write.Compact(%.300s): %d", show(v), e)
	}
	return s
}

// both: what Run and Keep answer, which is told as one: the verdict and the error are the same.
func both(t *testing.T, s string, depth int, nodes []api.Node) answer {
	t.Helper()
	found, verdict, e := Run(s, depth, nodes)
	kept, again, f := Keep(s, depth, nodes)
	if verdict != again || e != f {
		t.Fatalf("Run(%.200q, %d, %.200v): %v %d, but Keep: %v %d", s, depth, nodes, verdict, e, again, f)
	}
	return answer{found, kept, verdict, e}
}

func same(t *testing.T, s string, depth int, nodes []api.Node, want answer) {
	t.Helper()
	if got := both(t, s, depth, nodes).text(); got != want.text() {
		t.Fatalf("of %.200q, %d, %.300v: %.600s, not %.600s", s, depth, nodes, got, want.text())
	}
}

// asPlain: Run and Keep answer what the chapter's words say; how much is found.
func asPlain(t *testing.T, s string, depth int, nodes []api.Node) int {
	t.Helper()
	want := plain(s, depth, nodes)
	same(t, s, depth, nodes, want)
	return len(want.found)
}

// tells: Run tells these rows of a path's number, a pointer, and from where to where.
func tells(t *testing.T, s string, nodes []api.Node, want ...string) {
	t.Helper()
	got, verdict, e := Run(s, 1024, nodes)
	if verdict != (api.Verdict{Code: api.Valid, At: len(s)}) || e != api.OK || !slices.Equal(rowsOf(got), want) {
		t.Fatalf("Run(%.200q, %.300v) = %.500q, %v, %d, not %.500q", s, nodes, rowsOf(got), verdict, e, want)
	}
	asPlain(t, s, 1024, nodes)
}

func rowsOf(l []api.Found) []string {
	var rows []string
	for _, f := range l {
		rows = append(rows, fmt.Sprintf("%d %s %d %d", f.Path, f.Pointer, f.Span.From, f.Span.To))
	}
	return rows
}

// keeps: Keep answers the value of that document.
func keeps(t *testing.T, s string, nodes []api.Node, want string) {
	t.Helper()
	got, verdict, e := Keep(s, 1024, nodes)
	if verdict != (api.Verdict{Code: api.Valid, At: len(s)}) || e != api.OK || show(got) != show(parsed(t, want)) {
		t.Fatalf("Keep(%.200q, %.300v) = %.500s, %v, %d, not %.500s", s, nodes, show(got), verdict, e, want)
	}
	asPlain(t, s, 1024, nodes)
}

// P24.1

func TestRunExamples(t *testing.T) {
	three := trieOf("$.a.*.b", "$.b", "$.a[1]")
	want := []api.Found{{Path: 0, Pointer: "/a/0/b", Span: api.Span{From: 11, To: 12}}, {Path: 2, Pointer: "/a/1", Span: api.Span{From: 20, To: 27}}, {Path: 0, Pointer: "/a/1/b", Span: api.Span{From: 25, To: 26}}, {Path: 1, Pointer: "/b", Span: api.Span{From: 33, To: 34}}}
	got, verdict, e := Run(doc, 4, three)
	if !slices.Equal(got, want) || verdict != (api.Verdict{Code: api.Valid, At: 35}) || e != api.OK {
		t.Errorf("%v %v %d", got, verdict, e)
	}
	tells(t, doc, three, "0 /a/0/b 11 12", "2 /a/1 20 27", "0 /a/1/b 25 26", "1 /b 33 34")
	same(t, "{", 1, three, answer{verdict: api.Verdict{Code: api.Invalid, At: 1}})
	same(t, doc, 1, three, answer{verdict: api.Verdict{Code: api.TooDeep, At: 5}})
	same(t, doc, 0, three, answer{e: api.ErrRange})
	same(t, doc, 1, nil, answer{e: api.ErrShape})
	tells(t, `{"a":1,"a":2}`, trieOf("$.*"), "0 /a 5 6")
}

func TestRunExampleOfTheWhole(t *testing.T) {
	tells(t, whole, trieOf("$.tags[*]", "$.*.x"), "0 /tags/0 19 22", "0 /tags/1 24 33", "1 /pos/x 49 54")
}

func TestDepthsThatCantBeMeant(t *testing.T) {
	good := trieOf("$", "$.a")
	for _, depth := range []int{0, -1, -2, -1024, math.MinInt, 1025, 1026, 2048, 1 << 32, 1<<32 + 1, math.MaxInt} {
		// Ahead of all else that is wrong.
		for _, nodes := range append(notTries(), good, []api.Node{{}}) {
			for _, s := range []string{"1", doc, "{", "", "[[]]", nested(1025, "array", "")} {
				same(t, s, depth, nodes, answer{e: api.ErrRange})
			}
		}
	}
	for _, depth := range []int{1, 2, 3, 4, 64, 65, 1023, 1024} {
		same(t, "[7]", depth, good, answer{found: []api.Found{{Span: api.Span{To: 3}}}, kept: parsed(t, "[7]"), verdict: api.Verdict{Code: api.Valid, At: 3}})
	}
}

func TestNodesThatAreNoTrie(t *testing.T) {
	for _, nodes := range notTries() {
		for _, s := range []string{"1", doc, `{"a":1}`, "{", "", "[[]]", "nul", nested(1025, "array", "")} {
			for _, depth := range []int{1, 2, 1024} {
				same(t, s, depth, nodes, answer{e: api.ErrShape})
			}
		}
	}
}

func TestTextsThatAreNoDocuments(t *testing.T) {
	for _, x := range none {
		for _, depth := range []int{2, 3, 1024} {
			for _, nodes := range [][]api.Node{trieOf(), trieOf("$"), trieOf("$", "$.a", "$.a[0]", "$[0]", "$.*"), trieOf("$.none")} {
				same(t, x.s, depth, nodes, answer{verdict: api.Verdict{Code: api.Invalid, At: x.at}})
				same(t, " "+x.s, depth, nodes, answer{verdict: api.Verdict{Code: api.Invalid, At: x.at + 1}})
			}
		}
	}
	// Each beginning of a document that isn't one, and what is cut out of it.
	nodes := trieOf("$", "$.a.*.b", "$.b", "$.a[1]")
	for i := range len(doc) {
		same(t, doc[:i], 3, nodes, answer{verdict: api.Verdict{Code: api.Invalid, At: i}})
		asPlain(t, doc[i:], 3, nodes)
		asPlain(t, doc[:i]+doc[i+1:], 3, nodes)
		asPlain(t, doc[:i]+"x"+doc[i+1:], 3, nodes)
	}
}

func TestDocumentsThatAreTooDeep(t *testing.T) {
	nodes := trieOf("$", "$.*", "$.*.*", "$.a", "$[0]", "$.b")
	for _, x := range []struct {
		s     string
		depth int
		at    int
	}{
		{"[[]]", 1, 1}, {"[1,{}]", 1, 3}, {`{"a":[]}`, 1, 5}, {doc, 1, 5}, {doc, 2, 6}, {" [ [ [ ] ] ] ", 2, 5}, {"[[1],[[2]]]", 2, 6}, {nested(1025, "array", ""), 1024, 1024}, {nested(1025, "object", "1"), 1024, 5 * 1024}, {nested(1025, "both", "1"), 1023, 1 + 6*511},
	} {
		same(t, x.s, x.depth, nodes, answer{verdict: api.Verdict{Code: api.TooDeep, At: x.at}})
		same(t, x.s, x.depth, []api.Node{{}}, answer{verdict: api.Verdict{Code: api.TooDeep, At: x.at}})
	}
	// No document, however deep.
	for _, s := range []string{" [ [ [", "[[[[[", "[[[}", nested(1025, "array", "x"), nested(1025, "object", "")} {
		for _, depth := range []int{1, 2, 4, 1024} {
			if got := both(t, s, depth, nodes); got.verdict.Code != api.Invalid {
				t.Fatal(got.verdict)
			}
			asPlain(t, s, depth, nodes)
		}
	}
	for _, kind := range []string{"array", "object", "both"} {
		for _, n := range []int{1, 2, 3, 64, 65, 1023, 1024} {
			s := nested(n, kind, "7")
			if asPlain(t, s, n, nodes) == 0 {
				t.Fatal(kind, n)
			}
			if n > 1 {
				asPlain(t, s, n-1, nodes)
			}
		}
	}
}

func TestNoPaths(t *testing.T) {
	for _, s := range documents() {
		for _, nodes := range [][]api.Node{{{}}, {{Steps: []api.Step{}, To: []int{}, Ends: []int{}}}, built(), {nodeOf(nil, a, 1, all, 3), nodeOf(nil, b, 2), {}, nodeOf(nil, all, 4), {}}} {
			same(t, s, 1024, nodes, answer{kept: null(), verdict: api.Verdict{Code: api.Valid, At: len(s)}})
		}
	}
}

func TestPathsWithoutSteps(t *testing.T) {
	for _, s := range documents() {
		v := wholeOf(s)
		hit := api.Found{Span: v.span}
		same(t, s, 1024, trieOf("$"), answer{found: []api.Found{hit}, kept: v.value(), verdict: api.Verdict{Code: api.Valid, At: len(s)}})
		same(t, s, 1024, trieOf("$", "$"), answer{found: []api.Found{hit, {Path: 1, Span: v.span}}, kept: v.value(), verdict: api.Verdict{Code: api.Valid, At: len(s)}})
		asPlain(t, s, 1024, trieOf("$.*", "$", "$.a.b", "$"))
	}
}

func TestTheSamePathTwice(t *testing.T) {
	tells(t, doc, trieOf("$.b", "$.b"), "0 /b 33 34", "1 /b 33 34")
	tells(t, doc, trieOf("$.a[1].b", "$.b", "$.a[1].b", "$.b", "$.a[1].b"), "0 /a/1/b 25 26", "2 /a/1/b 25 26", "4 /a/1/b 25 26", "1 /b 33 34", "3 /b 33 34")
	tells(t, doc, trieOf("$.a.*.b", "$.x", "$.a.*.b"), "0 /a/0/b 11 12", "2 /a/0/b 11 12", "0 /a/1/b 25 26", "2 /a/1/b 25 26")
	var rows []string
	for k := range 256 {
		rows = append(rows, fmt.Sprint(k, " /0 1 2"))
	}
	tells(t, "[7]", built(slices.Repeat([][]api.Step{{place(0)}}, 256)...), rows...)
	tells(t, "[7]", built(slices.Repeat([][]api.Step{{place(0)}, {all}}, 128)...), rows...)
}

func TestPathsThatFindTheSame(t *testing.T) {
	s := `{"a":[7,8]}`
	tells(t, s, trieOf("$.a[0]", "$.*[0]", "$.a.*", "$.*.*"), "0 /a/0 6 7", "1 /a/0 6 7", "2 /a/0 6 7", "3 /a/0 6 7", "2 /a/1 8 9", "3 /a/1 8 9")
	tells(t, s, trieOf("$.*.*", "$.a.*", "$.*[0]", "$.a[0]"), "0 /a/0 6 7", "1 /a/0 6 7", "2 /a/0 6 7", "3 /a/0 6 7", "0 /a/1 8 9", "1 /a/1 8 9")
	tells(t, s, trieOf("$.*", "$.a"), "0 /a 5 10", "1 /a 5 10")
	tells(t, s, trieOf("$.a", "$.*"), "0 /a 5 10", "1 /a 5 10")
	// At two nodes at one time, of which the one is behind the other one in the trie, and its path ahead of that one's.
	nodes := []api.Node{nodeOf(nil, all, 1, a, 2), nodeOf(ends(1, 3), place(1), 3), nodeOf(ends(0, 2), place(1), 4), nodeOf(ends(5)), nodeOf(ends(4))}
	tells(t, s, nodes, "0 /a 5 10", "1 /a 5 10", "2 /a 5 10", "3 /a 5 10", "4 /a/1 8 9", "5 /a/1 8 9")
}

func TestPathsThatEndWhereOthersGoOn(t *testing.T) {
	tells(t, doc, trieOf("$.a[0]", "$.a", "$", "$.a[0].b"), "2  0 35", "1 /a 5 28", "0 /a/0 6 19", "3 /a/0/b 11 12")
	tells(t, doc, trieOf("$", "$.*", "$.*.*", "$.*.*.*", "$.*.*.*.*"), "0  0 35", "1 /a 5 28", "2 /a/0 6 19", "3 /a/0/b 11 12", "3 /a/0/c 17 18", "2 /a/1 20 27", "3 /a/1/b 25 26", "1 /b 33 34")
	tells(t, doc, trieOf("$.*.*.*", "$.*.*", "$.*", "$"), "3  0 35", "2 /a 5 28", "1 /a/0 6 19", "0 /a/0/b 11 12", "0 /a/0/c 17 18", "1 /a/1 20 27", "0 /a/1/b 25 26", "2 /b 33 34")
}

func TestStepsOfSeveralKinds(t *testing.T) {
	s := `{"0":[10,11],"1":{"0":12,"1":13},"":14}`
	// A name takes no element, however it looks, and a place no member.
	tells(t, s, trieOf(`$["0"]`, "$[0]", `$["0"]["0"]`, `$["0"][0]`, `$["1"][0]`, `$["1"]["0"]`, "$.*[1]", `$.*["1"]`), "0 /0 5 12", "3 /0/0 6 8", "6 /0/1 9 11", "5 /1/0 22 24", "7 /1/1 29 31")
	for _, row := range [][]string{{"$[0]"}, {"$[1]"}, {"$[14]"}, {`$["0"]["0"]`}, {`$["1"][0]`}, {`$[""][0]`}, {`$[""][""]`}, {`$[""].*`}} {
		tells(t, s, trieOf(row...))
	}
	tells(t, s, trieOf("$.*", `$[""]`, "$[0]"), "0 /0 5 12", "0 /1 17 32", "0 / 36 38", "1 / 36 38")
	tells(t, "[[0,1],[2,3]]", trieOf("$[1][0]", "$[1].*", "$.*[0]", "$[0]"), "3 /0 1 6", "2 /0/0 2 3", "0 /1/0 8 9", "1 /1/0 8 9", "2 /1/0 8 9", "1 /1/1 10 11")
}

func TestPlaces(t *testing.T) {
	for _, n := range []int{0, 1, 2, 9, 10, 11, 100, 301} {
		var list, rows []string
		var each [][]api.Step
		at := 1
		for i := range n {
			x := strconv.Itoa(7 * i)
			list = append(list, x)
			rows = append(rows, fmt.Sprintf("%d /%d %d %d", i, i, at, at+len(x)))
			at += len(x) + 1
			each = append(each, []api.Step{place(i)})
		}
		s := "[" + strings.Join(list, ",") + "]"
		tells(t, s, built(each[:min(n, 256)]...), rows[:min(n, 256)]...)
		for i := range n {
			tells(t, s, built(each[i]), "0 "+strings.SplitN(rows[i], " ", 2)[1])
		}
		for _, i := range []int{n, n + 1, 1 << 31, 1 << 32, 1e18 - 1} {
			tells(t, s, built([]api.Step{place(i)}))
		}
	}
}

func TestTheOrderOfParts(t *testing.T) {
	// As the document has them, however the paths and the trie's nodes lie.
	s := `{"z":{"b":1,"a":2},"a":[3,[4,5],6],"m":7}`
	want := []string{"/z 5 18", "/z/b 10 11", "/z/a 16 17", "/a 23 34", "/a/0 24 25", "/a/1 26 31", "/a/1/0 27 28", "/a/1/1 29 30", "/a/2 32 33", "/m 39 40"}
	texts := []string{"$.z", "$.z.b", "$.z.a", "$.a", "$.a[0]", "$.a[1]", "$.a[1][0]", "$.a[1][1]", "$.a[2]", "$.m"}
	var r rule = 241
	for range 300 {
		order := slices.Collect(upTo(len(texts)))
		for i := range order {
			j := r.below(i + 1)
			order[i], order[j] = order[j], order[i]
		}
		var some, rows []string
		for _, i := range order {
			some = append(some, texts[i])
		}
		for i, row := range want {
			rows = append(rows, fmt.Sprint(slices.Index(order, i), " ", row))
		}
		tells(t, s, trieOf(some...), rows...)
		tells(t, s, r.strange(trieOf(some...)), rows...)
	}
}

func TestNamesThatStandTwice(t *testing.T) {
	s := `{"a":1,"b":{"c":2,"c":[3],"":4},"a":[5],"b":{"d":6},"":7,"":8,"\u0061":9}`
	for _, x := range []struct {
		p    string
		want []string
	}{
		{"$.a", []string{"0 /a 5 6"}}, {"$.*", []string{"0 /a 5 6", "0 /b 11 31", "0 / 55 56"}}, {"$.b.*", []string{"0 /b/c 16 17", "0 /b/ 29 30"}}, {"$.b.c", []string{"0 /b/c 16 17"}}, {`$[""]`, []string{"0 / 55 56"}}, {"$.*.c", []string{"0 /b/c 16 17"}}, {"$.*.*", []string{"0 /b/c 16 17", "0 /b/ 29 30"}},
		// What lies in a member that doesn't count isn't found.
		{"$.a[0]", nil}, {"$.b.d", nil}, {"$.*.d", nil}, {"$.b.c[0]", nil}, {"$.*[0]", nil}, {"$.*.*.*", nil}, {"$.a.*", nil},
	} {
		tells(t, s, trieOf(x.p), x.want...)
	}
	tells(t, s, trieOf("$.*", "$.a", "$.a[0]", "$.*[0]", "$.*.d"), "0 /a 5 6", "1 /a 5 6", "0 /b 11 31", "0 / 55 56")
	// Each object by itself: a name that stood in another one, around it or beside it, counts.
	tells(t, `[{"a":{"a":1}},{"a":{"a":2,"a":3}},{"b":4,"a":{"a":5}}]`, trieOf("$.*.*.*", "$.*.a.a"), "0 /0/a/a 11 12", "1 /0/a/a 11 12", "0 /1/a/a 25 26", "1 /1/a/a 25 26", "0 /2/a/a 51 52", "1 /2/a/a 51 52")
	// By two nodes at one time.
	tells(t, `{"a":{"x":1},"a":{"x":2,"y":3}}`, trieOf("$.a.x", "$.*.y", "$.*.x", "$.a.y"), "0 /a/x 10 11", "2 /a/x 10 11")
}

func TestNamesAsEscapes(t *testing.T) {
	for _, raw := range quoted {
		s := `{"x":0,"` + raw + `":[7],"` + raw + `":8}`
		own := meaningOf(raw)
		p := pointer.Print([]string{own})
		from := len(raw) + 10
		first := fmt.Sprintf("0 %s %d %d", p, from, from+3)
		tells(t, s, built([]api.Step{name(own)}), first)
		tells(t, s, built([]api.Step{name(own), place(0)}), fmt.Sprintf("0 %s/0 %d %d", p, from+1, from+2))
		tells(t, s, built([]api.Step{all}), "0 /x 5 6", first)
		if raw != own {
			tells(t, s, built([]api.Step{name(raw)}))
		}
		for _, other := range names {
			if other != own {
				tells(t, `{"`+raw+`":7}`, built([]api.Step{name(other)}))
			}
		}
	}
	tells(t, `{"\u0061\/\"\\":1,"\ud83d\ude00":2,"\ud83d":3,"\ude00":4}`, built([]api.Step{name(`a/"\`)}, []api.Step{name("\U0001f600")}, []api.Step{name("\ufffd")}), `0 /a~1"\ 16 17`, "1 /\U0001f600 33 34", "2 /\ufffd 44 45")
}

func TestTildesAndSlashesInPointers(t *testing.T) {
	tells(t, `{"~":{"/":1,"~1":2},"/":[3],"m~n/o":4,"~0":5,"":{"":6}}`, trieOf("$.*", "$.*.*"),
		"0 /~0 5 19", "1 /~0/~1 10 11", "1 /~0/~01 17 18", "0 /~1 24 27", "1 /~1/0 25 26", "0 /m~0n~1o 36 37", "0 /~00 43 44", "0 / 48 54", "1 // 52 53")
}

func TestEmptyArraysAndObjects(t *testing.T) {
	tells(t, `[[],{},[{}],{"":[]}]`, trieOf("$.*", "$.*.*", "$.*.*.*", "$"), "3  0 20", "0 /0 1 3", "0 /1 4 6", "0 /2 7 11", "1 /2/0 8 10", "0 /3 12 19", "1 /3/ 16 18")
	for _, s := range []string{"[]", "{}", "[ ]", "{\n}", " [\t] "} {
		tells(t, s, trieOf("$.*", "$[0]", "$.a", `$[""]`))
		tells(t, "["+s+"]", trieOf("$.*.*", "$[0][0]"))
	}
}

func TestSpans(t *testing.T) {
	// Each kind of part, at all places where it may stand, with each row of blanks around.
	for _, x := range append(slices.Clone(scalars), "[]", "{}", "[1,2]", `{"a":1}`, "[ ]", `[ 1 , {"b" : [ ] } ]`, `"\""`, `"\\"`, `"]"`, `"[{\"a\":"`, `[",","]"]`) {
		for _, gap := range []string{"", " ", "\n", "\t", "\r", " \t\r\n ", strings.Repeat(" ", 70)} {
			n, g := len(x), len(gap)
			part := gap + x + gap
			w := n + 2*g
			tells(t, part, trieOf("$"), fmt.Sprint("0  ", g, " ", g+n))
			row := func(at string, ahead int) string { return fmt.Sprint("0 ", at, " ", ahead+g, " ", ahead+g+n) }
			tells(t, "["+part+","+part+","+part+"]", trieOf("$.*"), row("/0", 1), row("/1", 2+w), row("/2", 3+2*w))
			tells(t, "["+part+","+part+"]", trieOf("$[1]"), row("/1", 2+w))
			member := gap + `"a"` + gap + ":" + part
			m := 4 + 2*g
			tells(t, "{"+member+"}", trieOf("$.a"), row("/a", 1+m))
			tells(t, gap+"{"+member+","+strings.Replace(member, `"a"`, `"b"`, 1)+"}"+gap, trieOf("$.*"), row("/a", g+1+m), row("/b", g+2+2*m+w))
			tells(t, "{"+member+","+strings.Replace(member, `"a"`, `"b"`, 1)+"}", trieOf("$.b"), row("/b", 2+2*m+w))
			asPlain(t, "["+part+",{"+member+"}]", 1024, trieOf("$.*", "$.*.a", "$[1]", "$", "$.*.*.*"))
		}
	}
}

func TestDeepDocuments(t *testing.T) {
	for _, kind := range []string{"array", "object", "both"} {
		for _, n := range []int{1, 2, 63, 64, 65, 1000, 1023, 1024} {
			s := nested(n, kind, "77")
			down := wayDown(n, kind)
			from := strings.Index(s, "77")
			row := []string{fmt.Sprint("0 ", pointerOf(down), " ", from, " ", from+2)}
			tells(t, s, built(down), row...)
			tells(t, s, built(slices.Repeat([]api.Step{all}, n)), row...)
			tells(t, s, built(append(slices.Clone(down), all), append(slices.Clone(down), place(0)), slices.Repeat([]api.Step{all}, n+1), slices.Repeat([]api.Step{all}, 100000)))
			keeps(t, s, built(down), s)
			keeps(t, s, built(append(down, all)), "null")
			// Each level by itself, in both ways.
			var list [][]api.Step
			for i := range min(n, 128) {
				list = append(list, down[:n-i], slices.Repeat([]api.Step{all}, i+1))
			}
			asPlain(t, s, n, built(list...))
		}
	}
}

// pointerOf: the pointer of a path of names and places.
func pointerOf(p []api.Step) string {
	s := ""
	for _, x := range p {
		s += "/" + tildes.Replace(x.Name)
		if x.Kind == api.ByPlace {
			s += strconv.Itoa(x.Place)
		}
	}
	return s
}

// P24.2

func TestKeepExamples(t *testing.T) {
	keeps(t, doc, trieOf("$.a.*.b", "$.b", "$.a[1]"), `{"a":[{"b":1},{"b":3}],"b":4}`)
	keeps(t, doc, trieOf("$.a[1].b"), `{"a":[{"b":3}]}`)
	keeps(t, doc, trieOf("$.x"), "null")
	keeps(t, doc, trieOf(), "null")
	keeps(t, doc, trieOf("$"), doc)
	keeps(t, `{"a":1,"a":2}`, trieOf("$.*"), `{"a":1}`)
	keeps(t, `{"a":1,"a":2}`, trieOf("$"), `{"a":1,"a":2}`)
	keeps(t, whole, trieOf("$.tags[*]", "$.*.x"), `{"tags":["a","bc"],"pos":{"x":-1.50}}`)
	v, verdict, e := Keep("{", 1, trieOf("$"))
	if show(v) != show(api.Value{}) || verdict != (api.Verdict{Code: api.Invalid, At: 1}) || e != api.OK {
		t.Error(v, verdict, e)
	}
	v, verdict, e = Keep(doc, 4, trieOf("$.x"))
	if show(v) != show(api.Value{Kind: api.Null}) || verdict != (api.Verdict{Code: api.Valid, At: 35}) || e != api.OK {
		t.Error(v, verdict, e)
	}
}

func TestKeepOfWhatIsFoundItself(t *testing.T) {
	for _, s := range append(slices.Clone(scalars), "[]", "{}", "[[]]", `{"a":1,"a":2,"a":{"b":1,"b":2}}`, "[1,[2],{}]", `"\u0061"`) {
		keeps(t, s, trieOf("$"), s)
		keeps(t, "[0,"+s+"]", trieOf("$[1]"), "["+s+"]")
		keeps(t, `{"x":0,"a":`+s+`}`, trieOf("$.a"), `{"a":`+s+`}`)
		keeps(t, `{"x":[0,{"y":`+s+`}]}`, trieOf("$.*.*.*"), `{"x":[{"y":`+s+`}]}`)
	}
}

func TestKeepOfWhatLiesInWhatIsKept(t *testing.T) {
	// A part that is found is kept whole, whatever else is found in it.
	s := `{"a":[{"b":1,"c":2,"b":3},4],"d":{"e":5,"f":6}}`
	keeps(t, s, trieOf("$.a", "$.a[0].b"), `{"a":[{"b":1,"c":2,"b":3},4]}`)
	keeps(t, s, trieOf("$.a[0].b", "$.a[0]"), `{"a":[{"b":1,"c":2,"b":3}]}`)
	keeps(t, s, trieOf("$.a[0].b", "$", "$.x"), s)
	keeps(t, s, trieOf("$.*.*", "$.a[0].c"), s)
	keeps(t, s, trieOf("$.*.*.*"), `{"a":[{"b":1,"c":2}]}`)
	keeps(t, s, trieOf("$.d.e", "$.*.*.c"), `{"a":[{"c":2}],"d":{"e":5}}`)
	keeps(t, s, trieOf("$.d.f", "$.d.e"), `{"d":{"e":5,"f":6}}`)
}

func TestKeepOfElementsThatMoveUp(t *testing.T) {
	s := "[0,[10,11,12],2,[30,31,[320,321]],4]"
	keeps(t, s, trieOf("$[4]", "$[1][2]", "$[3][2][1]"), "[[12],[[321]],4]")
	keeps(t, s, trieOf("$[3][2]"), "[[[320,321]]]")
	keeps(t, s, trieOf("$[2]", "$[0]"), "[0,2]")
	keeps(t, s, trieOf("$.*[1]"), "[[11],[31]]")
	keeps(t, s, trieOf("$[5]", "$[0][0]", "$[1][3]", "$.*.*.*.*"), "null")
}

func TestKeepOfNamesThatStandTwice(t *testing.T) {
	s := `{"a":{"b":1,"c":2,"b":3},"a":{"d":4},"e":{"b":5,"b":6}}`
	keeps(t, s, trieOf("$.a"), `{"a":{"b":1,"c":2,"b":3}}`)
	keeps(t, s, trieOf("$.*"), `{"a":{"b":1,"c":2,"b":3},"e":{"b":5,"b":6}}`)
	keeps(t, s, trieOf("$.*.*"), `{"a":{"b":1,"c":2},"e":{"b":5}}`)
	keeps(t, s, trieOf("$.a.*", "$.e"), `{"a":{"b":1,"c":2},"e":{"b":5,"b":6}}`)
	keeps(t, s, trieOf("$.*.b"), `{"a":{"b":1},"e":{"b":5}}`)
	// Where nothing is kept of the first one, nothing is of the later one.
	keeps(t, s, trieOf("$.a.d"), "null")
	keeps(t, s, trieOf("$.*.d", "$.e.b"), `{"e":{"b":5}}`)
	keeps(t, `{"a":[],"a":[1],"\u0061":{"x":2}}`, trieOf("$.a[0]", "$.*.*", "$.*.x"), "null")
	keeps(t, `{"\u0061":1,"a":2}`, trieOf("$.a"), `{"a":1}`)
}

func TestKeepOfNothing(t *testing.T) {
	for _, s := range []string{"[]", "{}", "[[],{}]", `{"a":{},"b":[[]]}`, "1", `"a"`, "null", "true", "[1]", `{"a":1}`} {
		keeps(t, s, trieOf("$.none", "$[7]", "$.*.*.*.*", "$[0][0]", "$.a.a", "$.a[0]"), "null")
	}
	// Arrays and objects around nothing aren't kept; but an empty one that is found is.
	keeps(t, `{"a":[[],{}],"b":{},"c":[]}`, trieOf("$.a.*.*", "$.b.*", "$.c[0]"), "null")
	keeps(t, `{"a":[[],{}],"b":{},"c":[]}`, trieOf("$.a.*", "$.c"), `{"a":[[],{}],"c":[]}`)
	keeps(t, "[null,1]", trieOf("$[0]"), "[null]")
}

func TestKeepHasAllNames(t *testing.T) {
	for _, raw := range quoted {
		keeps(t, `{"x":0,"`+raw+`":[7,8]}`, built([]api.Step{name(meaningOf(raw)), place(1)}), `{"`+raw+`":[8]}`)
		keeps(t, `[{"`+raw+`":"`+raw+`","x":1}]`, built([]api.Step{all, name(meaningOf(raw))}), `[{"`+raw+`":"`+raw+`"}]`)
	}
}

// Both, in documents and tries of all kinds.

func TestSmallDocuments(t *testing.T) {
	parts := []api.Step{a, b, place(0), place(1), all}
	ones := paths(2, parts...)
	found := 0
	ask := func(s string, v *node, nodes []api.Node, l ...[]api.Step) {
		want := plainly(v, l)
		want.verdict = api.Verdict{Code: api.Valid, At: len(s)}
		same(t, s, 1024, nodes, want)
		found += len(want.found)
	}
	for i, s := range small(2) {
		v := wholeOf(s)
		for k, p := range ones {
			if i%3 == k%3 {
				ask(s, v, built(p), p)
			}
		}
		p, q, o := ones[i*7%31], ones[(i/31)%31], ones[(i/5)%31]
		ask(s, v, built(p, q, o), p, q, o)
	}
	for _, s := range small(1) {
		v := wholeOf(s)
		for _, p := range ones {
			for _, q := range ones {
				ask(s, v, built(p, q), p, q)
			}
		}
	}
	if found < 30000 {
		t.Error(found)
	}
}

func TestDocuments(t *testing.T) {
	var r rule = 242
	found := 0
	for _, s := range documents() {
		v := wholeOf(s)
		for range 12 {
			nodes := built(r.paths(v)...)
			found += asPlain(t, s, 1024, nodes)
			found += asPlain(t, s, 1024, r.strange(nodes))
		}
		asPlain(t, s, 1+r.below(6), built(r.paths(v)...))
	}
	if found < 30000 {
		t.Errorf("%d: the rule tells too little", found)
	}
}

func TestManyPaths(t *testing.T) {
	var r rule = 243
	for _, s := range documents() {
		if len(s) < 60 {
			continue
		}
		v := wholeOf(s)
		var list [][]api.Step
		for len(list) < 256 {
			list = append(list, r.path(v))
		}
		asPlain(t, s, 1024, built(list...))
	}
}

// P24.3

// foundBy: what Run tells of the path of a number.
func foundBy(k int, l []api.Found) []api.Found {
	return slices.DeleteFunc(slices.Clone(l), func(f api.Found) bool { return f.Path != k })
}

func TestRunTellsWhatPathsFindOneByOne(t *testing.T) {
	var r rule = 244
	for _, s := range documents() {
		v := parsed(t, s)
		for range 4 {
			l := r.paths(wholeOf(s))
			got, _, e := Run(s, 1024, r.strange(built(l...)))
			if e != api.OK {
				t.Fatal(e)
			}
			for k, p := range l {
				rest := foundBy(k, got)
				for at, part := range path.All(v, p) {
					if len(rest) == 0 || rest[0].Pointer != at || show(parsed(t, s[rest[0].Span.From:rest[0].Span.To])) != show(part) {
						t.Fatalf("Run(%.200q, %.200v): %.300v, not %s", s, l, rest, at)
					}
					rest = rest[1:]
				}
				if len(rest) > 0 {
					t.Fatalf("Run(%.200q, %.200v): %.300v too many", s, l, rest)
				}
			}
			if !slices.IsSortedFunc(got, inOrder(walked(v))) {
				t.Fatalf("Run(%.200q, %.200v): %.300v", s, l, got)
			}
		}
	}
}

// walked: the places of pointers, as the walk through a value comes to them.
func walked(v api.Value) map[string]int {
	places := map[string]int{}
	n := 0
	for at := range tree.Walk(v) {
		if _, twice := places[at]; !twice {
			places[at] = n
		}
		n++
	}
	return places
}

func inOrder(places map[string]int) func(x, y api.Found) int {
	return func(x, y api.Found) int {
		if x.Pointer != y.Pointer {
			return places[x.Pointer] - places[y.Pointer]
		}
		return x.Path - y.Path
	}
}

func TestWhatIsKeptIsWellShaped(t *testing.T) {
	var r rule = 245
	for _, s := range documents() {
		for range 4 {
			l := r.paths(wholeOf(s))
			v, _, e := Keep(s, 1024, built(l...))
			if e != api.OK || !tree.Formed(v) || tree.Depth(v) > tree.Depth(parsed(t, s)) {
				t.Fatalf("Keep(%.200q, %.200v): %.300s", s, l, show(v))
			}
		}
	}
}

// listed: the values that a path finds, one behind the other.
func listed(v api.Value, p []api.Step) string {
	var b strings.Builder
	for _, part := range path.All(v, p) {
		b.WriteString(show(part) + "\n")
	}
	return b.String()
}

func TestPathsFindAsMuchInWhatIsKept(t *testing.T) {
	var r rule = 246
	byPlace := func(s api.Step) bool { return s.Kind == api.ByPlace }
	for _, s := range documents() {
		whole := parsed(t, s)
		for range 6 {
			l := r.paths(wholeOf(s))
			for i := range l {
				for j := range l[i] {
					if byPlace(l[i][j]) {
						l[i][j] = all
					}
				}
			}
			v, _, _ := Keep(s, 1024, built(l...))
			for _, p := range l {
				if listed(v, p) != listed(whole, p) {
					t.Fatalf("Keep(%.200q, %.200v): %.300s: %v finds something else", s, l, show(v), p)
				}
			}
			text := compact(t, v)
			keeps(t, text, built(l...), text)
		}
	}
	// With places it need not be so, and isn't: the element has moved up.
	keeps(t, "[1,2]", trieOf("$[1]"), "[2]")
	keeps(t, "[2]", trieOf("$[1]"), "null")
}

func TestKeepIsWhatRunFinds(t *testing.T) {
	var r rule = 247
	for _, s := range documents() {
		for range 4 {
			nodes := built(r.paths(wholeOf(s))...)
			found, _, _ := Run(s, 1024, nodes)
			kept, _, _ := Keep(s, 1024, nodes)
			// The parts by themselves, outermost ones alone, are all that has no parts or isn't around some other.
			var outer, leaves int
			last := -1
			for _, f := range found {
				if f.Span.From >= last {
					outer += tree.Count(parsed(t, s[f.Span.From:f.Span.To]))
					last = f.Span.To
					leaves++
				}
			}
			if leaves == 0 {
				if show(kept) != show(null()) {
					t.Fatalf("Keep(%.200q, %v): %s", s, nodes, show(kept))
				}
				continue
			}
			around := map[string]bool{}
			for _, f := range found {
				inner, _ := pointer.Parse(f.Pointer)
				for i := range inner {
					around[pointer.Print(inner[:i])] = true
				}
			}
			for _, f := range found {
				for at := range around {
					if within, _ := pointer.Within(at, f.Pointer); within {
						delete(around, at)
					}
				}
			}
			if tree.Count(kept) != outer+len(around) {
				t.Fatalf("Keep(%.200q, %v): %s: %d, not %d and %d", s, nodes, show(kept), tree.Count(kept), outer, len(around))
			}
		}
	}
}

// Great documents and tries: each must be over soon.

// soon: fails if a call takes far longer than going through all that it was given a few times does.
func soon(t *testing.T, what string, call func()) {
	t.Helper()
	begun := time.Now()
	call()
	if took := time.Since(begun); took > 20*time.Second {
		t.Errorf("%s: %v", what, took)
	}
}

// asked: what is found and kept, where that is told soon.
func asked(t *testing.T, s string, nodes []api.Node) answer {
	t.Helper()
	var got answer
	soon(t, "it", func() { got = both(t, s, 1024, nodes) })
	if got.e != api.OK || got.verdict.Code != api.Valid {
		t.Fatal(got.verdict, got.e)
	}
	return got
}

func TestManyMembersAndElements(t *testing.T) {
	const n = 50000
	var members, elements []string
	for i := range n {
		members = append(members, fmt.Sprintf(`"name\u0020%d":{"a":[%d],"x":0}`, i, i))
		elements = append(elements, fmt.Sprintf(`[%d,{"a":"x"}]`, i))
	}
	s := `{"o":{` + strings.Join(members, ",") + `},"l":[` + strings.Join(elements, ",") + `]}`
	got := asked(t, s, trieOf("$.o.*.a[0]", "$.l.*[0]", "$.*.*.a.*", `$.o["name 777"]`, "$.l[777]", "$.none.*"))
	rest := got.found
	for i := range n {
		at := fmt.Sprint("/o/name ", i)
		if i == 777 {
			if f := rest[0]; f.Path != 3 || f.Pointer != at || s[f.Span.From:f.Span.To] != `{"a":[777],"x":0}` {
				t.Fatal(f)
			}
			rest = rest[1:]
		}
		for k, f := range rest[:2] {
			if f.Path != 2*k || f.Pointer != at+"/a/0" || s[f.Span.From:f.Span.To] != strconv.Itoa(i) {
				t.Fatal(i, f)
			}
		}
		rest = rest[2:]
	}
	for i := range n {
		at := fmt.Sprint("/l/", i)
		if i == 777 {
			if f := rest[0]; f.Path != 4 || f.Pointer != at || s[f.Span.From:f.Span.To] != `[777,{"a":"x"}]` {
				t.Fatal(f)
			}
			rest = rest[1:]
		}
		if f := rest[0]; f.Path != 1 || f.Pointer != at+"/0" || s[f.Span.From:f.Span.To] != strconv.Itoa(i) {
			t.Fatal(i, f)
		}
		rest = rest[1:]
	}
	if len(rest) > 0 || tree.Count(got.kept) != 3+n*3+1+n*2+2 {
		t.Error(len(rest), tree.Count(got.kept))
	}
}

// A long way to a wide part: what lies in an array or object isn't gone through again for each one around it.
func TestManyLevelsThatAreWide(t *testing.T) {
	const n = 200000
	for _, kind := range []string{"array", "object", "both"} {
		s := nested(1000, kind, "["+strings.Repeat("0,", n)+"7]")
		for _, p := range [][]api.Step{append(wayDown(1000, kind), place(n)), append(slices.Repeat([]api.Step{all}, 1000), place(n))} {
			got := asked(t, s, built(p, append(p[:1000:1000], a), append(slices.Repeat([]api.Step{all}, 1001), all)))
			if len(got.found) != 1 || s[got.found[0].Span.From:got.found[0].Span.To] != "7" || compact(t, got.kept) != nested(1000, kind, "[7]") {
				t.Fatal(len(got.found))
			}
		}
	}
	side := strings.Repeat(`{"x":[1,2]},`, 60)
	s := strings.Repeat("["+side, 1000) + "7" + strings.Repeat("]", 1000)
	var list [][]api.Step
	for i := range 255 {
		list = append(list, append(slices.Repeat([]api.Step{place(60)}, 999-i), place(59), name("x"), place(1)))
	}
	got := asked(t, s, built(append(list, slices.Repeat([]api.Step{place(60)}, 1000))...))
	if len(got.found) != 256 || got.found[255].Path != 255 || tree.Count(got.kept) != 1000+255*3+1 {
		t.Fatal(len(got.found), tree.Count(got.kept))
	}
	for i, f := range got.found[:255] {
		if f.Path != 254-i || s[f.Span.From:f.Span.To] != "2" {
			t.Fatal(i, f)
		}
	}
}

func TestManyPartsOfLongNames(t *testing.T) {
	const n = 100000
	long := strings.Repeat("long", n)
	s := `{"` + long + `":[` + strings.Repeat(`{"x":null},`, n) + `{"y":1}]}`
	got := asked(t, s, built([]api.Step{all, all, name("y")}, []api.Step{name(long), place(n + 1)}))
	if len(got.found) != 1 || got.found[0].Pointer != "/"+long+"/"+strconv.Itoa(n)+"/y" || compact(t, got.kept) != `{"`+long+`":[{"y":1}]}` {
		t.Error(len(got.found))
	}
}

func TestGreatTries(t *testing.T) {
	// Nodes without ends, each with many steps.
	var nodes []api.Node
	const n = 300
	top := api.Node{}
	for i := range n {
		top.Steps, top.To = append(top.Steps, name(strconv.Itoa(i))), append(top.To, 1+i)
	}
	nodes = append(nodes, top)
	for i := range n {
		mid := api.Node{}
		for j := range n {
			mid.Steps, mid.To = append(mid.Steps, place(j)), append(mid.To, 1+n+i*n+j)
		}
		nodes = append(nodes, mid)
	}
	nodes = append(nodes, make([]api.Node, n*n)...)
	nodes[1+n+7*n+9].Ends = ends(0)
	var members []string
	for i := range n {
		members = append(members, fmt.Sprintf(`"%d":[%s0]`, i, strings.Repeat("0,", n)))
	}
	got := asked(t, "{"+strings.Join(members, ",")+"}", nodes)
	if len(got.found) != 1 || got.found[0].Pointer != "/7/9" || compact(t, got.kept) != `{"7":[0]}` {
		t.Error(got.found)
	}
	// A part at as many nodes as it may be, if each leads on in two ways.
	var fork []api.Node
	for i := range 1<<12 - 1 {
		fork = append(fork, nodeOf(nil, a, 2*i+1, all, 2*i+2))
	}
	fork = append(fork, make([]api.Node, 1<<12)...)
	for i := range 256 {
		fork[1<<12-1+16*i].Ends = ends(255 - i)
	}
	got = asked(t, nested(12, "object", "1"), fork)
	if len(got.found) != 256 || got.found[0].Path != 0 || got.found[255].Path != 255 {
		t.Error(len(got.found))
	}
}

// Memory

// roomy: the same nodes in lists with room behind them, in which something stands.
func roomy(t []api.Node) []api.Node {
	wide := append(slices.Clone(t), nodeOf(ends(-3), name("room"), -5), api.Node{})
	for i, n := range t {
		wide[i] = api.Node{
			Steps: append(slices.Clone(n.Steps), name("room"), api.Step{Kind: 7})[:len(n.Steps)],
			To:    append(slices.Clone(n.To), -7, -8)[:len(n.To)],
			Ends:  append(slices.Clone(n.Ends), -9, -10)[:len(n.Ends)],
		}
	}
	return wide[:len(t)]
}

// withRoom: a text of the nodes, and of what stands behind their lists.
func withRoom(t []api.Node) string {
	s := fmt.Sprint(t[:len(t)+2])
	for _, n := range t {
		s += fmt.Sprint(n.Steps[:len(n.Steps)+2], n.To[:len(n.To)+2], n.Ends[:len(n.Ends)+2])
	}
	return s
}

// Writing over all of a list from a place on, and the room behind it.

func scribbled[T any](list []T, from int, x T) {
	for list = list[from:cap(list)]; len(list) > 0; list = list[1:] {
		list[0] = x
	}
}

var wrong = api.Value{Kind: -7, Text: "scribbled"}

// filled: writes into the room behind all of a value's lists.
func filled(v api.Value) {
	for _, kid := range v.Kids {
		filled(kid)
	}
	scribbled(v.Keys, len(v.Keys), "scribbled")
	scribbled(v.Kids, len(v.Kids), wrong)
}

func scribbledOver(v api.Value) {
	for _, kid := range v.Kids {
		scribbledOver(kid)
	}
	scribbled(v.Keys, 0, "scribbled")
	scribbled(v.Kids, 0, wrong)
}

func TestWhatComesInStays(t *testing.T) {
	var r rule = 248
	for i, s := range documents() {
		nodes := r.strange(built(r.paths(wholeOf(s))...))
		if i%7 == 0 {
			nodes = append(notTries()[2:], nodes)[r.below(len(notTries())-1)]
		}
		given := roomy(nodes)
		before := withRoom(given)
		for _, depth := range []int{0, 1, 1024} {
			got := both(t, s, depth, given)
			scribbled(got.found, 0, api.Found{Path: -7})
			scribbledOver(got.kept)
			if withRoom(given) != before {
				t.Fatalf("of %.200q: %.200v is changed", s, nodes)
			}
		}
	}
}

func TestAnswersShareNothing(t *testing.T) {
	var r rule = 249
	for _, s := range documents() {
		nodes := built(r.paths(wholeOf(s))...)
		one, two := both(t, s, 1024, nodes), both(t, s, 1024, nodes)
		want := one.text()
		scribbled(one.found, len(one.found), api.Found{Path: -7})
		filled(one.kept)
		if one.text() != want {
			t.Fatalf("of %.200q, %.200v: the room behind a list is another one's", s, nodes)
		}
		scribbled(one.found, 0, api.Found{Path: -7})
		scribbledOver(one.kept)
		if three := both(t, s, 1024, nodes); two.text() != want || three.text() != want {
			t.Fatalf("of %.200q, %.200v: two answers share a list", s, nodes)
		}
	}
}

// The nodes may be written over afterwards: the answers stay.
func TestAnswersStayWhateverTheirGiverDoes(t *testing.T) {
	nodes := trieOf("$.a.*.b", "$.b", "$.a[1]")
	got := both(t, doc, 4, nodes)
	want := got.text()
	for _, n := range nodes {
		scribbled(n.Steps, 0, name("scribbled"))
		scribbled(n.To, 0, -7)
		scribbled(n.Ends, 0, -7)
	}
	scribbled(nodes, 0, api.Node{})
	if got.text() != want {
		t.Error(got.text())
	}
}

// lieApart: no two of the texts have a byte in common.
func lieApart(t *testing.T, texts []string) {
	t.Helper()
	for i, x := range texts {
		for _, y := range texts[:i] {
			from, at := uintptr(unsafe.Pointer(unsafe.StringData(y))), uintptr(unsafe.Pointer(unsafe.StringData(x)))
			if x != "" && y != "" && at < from+uintptr(len(y)) && from < at+uintptr(len(x)) {
				t.Fatalf("%q lies in %q", x, y)
			}
		}
	}
}

// textsIn: all texts in a value.
func textsIn(v api.Value) []string {
	list := append([]string{v.Raw, v.Text}, v.Keys...)
	for _, kid := range v.Kids {
		list = append(list, textsIn(kid)...)
	}
	return list
}

func TestAnswersHoldOnToNoText(t *testing.T) {
	s := `{"name":["text","te\u0078t",{"na\u006de":12345,"other":{"name":"~/~"}}],"number":67890,"other":{"name":{"other":"text"}}}`
	nodes := trieOf("$.name[0]", "$.name[0]", "$.name.*", "$.name[2].name", "$.name[2].other.name", "$.number", "$.other.name.other", "$.other.*", "$.*.*.*.*")
	list := []string{s}
	for _, n := range nodes {
		for _, step := range n.Steps {
			list = append(list, step.Name)
		}
	}
	for range 2 {
		got := both(t, s, 1024, nodes)
		for _, f := range got.found {
			list = append(list, f.Pointer)
		}
		list = append(list, textsIn(got.kept)...)
	}
	if len(list) < 80 {
		t.Error(len(list))
	}
	lieApart(t, list)
}

// Sameness

func TestTheSameAgainWhateverElseRuns(t *testing.T) {
	var r rule = 250
	list := documents()
	for _, x := range none {
		list = append(list, x.s)
	}
	var sets [][]api.Node
	var want []string
	tell := func(i int) string {
		found, verdict, e := Run(list[i], 1+i%9, sets[i])
		kept, again, f := Keep(list[i], 1+i%9, sets[i])
		return answer{found, kept, verdict, e}.text() + fmt.Sprint(again, f)
	}
	for i, s := range list {
		set := trieOf("$", "$.a", "$.*")
		if verdict, _ := valid.Check(s, 1024); verdict.Code == api.Valid {
			set = r.strange(built(r.paths(wholeOf(s))...))
		}
		if i%17 == 0 {
			set = notTries()[i%len(notTries())]
		}
		sets = append(sets, set)
		want = append(want, tell(i))
	}
	var callers sync.WaitGroup
	for n := range 8 {
		callers.Go(func() {
			for i := range want {
				at := (i*(2*n+1) + n) % len(want)
				if got := tell(at); got != want[at] {
					t.Errorf("%.200q, %.200v: %.300s, not %.300s", list[at], sets[at], got, want[at])
					return
				}
			}
		})
	}
	callers.Wait()
}

// The plain reading itself, where the examples can tell.
func TestThePlainReading(t *testing.T) {
	nodes := trieOf("$.a.*.b", "$.b", "$.a[1]")
	got := plain(doc, 4, nodes)
	if rows := rowsOf(got.found); !slices.Equal(rows, []string{"0 /a/0/b 11 12", "2 /a/1 20 27", "0 /a/1/b 25 26", "1 /b 33 34"}) {
		t.Error(rows)
	}
	if show(got.kept) != show(parsed(t, `{"a":[{"b":1},{"b":3}],"b":4}`)) {
		t.Error(show(got.kept))
	}
	if got := plain(`{"a":1,"a":2}`, 1, trieOf("$.*")); show(got.kept) != show(parsed(t, `{"a":1}`)) || len(got.found) != 1 {
		t.Error(got.text())
	}
	for _, nodes := range notTries() {
		if trie.Formed(nodes) {
			t.Error(nodes)
		}
	}
	var r rule = 251
	v := wholeOf(whole)
	for range 300 {
		l := r.paths(v)
		odd := r.strange(built(l...))
		if again, e := trie.Paths(odd); e != api.OK || fmt.Sprint(again) != fmt.Sprint(l) {
			t.Fatal(odd, e)
		}
	}
}

func ExampleRun() {
	p, _, _ := path.Parse("$.tags[*]")
	q, _, _ := path.Parse("$.*.x")
	t, _ := trie.Build([][]api.Step{p, q})
	s := `{"id": 7, "tags": ["a", "b\u0063"], "pos": {"x": -1.50, "y": 1e2}}`
	found, verdict, err := Run(s, 9, t)
	for _, f := range found {
		fmt.Println(f.Path, f.Pointer, s[f.Span.From:f.Span.To])
	}
	fmt.Println(verdict.Code == api.Valid, verdict.At, err)
	// Output:
	// 0 /tags/0 "a"
	// 0 /tags/1 "b\u0063"
	// 1 /pos/x -1.50
	// true 66 0
}

func ExampleKeep() {
	p, _, _ := path.Parse("$.a[1].b")
	t, _ := trie.Build([][]api.Step{p})
	v, _, err := Keep(`{"a":[{"b":1,"c":2},{"b":3}],"b":4}`, 4, t)
	s, _ := write.Compact(v)
	fmt.Println(s, err)
	// Output:
	// {"a":[{"b":3}]} 0
}
