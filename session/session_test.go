package session

import (
	"errors"
	"fmt"
	"math"
	"slices"
	"strings"
	"sync"
	"testing"
	"time"
	"unsafe"

	"quarry/api"
	"quarry/pattern"
	"quarry/pointer"
	"quarry/query"
	"quarry/tree"
)

// The calls' exact types.
var (
	_ func([]string, int, int, int, []api.Learnt) (*Session, api.Errno) = New
	_ func(*Session, string) ([]api.Hit, api.Verdict)                   = (*Session).Ask
	_ func(*Session) []api.Learnt                                       = (*Session).Learnt
	_ func(*Session) (int, int)                                         = (*Session).Asked
)

// whole is the document of the document's own examples.
const whole = `{"id": 7, "tags": ["a", "b\u0063"], "pos": {"x": -1.50, "y": 1e2}}`

func hit(from, to int) api.Hit { return api.Hit{Found: true, Span: api.Span{From: from, To: to}} }

func know(route, name string, place, hits int) api.Learnt {
	return api.Learnt{Route: route, Name: name, Place: place, Hits: hits}
}

func made(t *testing.T, q question) *Session {
	t.Helper()
	s, e := New(q.pointers, q.depth, q.levels, q.room, q.told)
	if s == nil || e != api.OK {
		t.Fatalf("New(%s): %v, %d", brief(q), s, e)
	}
	return s
}

func refused(t *testing.T, q question, want api.Errno) {
	t.Helper()
	if s, e := New(q.pointers, q.depth, q.levels, q.room, q.told); s != nil || e != want {
		t.Fatalf("New(%s): %v, %d, not %d", brief(q), s, e, want)
	}
}

// brief: a text to be read, of anything.
func brief(x any) string {
	s := fmt.Sprintf("%+q", fmt.Sprintf("%+v", x))
	return s[:min(len(s), 600)]
}

func ask(s *Session, doc string) answer {
	hits, verdict := s.Ask(doc)
	return answer{hits, verdict}
}

// tells: a session answers that of a document.
func tells(t *testing.T, s *Session, doc string, want answer) {
	t.Helper()
	if got := ask(s, doc); got.text() != want.text() {
		t.Fatalf("Ask(%.300q): %.500s, not %.500s", doc, got.text(), want.text())
	}
}

// finds: of a document it answers these hits.
func finds(t *testing.T, s *Session, doc string, hits ...api.Hit) {
	t.Helper()
	tells(t, s, doc, answer{hits, api.Verdict{Code: api.Valid, At: len(doc)}})
}

// both: a session, and the plain one of the same.
func both(t *testing.T, q question) (*Session, *plain) {
	t.Helper()
	return made(t, q), &plain{made: q}
}

// asPlain: of these documents, one behind the other, it answers as the plain one, counts as it does, and knows no more than it may.
func asPlain(t *testing.T, s *Session, p *plain, docs ...string) {
	t.Helper()
	for _, doc := range docs {
		tells(t, s, doc, p.ask(doc))
		counts(t, s, p.asked, p.counts)
		knowsNoMore(t, s, p.made.room)
	}
}

func counts(t *testing.T, s *Session, asked, counted int) {
	t.Helper()
	if n, k := s.Asked(); n != asked || k != counted {
		t.Fatalf("Asked: %d, %d, not %d, %d", n, k, asked, counted)
	}
}

func knowsNoMore(t *testing.T, s *Session, room int) {
	t.Helper()
	l := s.Learnt()
	if _, e := pattern.New(room, l); e != api.OK || len(l) > room {
		t.Fatalf("room %d, %d learnt, %d: %s", room, len(l), e, brief(l))
	}
}

// knows: it has learnt just these, in whatever order.
func knows(t *testing.T, s *Session, want ...api.Learnt) {
	t.Helper()
	got := s.Learnt()
	for _, x := range want {
		if !slices.Contains(got, x) || len(got) != len(want) {
			t.Fatalf("Learnt: %s, not %s", brief(got), brief(want))
		}
	}
}

// nested: a text within so many objects or arrays.
func nested(n int, ahead, inner, behind string) string {
	return strings.Repeat(ahead, n) + inner + strings.Repeat(behind, n)
}

// The examples

func TestExampleOne(t *testing.T) {
	refused(t, question{[]string{"/a"}, 0, 1, 4, nil}, api.ErrRange)
	refused(t, question{[]string{"a"}, 1, 1, 4, nil}, api.ErrPointer)
	refused(t, question{[]string{"a"}, 1, 1, -1, nil}, api.ErrPointer)
	refused(t, question{[]string{"/a"}, 1, 1, 4097, nil}, api.ErrRange)
	refused(t, question{[]string{"/a"}, 1, 1, 0, []api.Learnt{know("", "a", 0, 1)}}, api.ErrShape)
}

func TestExampleTwo(t *testing.T) {
	s := made(t, question{[]string{"/b", "/c/0"}, 9, 2, 8, []api.Learnt{know("", "b", 5, 99)}})
	finds(t, s, `{"b":1,"c":[2]}`, hit(5, 6), hit(12, 13))
	finds(t, s, `{"c":[],"b":true}`, hit(12, 16), api.Hit{})
	tells(t, s, `{"b":}`, answer{verdict: api.Verdict{Code: api.Invalid, At: 5}})
	finds(t, s, `[{"b":1}]`, api.Hit{}, api.Hit{})
	counts(t, s, 4, 3)
	knowsNoMore(t, s, 8)
}

// The fifth example of the whole.
func TestExampleOfTheWhole(t *testing.T) {
	for _, levels := range []int{1, 2, 64} {
		s := made(t, question{[]string{"/id", "/pos/x"}, 9, levels, 4, []api.Learnt{know("", "id", 3, 1)}})
		finds(t, s, whole, hit(7, 8), hit(49, 54))
		finds(t, s, `{"pos":{"x":1},"id":2}`, hit(20, 21), hit(12, 13))
		tells(t, s, whole[:65], answer{verdict: api.Verdict{Code: api.Invalid, At: 65}})
	}
}

// P26.1

// Every question of some parts: the error is the one that query.Run answers, or else pattern.New.
func TestEveryFault(t *testing.T) {
	pointers := [][]string{nil, {}, {""}, {"/a", "", "/a"}, make([]string, 256), make([]string, 257), {"a"}, {"/a", "/b~"}, {"/~2", "/a"}, append(make([]string, 256), "a"), append(make([]string, 255), "a")}
	lists := [][]api.Learnt{nil, {}, {know("", "a", 3, 4)}, {know("", "a", 0, 0), know("", "b", math.MaxInt, 1<<62)}, {know("", "a", 0, 1), know("", "a", 1, 1)}, {know("", "a", -1, 1)}, {know("", "a", 0, -1)}, {know("", "a", 0, 1<<62+1)}, {know("", "a", -1, -1), know("", "b", 0, 0), know("", "a", 0, 0)}}
	met := map[api.Errno]int{}
	for _, p := range pointers {
		for _, depth := range []int{math.MinInt, -1, 0, 1, 2, 1024, 1025, math.MaxInt} {
			for _, levels := range []int{math.MinInt, -1, 0, 1, 2, 64, 65, math.MaxInt} {
				for _, room := range []int{math.MinInt, -1, 0, 1, 2, 3, 4096, 4097, math.MaxInt} {
					for _, l := range lists {
						q := question{p, depth, levels, room, l}
						want := q.refusal()
						met[want]++
						if s, e := New(p, depth, levels, room, l); e != want || (s == nil) == (e == api.OK) {
							t.Fatalf("New(%s): %v, %d, not %d", brief(q), s, e, want)
						}
					}
				}
			}
		}
	}
	if len(met) != 4 || met[api.OK] < 100 || met[api.ErrRange] < 100 || met[api.ErrPointer] < 100 || met[api.ErrShape] < 100 {
		t.Error(met)
	}
}

// within: what New answers of these numbers of a question, of which one is set: those that may be, and others.
func within(t *testing.T, set func(*question, int), good, bad []int) {
	t.Helper()
	for _, n := range good {
		q := question{[]string{"/a"}, 9, 3, 4, nil}
		set(&q, n)
		made(t, q)
	}
	for _, n := range bad {
		q := question{[]string{"/a"}, 9, 3, 4, []api.Learnt{know("", "a", -1, 0)}}
		set(&q, n)
		refused(t, q, api.ErrRange)
	}
}

// The same, said by numbers.
func TestBounds(t *testing.T) {
	within(t, func(q *question, n int) { q.depth = n }, []int{1, 2, 1023, 1024}, []int{math.MinInt, -1, 0, 1025, math.MaxInt})
	within(t, func(q *question, n int) { q.levels = n }, []int{1, 2, 63, 64}, []int{math.MinInt, -1, 0, 65, math.MaxInt})
	within(t, func(q *question, n int) { q.room = n }, []int{0, 1, 4095, 4096}, []int{math.MinInt, -1, 4097, math.MaxInt})
	within(t, func(q *question, n int) { q.pointers = make([]string, n) }, []int{0, 1, 255, 256}, []int{257, 1000})
	for _, room := range []int{0, 1, 4095, 4096} {
		q := question{nil, 9, 3, room, nil}
		for i := range room {
			q.told = append(q.told, know("", fmt.Sprint(i), i, i))
		}
		made(t, q)
		q.told = append(q.told, know("", "", 0, 0))
		refused(t, q, api.ErrShape)
	}
}

func TestTextsThatAreNoPointers(t *testing.T) {
	for _, p := range []string{"a", " ", " /a", "0", "#", "~", "~0", "/~", "/~2", "/a~", "/~/", "/~~", "/a/b~", "//~", "/~\xff", "\xff", "\x00", "\\a"} {
		for _, l := range [][]string{{p}, {"", p}, {p, "/a"}, {"/a", p, p}} {
			refused(t, question{l, 9, 3, 4, nil}, api.ErrPointer)
			refused(t, question{l, 9, 3, 4097, []api.Learnt{know("", "", -1, 0)}}, api.ErrPointer)
			refused(t, question{l, 9, 0, 4, nil}, api.ErrRange)
			refused(t, question{l, 1025, 1, 4, nil}, api.ErrRange)
		}
	}
	for _, p := range []string{"", "/", "//", "/a", "/~0~1", "/\xff", "/0", "/-", "/a/b/c", nested(3000, "/a", "", "")} {
		made(t, question{[]string{p}, 1, 1, 0, nil})
	}
}

// P26.2

// Whatever documents it is asked of, and whatever it was told: as query.Run, and as the library reads them.
func TestManySessions(t *testing.T) {
	var r rule = 26
	for n := range 1500 {
		few := one(&r, []int{2, 3, 5, len(names)})
		q := r.question(few)
		s, p := both(t, q)
		for range 12 {
			doc := r.text(few)
			asPlain(t, s, p, doc)
			if n%5 == 0 {
				asReading(t, q, doc)
			}
		}
	}
}

// asReading: what query.Run answers is what is read.
func asReading(t *testing.T, q question, doc string) {
	t.Helper()
	hits, verdict, _ := query.Run(doc, q.depth, q.levels, q.pointers)
	if verdict.Code != api.Valid {
		return
	}
	for i, p := range q.pointers {
		if want := led(doc, p); hits[i] != want {
			t.Fatalf("%.300q in %.300q: %v, not %v", p, doc, hits[i], want)
		}
	}
}

// All pointers to what is in a document and some to what isn't, asked of it and of others of its kind.
func TestAllPointersOfADocument(t *testing.T) {
	var r rule = 27
	for range 150 {
		few := one(&r, []int{2, 4, len(names)})
		doc := r.thing(5, few)
		q := question{pointers: pointersOf(doc), depth: 5 + r.below(5), levels: 1 + r.below(6), room: one(&r, []int{0, 1, 3, 4096})}
		for range 20 {
			q.pointers = append(q.pointers, r.pointer(5, few))
		}
		for i := range q.pointers {
			j := r.below(i + 1)
			q.pointers[i], q.pointers[j] = q.pointers[j], q.pointers[i]
		}
		q.pointers = q.pointers[:min(len(q.pointers), 256)]
		s, p := both(t, q)
		asReading(t, q, doc)
		asPlain(t, s, p, doc, doc, r.thing(5, few), doc, r.text(few), r.thing(5, few), doc)
	}
}

// What is found is the value to which pointer.Find leads.
func TestWhatIsFoundIsWhatIsMeant(t *testing.T) {
	var r rule = 28
	for range 200 {
		q := r.question(3)
		q.depth = 9
		s := made(t, q)
		for range 8 {
			doc := r.thing(4, 3)
			v, _, _ := tree.Parse(doc, 9)
			for i, h := range ask(s, doc).hits {
				want, ok, _ := pointer.Find(v, q.pointers[i])
				if h.Found != ok {
					t.Fatal(doc, q.pointers[i], h, ok)
				}
				if got, _, _ := tree.Parse(doc[h.Span.From:h.Span.To], 9); ok && !tree.Same(got, want) {
					t.Fatal(doc, q.pointers[i], h)
				}
			}
		}
	}
}

// rows: all rows of up to n of some things.
func rows[T any](n int, of ...T) [][]T {
	list := [][]T{nil}
	for from := 0; n > 0; n-- {
		to := len(list)
		for _, row := range list[from:to] {
			for _, x := range of {
				list = append(list, append(slices.Clip(row), x))
			}
		}
		from = to
	}
	return list
}

// Every small object, and every place that may have been told: a place that it hasn't, that of another member, that of one which has the name while an earlier one has it too.
func TestEverySmallObject(t *testing.T) {
	for _, row := range rows(4, `"a":1`, `"\u0061":22`, `"b":{"a":333}`, ` "" : 4444 `) {
		doc := "{" + strings.Join(row, ",") + "}"
		want := led(doc, "/a")
		for _, place := range []int{0, 1, 2, 3, 4, 5, 63, 64, 1 << 32, math.MaxInt} {
			q := question{[]string{"/a"}, 3, 1, 2, []api.Learnt{know("", "a", place, 1<<62), know("/b", "a", place, 0)}}
			s := made(t, q)
			for range 3 {
				finds(t, s, doc, want)
			}
			q.pointers, q.levels = []string{"/b/a", "/a", "/b"}, 2
			s = made(t, q)
			for range 2 {
				finds(t, s, doc, led(doc, "/b/a"), want, led(doc, "/b"))
			}
		}
	}
}

// Every row of a few documents: whatever was asked ahead changes nothing.
func TestEveryRowOfDocuments(t *testing.T) {
	docs := []string{`{"a":1,"b":[2,{"a":3}]}`, `{"b":[{"a":1}],"a":2}`, `{"b":{"1":{"a":0}},"a":1,"a":2}`, `{"a":{"a":{}}}`, `[{"a":1}]`, `{}`, `{"a":}`, `[[[[[1]]]]]`, `{"\u0061":[],"c":0,"a":1,"b":[0,{"b":0,"a":7}]}`}
	pointers := []string{"/a", "/b/1/a", "/b/0/a", "/b", "", "/a/a", "/c", "/a", "/b/1"}
	for _, room := range []int{0, 1, 2, 7} {
		for _, levels := range []int{1, 2, 3} {
			for _, row := range rows(3, docs...) {
				s, p := both(t, question{pointers, 4, levels, room, nil})
				asPlain(t, s, p, row...)
			}
		}
	}
}

func TestGuessesThatDontHold(t *testing.T) {
	for _, room := range []int{0, 1, 2, 8} {
		s, p := both(t, question{[]string{"/a", "/b/a", "/b/c", "/b"}, 9, 2, room, nil})
		asPlain(t, s, p,
			`{"x":0,"y":1,"a":2,"b":{"x":0,"a":1,"c":2}}`,
			`{"x":0,"y":1,"a":2,"b":{"x":0,"a":1,"c":2}}`,
			`{"a":0}`, `{"b":{}}`, `{}`, // fewer members than before
			`{"x":0,"a":1,"a":2,"b":{"a":1,"a":2,"c":3,"c":4}}`,               // an earlier one has the name too
			`{"x":0,"\u0061":1,"a":2,"\u0062":{"\u0061":1,"a":2,"\u0063":3}}`, // and is written in another way
			`{"x":"a","y":{"a":1},"z":["a"],"a":2,"b":[{"a":1}]}`,             // what is no member's name
			`{"x":"\"a\":1,","a":2,"b":"{\"a\":1,\"c\":2}"}`,
			`[{"x":0},{"y":1},{"a":2}]`, `7`, `"a"`, `null`, `[]`, // no object
			`{"b":7}`, `{"b":null,"a":0}`, `{"b":"a"}`, `{"b":[1,2,3]}`, // another thing where an object stood
			`{"a" : {"b" : 1} , "b" : { "c" : {"a":1} , "a" : [] } }`,
			`{"A":0,"aa":1,"a ":2," a":3,"b":{"A":0,"ab":1}}`, // names that are nearly the same
			`{"x":0,"y":1,"a":2,"b":{"x":0,"a":1,"c":2}}`,
		)
	}
}

// Documents that are none, or too deep, between good ones.
func TestDocumentsThatAreNone(t *testing.T) {
	good := `{"a":{"b":[1,2]},"c":0}`
	bad := []string{"", " ", "{", "}", `{"a":{"b":[1,2]},"c":0`, `{"a":{"b":[1,2]},"c":0}}`, `{"a":{"b":[1,2]},"c":}`, `{"a":{"b":[1,2}},"c":0}`, "\xff", `{"a":"` + "\xff" + `"}`, `{"a":"\x"}`, `{"a":01}`, `{"a":{"b":[[1]]}}`, `[[[[]]]]`, nested(2000, "[", "", "]"), nested(9, `{"a":`, "1", "}"), nested(2000, "[", "", "")}
	for _, levels := range []int{1, 3, 64} {
		s, p := both(t, question{[]string{"/a/b/1", "/c", "/a"}, 3, levels, 5, nil})
		for _, doc := range bad {
			asPlain(t, s, p, good, doc, good, doc, doc)
			known := s.Learnt()
			hits, verdict := s.Ask(doc)
			if len(hits) != 0 || verdict.Code == api.Valid || !slices.Equal(s.Learnt(), known) {
				t.Fatal(doc, hits, verdict)
			}
			p.asked++
		}
	}
}

func TestNoPointersAndTheWhole(t *testing.T) {
	for _, l := range [][]string{nil, {}, {""}, {"", "", ""}} {
		for _, levels := range []int{1, 64} {
			s, p := both(t, question{l, 4, levels, 3, nil})
			asPlain(t, s, p, "7", " {} ", "\n[1, 2]\t", `{"a":1}`, "", "[", "[[[[[]]]]]", ` "a" `, "{}")
			knows(t, s)
		}
	}
	finds(t, made(t, question{[]string{""}, 1, 1, 0, nil}), " \n7\t", hit(2, 3))
}

func TestPointersThatShareABeginning(t *testing.T) {
	q := question{[]string{"/a/b/c", "/a/b", "/a", "/a/b/d", "/a/x", "/a/b/c", "", "/a/b/c/e", "/a/b/c/e/0", "/a/bb", "/a/b/", "/a//", "/", "/aa/b"}, 9, 1, 20, nil}
	docs := []string{`{"a":{"b":{"c":{"e":[1]},"d":2},"x":3}}`, `{"":0,"a":{"":{"":1},"x":1,"b":{"":2,"d":{},"c":[]}}}`, `{"aa":{"b":0},"a":{"bb":1}}`, `{"a":[],"":{}}`}
	for q.levels = range 7 {
		if q.levels == 0 {
			continue
		}
		s, p := both(t, q)
		for range 3 {
			asPlain(t, s, p, docs...)
		}
		for _, doc := range docs {
			asReading(t, q, doc)
		}
	}
}

// As many pointers as may be, of ever another depth.
func TestManyPointers(t *testing.T) {
	var doc strings.Builder
	doc.WriteString("{")
	var l []string
	for i := range 64 {
		fmt.Fprintf(&doc, `"n%d":{"x":[%d,{"y":"z"}]},`, i, i)
		l = append(l, fmt.Sprintf("/n%d", i), fmt.Sprintf("/n%d/x", 63-i), fmt.Sprintf("/n%d/x/0", i), fmt.Sprintf("/n%d/x/1/y", 63-i))
	}
	doc.WriteString(`"n5":0}`)
	for _, levels := range []int{1, 2, 3, 4, 64} {
		for _, room := range []int{0, 1, 100, 4096} {
			s, p := both(t, question{l, 4, levels, room, nil})
			asPlain(t, s, p, doc.String(), doc.String(), strings.ReplaceAll(doc.String(), "n1", "m"), doc.String())
		}
	}
}

func TestArrays(t *testing.T) {
	q := question{[]string{"/0", "/1", "/2", "/01", "/-", "/-1", "/ 0", "/00", "/99999999999999999999", "/0/0", "/1/a", "/a", "/0/1/0", "/"}, 9, 2, 4, []api.Learnt{know("", "0", 1, 7), know("", "1", 0, 9)}}
	docs := []string{"[]", "[ ]", "[1]", "[ 1 ]", "[1,2]", "[ [ ] , { } ]", "[[7,[8]],{\"a\":9},[]]", `{"0":[1],"1":{"a":2},"-":3,"01":4}`, `{"1":1,"0":{"0":2}}`, "[[[[]]]]", "[\"[1,2]\", 5 ]", `"[1]"`}
	for q.levels = 1; q.levels < 4; q.levels++ {
		s, p := both(t, q)
		for range 2 {
			asPlain(t, s, p, docs...)
		}
		for _, doc := range docs {
			asReading(t, q, doc)
		}
	}
	// An array's places are no members, and aren't learnt.
	s := made(t, question{[]string{"/0/1", "/1/a"}, 9, 9, 4, nil})
	finds(t, s, `[[1,2],{"b":0,"a":3}]`, hit(4, 5), hit(18, 19))
	knows(t, s, know("/1", "a", 1, 1))
}

// As deep as documents may be.
func TestDeepDocuments(t *testing.T) {
	down := func(n int, name string) string { return strings.Repeat("/"+name, n) }
	for _, levels := range []int{1, 2, 3, 63, 64} {
		for _, n := range []int{1, 2, 3, 62, 63, 64, 65, 128, 129, 1022, 1023, 1024, 1025} {
			q := question{[]string{down(n, "a"), down(n-1, "a"), down(n+1, "a"), down(n/2, "a"), down(n/2, "a") + "/b", down(n, "0"), down(n-1, "0") + "/1", down(n-1, "a") + "/b", down(5000, "a")}, 1024, levels, 3000, nil}
			s, p := both(t, q)
			asPlain(t, s, p, nested(n, `{"a":`, "7", "}"), nested(n, `{"b":[0,1],"a":`, "7", "}"), nested(n, "[ ", "7", ",8]"), nested(n, `{"a":`, "7", `,"b":{"a":0}}`), nested(n, `{"b":0,"a":`, "[]", "}"), nested(n, `{"a":`, "7", "}"))
			q.depth = max(1, min(n, 1024)-1)
			s, p = both(t, q)
			asPlain(t, s, p, nested(n, `{"a":`, "7", "}"), nested(n-1, `{"a":`, "7", "}"), nested(n-1, "[", "7", "]"))
		}
	}
}

// The levels and the depth of the question change nothing but what is refused.
func TestLevelsAndDepths(t *testing.T) {
	docs := []string{whole, `{"pos":{"x":1},"id":2}`, `{"pos":{"y":{"x":[[1]]},"x":0},"tags":{"1":0}}`, "[[[[1]]]]"}
	l := []string{"/pos/x", "/tags/1", "/pos/y/x/0/0", "/id", "/0/0/0", "/pos/y/x"}
	for levels := 1; levels <= 64; levels++ {
		for _, depth := range []int{1, 2, 3, 4, 5, 63, 64, 65, 1024} {
			s, p := both(t, question{l, depth, levels, 9, nil})
			asPlain(t, s, p, docs...)
			asPlain(t, s, p, docs...)
		}
	}
}

// Names with all that may stand in them, each written in each way, ahead of one another and behind.
func TestNamesHoweverTheyAreWritten(t *testing.T) {
	var l []string
	for _, name := range names {
		l = append(l, pointer.Print([]string{name}))
	}
	s, p := both(t, question{l, 9, 1, len(names), nil})
	for _, name := range names {
		for _, raw := range written[name] {
			for _, other := range names {
				for _, behind := range written[other] {
					doc := `{"` + raw + `":1,"` + behind + `":2,"` + written[name][0] + `":3}`
					asPlain(t, s, p, doc)
					asReading(t, p.made, doc)
				}
			}
		}
	}
	for _, strange := range []string{"/\xff", "/a\xff", "/\xed\xa0\xbd", "/\x00", "/\xc3"} {
		s, p := both(t, question{[]string{strange, "/a"}, 9, 1, 4, []api.Learnt{know("", strange[1:], 0, 1)}})
		asPlain(t, s, p, `{"\ud83d":1,"a":2}`, `{"\u0000":1}`, `{"a\ufffd":1}`, "{\"\ufffd\":1}")
	}
}

// Wide objects, of which many members are asked: that is as quick as query.Run, however good the guesses are.
func TestWideObjects(t *testing.T) {
	n := 100000
	var doc strings.Builder
	for i := range n {
		fmt.Fprintf(&doc, `,"n%d":[%d]`, i, i)
	}
	text := "{" + doc.String()[1:] + "}"
	other := "{" + doc.String()[1:] + `,"n99999":0,"n0":1}`
	escaped := strings.ReplaceAll(text, `"n9`, `"\u006e9`)
	var l []string
	for i := range 128 {
		l = append(l, fmt.Sprintf("/n%d/0", n-1-i), fmt.Sprintf("/m%d", i))
	}
	s, p := both(t, question{l, 9, 1, 300, nil})
	asPlain(t, s, p, text)
	begun := time.Now()
	asPlain(t, s, p, text, text, other, escaped, text, escaped, strings.Replace(text, `"n9`, `"n99999":"first","n9`, 1), text)
	if took := time.Since(begun); took > time.Minute {
		t.Error(took)
	}
}

// A document of a megabyte at its greatest depth, and few levels to go by.
func TestMuchThatLiesDeep(t *testing.T) {
	inner := "[" + strings.Repeat(`{"id":12345,"name":"something"},`, 30000) + "1]"
	doc := nested(1000, `{"a":`, inner, "}")
	var l []string
	for i := range 256 {
		l = append(l, strings.Repeat("/a", 1000)+fmt.Sprintf("/%d/name", 117*i))
	}
	begun := time.Now()
	for _, levels := range []int{1, 2, 64} {
		s, p := both(t, question{l, 1024, levels, 300, nil})
		asPlain(t, s, p, doc, doc)
	}
	if took := time.Since(begun); took > time.Minute {
		t.Error(took)
	}
}

// Long pointers take no more room than they need.
func TestLongPointers(t *testing.T) {
	long := strings.Repeat("/a", 1<<20)
	s, p := both(t, question{[]string{long, "/" + strings.Repeat("a", 1<<20), long + "/b"}, 9, 64, 5, nil})
	asPlain(t, s, p, `{"a":{"a":{"a":1}}}`, `{"`+strings.Repeat("a", 1<<20)+`":1}`, `{"a":1}`)
}

// How a guess fails, and that it holds where it should.

func TestGuess(t *testing.T) {
	for _, x := range []struct {
		doc   string
		place int
		holds bool
	}{
		{`{"a":1}`, 0, true}, {`{"a":1}`, 1, false}, {`{"b":1,"a":1}`, 1, true}, {`{"b":1,"a":1}`, 0, false}, {`{"a":1,"a":1}`, 0, true}, {`{"a":1,"a":1}`, 1, false}, {`{"\u0061":1,"a":1}`, 1, false}, {`{"a":1,"\u0061":1}`, 1, false}, {`{"b":1,"\u0061":1}`, 1, true}, {`{"b":{"a":1},"a":1}`, 1, true},
		{`{"b":"\"a\":1","a":1}`, 1, true}, {`{"\u0062":1, "c":2 , "a":1}`, 2, true}, {`{}`, 0, false}, {`{"aa":1,"":2}`, 0, false}, {`{"b":1,"a":2,"c":3,"a":4}`, 3, false}, {`{"b":1,"c":2}`, math.MaxInt, false}, {`{"\\u0061":1,"u0061":2,"a":3}`, 2, true},
	} {
		s := made(t, question{[]string{"/a"}, 9, 1, 1, []api.Learnt{know("", "a", x.place, 1)}})
		p := open(x.doc, 1).part(api.Span{To: len(x.doc)}, 1)
		place, err := s.guess(p, step{"", "a"})
		if x.holds != (err == nil) || x.holds == errors.Is(err, errMissed) || x.holds && place != x.place || !x.holds && place != 0 {
			t.Error(x, place, err)
		}
		// Where the names have been read it answers the same.
		p.places()
		again, err := s.guess(p, step{"", "a"})
		if again != place || x.holds != (err == nil) {
			t.Error(x, again, err)
		}
		if _, err := s.guess(p, step{"/", "a"}); !errors.Is(err, errMissed) {
			t.Error(x, err)
		}
		if _, err := s.guess(p, step{"", "b"}); !errors.Is(err, errMissed) {
			t.Error(x, err)
		}
	}
}

// What was learnt of one document is where it is looked first in the next one: while guesses hold, no names are read.
func TestItLooksThereFirst(t *testing.T) {
	s := made(t, question{[]string{"/id", "/pos/x", "/tags/1"}, 9, 2, 9, nil})
	read := func(doc string) int {
		n := 0
		d := open(doc, 2)
		for _, w := range s.ways {
			s.follow(d, w.steps)
		}
		for _, p := range d.parts {
			if p.first != nil {
				n++
			}
		}
		return n
	}
	other := `{"pos":{"y":0,"x":1},"id":2,"tags":7}`
	for i, x := range []struct {
		doc  string
		want int
	}{{whole, 2}, {whole, 0}, {strings.ReplaceAll(whole, "7", "[7, {}]"), 0}, {other, 2}, {other, 0}, {`{"pos":{"y":0,"x":1},"id":2}`, 1}, {other, 0}, {whole, 2}, {whole, 0}} {
		if got := read(x.doc); got != x.want {
			t.Errorf("%d: the names of %d objects are read, not of %d", i, got, x.want)
		}
	}
}

// However many ask the same object, it is taken apart once, its names are read once, and not held against one another for ever.
func TestWorkThatIsDoneOnce(t *testing.T) {
	n := 300
	var l, list []string
	var told []api.Learnt
	for i := range n {
		list = append(list, fmt.Sprintf(`"n%d":%d`, i, i))
		if i%2 == 0 {
			l = append(l, fmt.Sprintf("/in/n%d", i))
			told = append(told, know("/in", fmt.Sprintf("n%d", i), i, 1))
		}
	}
	doc := `{"in":{` + strings.Join(list, ",") + "}}"
	s := made(t, question{l, 9, 2, 1000, told})
	d := open(doc, 2)
	for _, w := range s.ways {
		if _, ok := s.follow(d, w.steps); !ok {
			t.Fatal(w.steps)
		}
	}
	in := api.Span{From: 6, To: len(doc) - 1}
	p := d.part(in, 2)
	if p != d.part(in, 2) || len(d.parts) != 2 || len(p.colons) != n {
		t.Error(len(d.parts), len(p.colons))
	}
	if p.compared < n || p.compared > 9*n || p.first == nil {
		t.Error(p.compared, p.first == nil)
	}
	compared := p.compared
	p.places()["n2"] = 7
	if p.places()["n2"] != 7 || p.holds(2, "n2") || !p.holds(4, "n4") || p.compared != compared {
		t.Error("the names are read again")
	}
	// Nor are they, where they were read for another reason.
	p = open(doc, 2).part(in, 2)
	p.places()["n2"] = 7
	if p.holds(2, "n2") || !p.holds(4, "n4") || p.compared != 0 {
		t.Error("the names are held against one, though they are read", p.compared)
	}
}

// P26.3

func TestLearnt(t *testing.T) {
	s := made(t, question{[]string{"/id", "/pos/x", "/tags/1", "/nope", "/pos/x/y"}, 9, 3, 9, []api.Learnt{know("", "id", 3, 50), know("other", "", 7, 2)}})
	knows(t, s, know("", "id", 3, 50), know("other", "", 7, 2))
	s.Ask(whole)
	knows(t, s, know("", "id", 0, 1), know("", "tags", 1, 1), know("", "pos", 2, 2), know("/pos", "x", 0, 2), know("other", "", 7, 2))
	s.Ask(whole)
	knows(t, s, know("", "id", 0, 2), know("", "tags", 1, 2), know("", "pos", 2, 4), know("/pos", "x", 0, 4), know("other", "", 7, 2))
	s.Ask(`{"x":0,"id":1}`)
	knows(t, s, know("", "id", 1, 1), know("", "tags", 1, 2), know("", "pos", 2, 4), know("/pos", "x", 0, 4), know("other", "", 7, 2))
	for _, doc := range []string{"", "{", "[]", "{}", whole[:40], nested(10, `{"id":`, "1", "}")} {
		known := s.Learnt()
		s.Ask(doc)
		if !slices.Equal(s.Learnt(), known) {
			t.Error(doc, known, s.Learnt())
		}
	}
}

// Never more than there is room for, and nothing where there is none.
func TestRooms(t *testing.T) {
	var l []string
	var doc strings.Builder
	for i := range 200 {
		l = append(l, fmt.Sprintf("/n%d", i))
		fmt.Fprintf(&doc, `,"n%d":1`, i)
	}
	text := "{" + doc.String()[1:] + "}"
	for _, room := range []int{0, 1, 2, 3, 7, 199, 200, 201, 4096} {
		s, p := both(t, question{l, 9, 1, room, nil})
		for range 3 {
			asPlain(t, s, p, text)
			if n := len(s.Learnt()); n != min(room, 200) {
				t.Error(room, n)
			}
		}
	}
	full := make([]api.Learnt, 4096)
	for i := range full {
		full[i] = know("other", fmt.Sprint(i), i, 3)
	}
	s, p := both(t, question{l, 9, 1, 4096, full})
	asPlain(t, s, p, text, "{}", text)
	if len(s.Learnt()) != 4096 {
		t.Error(len(s.Learnt()))
	}
}

// P26.4

func TestAsked(t *testing.T) {
	s := made(t, question{[]string{"/a"}, 2, 1, 1, nil})
	counts(t, s, 0, 0)
	for i, x := range []struct {
		doc    string
		counts int
	}{{`{"a":1}`, 1}, {"", 1}, {"{", 1}, {"[[]]", 2}, {"[[[]]]", 2}, {"7", 3}, {"\xff", 3}, {"{}", 4}, {`{"a":}`, 4}, {`{"a":[[]]}`, 4}, {`{"b":1}`, 5}} {
		s.Ask(x.doc)
		counts(t, s, i+1, x.counts)
		s.Learnt()
		counts(t, s, i+1, x.counts)
	}
	other := made(t, question{nil, 1, 1, 0, nil})
	counts(t, other, 0, 0)
	for range 1000 {
		other.Ask("7")
		other.Ask("8 9")
	}
	counts(t, other, 2000, 1000)
	counts(t, s, 11, 5)
}

// P26.5

// A session that is begun with what another one has learnt answers as that one and as one that knows nothing; two of the same know the same.
func TestSessionsOfTheSame(t *testing.T) {
	var r rule = 29
	for range 400 {
		few := one(&r, []int{2, 3, len(names)})
		q := r.question(few)
		s, twin := made(t, q), made(t, q)
		nothing := q
		nothing.told = nil
		for range 10 {
			begun := q
			begun.told = s.Learnt()
			next, fresh := made(t, begun), made(t, nothing)
			if got := next.Learnt(); !slices.Equal(got, begun.told) {
				t.Fatalf("begun with %s, knows %s", brief(begun.told), brief(got))
			}
			for range 2 {
				doc := r.text(few)
				want := ask(s, doc)
				tells(t, twin, doc, want)
				tells(t, next, doc, want)
				tells(t, fresh, doc, want)
				if a, b := s.Learnt(), twin.Learnt(); !slices.Equal(a, b) {
					t.Fatalf("%s and %s", brief(a), brief(b))
				}
			}
		}
	}
}

func TestTwoSessionsInTurns(t *testing.T) {
	var r rule = 30
	for range 200 {
		var q [2]question
		var s [2]*Session
		var p [2]*plain
		var alone [2]*Session
		for i := range q {
			q[i] = r.question(3)
			s[i], p[i] = both(t, q[i])
			alone[i] = made(t, q[i])
		}
		var docs [2][]string
		for range 20 {
			i := r.below(2)
			doc := r.text(3)
			docs[i] = append(docs[i], doc)
			asPlain(t, s[i], p[i], doc)
		}
		for i := range q {
			for _, doc := range docs[i] {
				alone[i].Ask(doc)
			}
			if !slices.Equal(alone[i].Learnt(), s[i].Learnt()) {
				t.Fatal("one session learns of another")
			}
		}
	}
}

// Memory

var scribble = know("scribbled", "over", -7, -7)

// roomy: the same list with room behind its end.
func roomy[T any](l []T, x T) []T {
	long := append(slices.Clone(l), x, x, x)
	return long[:len(l)]
}

// scribbled: writes over a list and the room behind its end.
func scribbled[T any](l []T, x T) {
	for i := range l[:cap(l)] {
		l[:cap(l)][i] = x
	}
}

func TestWhatComesInStays(t *testing.T) {
	var r rule = 31
	for range 300 {
		q := r.question(3)
		q.depth, q.room = q.depth-r.below(3), q.room-r.below(3)
		pointers, told := roomy(q.pointers, "scribbled"), roomy(q.told, scribble)
		was, knew := slices.Clone(pointers[:cap(pointers)]), slices.Clone(told[:cap(told)])
		s, e := New(pointers, q.depth, q.levels, q.room, told)
		if e == api.OK {
			for range 8 {
				scribbled(ask(s, r.text(3)).hits, hit(-7, -7))
				scribbled(s.Learnt(), scribble)
			}
		}
		if !slices.Equal(pointers[:cap(pointers)], was) || !slices.Equal(told[:cap(told)], knew) {
			t.Fatal("what was handed in is changed")
		}
	}
}

// What came in may be written over, and so may what went out.
func TestASessionKeepsNoList(t *testing.T) {
	var r rule = 32
	for range 300 {
		q := r.question(3)
		given := q
		given.pointers, given.told = roomy(q.pointers, "~"), roomy(q.told, scribble)
		s, p := made(t, given), &plain{made: q}
		twin := made(t, q)
		scribbled(given.pointers, "~")
		scribbled(given.told, scribble)
		for range 8 {
			doc := r.text(3)
			want := p.ask(doc)
			one, two := ask(s, doc), ask(s, doc)
			twin.Ask(doc)
			twin.Ask(doc)
			p.ask(doc)
			scribbled(one.hits, hit(-7, -7))
			if two.text() != want.text() {
				t.Fatal("two answers share a list")
			}
			known, again := s.Learnt(), s.Learnt()
			scribbled(known, scribble)
			if !slices.Equal(again, twin.Learnt()) {
				t.Fatal("what is known shares a list")
			}
			asPlain(t, s, p, doc)
			twin.Ask(doc)
			if two.text() != want.text() || !slices.Equal(s.Learnt(), twin.Learnt()) {
				t.Fatal("an answer changes behind an Ask")
			}
		}
	}
}

// loose: a text whose bytes may be written over.
func loose(s string) (string, []byte) {
	b := []byte(s)
	return unsafe.String(unsafe.SliceData(b), len(b)), b
}

// Whoever handed in a text may do with it what he likes.
func TestASessionHoldsOnToNoText(t *testing.T) {
	for _, levels := range []int{1, 2, 3} {
		l := []string{"/pos/x", "/id", "/pos/a~1b/c", ""}
		told := []api.Learnt{know("", "id", 3, 7), know("/pos", "x", 0, 2)}
		q := question{depth: 9, levels: levels, room: 9}
		var bytes [][]byte
		for _, p := range l {
			text, b := loose(p)
			q.pointers, bytes = append(q.pointers, text), append(bytes, b)
		}
		for _, x := range told {
			route, b := loose(x.Route)
			name, c := loose(x.Name)
			q.told, bytes = append(q.told, know(route, name, x.Place, x.Hits)), append(bytes, b, c)
		}
		s := made(t, q)
		q.pointers, q.told = l, told
		twin, p := both(t, q)
		doc := `{"id":1,"pos":{"x":2,"a/b":{"c":3}}}`
		for range 3 {
			for _, b := range bytes {
				for i := range b {
					b[i] = '~'
				}
			}
			text, b := loose(doc)
			tells(t, s, text, p.ask(doc))
			twin.Ask(doc)
			bytes = append(bytes, b)
		}
		for _, b := range bytes {
			scribbled(b, '~')
		}
		if !slices.Equal(s.Learnt(), twin.Learnt()) {
			t.Fatal(s.Learnt(), twin.Learnt())
		}
		asPlain(t, s, p, doc)
	}
}

func TestTextsLieApart(t *testing.T) {
	pointers := []string{strings.Clone("/pos/deeper/x"), strings.Clone("/pos/y")}
	told := []api.Learnt{know("/pos", "y", 3, 1)}
	doc := strings.Clone(`{"pos":{"deeper":{"x":1},"y":2}}`)
	s := made(t, question{pointers, 9, 3, 9, told})
	s.Ask(doc)
	texts := append(pointers, doc, told[0].Route, told[0].Name)
	for range 2 {
		for _, x := range s.Learnt() {
			texts = append(texts, x.Route, x.Name)
		}
	}
	if len(texts) != 21 {
		t.Error(len(texts))
	}
	for i, x := range texts {
		for _, y := range texts[:i] {
			from, at := uintptr(unsafe.Pointer(unsafe.StringData(y))), uintptr(unsafe.Pointer(unsafe.StringData(x)))
			if x != "" && y != "" && at < from+uintptr(len(y)) && from < at+uintptr(len(x)) {
				t.Fatalf("%q lies in %q", x, y)
			}
		}
	}
}

// Sameness

// story: all that a session answers, made of one rule.
func story(seed int) string {
	var text strings.Builder
	r := rule(seed)
	few := one(&r, []int{2, 4, len(names)})
	q := r.question(few)
	s, e := New(q.pointers, q.depth, q.levels, q.room, q.told)
	fmt.Fprint(&text, e)
	for range 30 {
		doc := r.text(few)
		n, k := s.Asked()
		fmt.Fprint(&text, ask(s, doc).text(), n, k, s.Learnt(), ";")
	}
	return text.String()
}

func TestTheSameAgainWhateverElseRuns(t *testing.T) {
	var want []string
	for i := range 60 {
		want = append(want, story(i))
	}
	var callers sync.WaitGroup
	for n := range 8 {
		callers.Go(func() {
			for i := range want {
				at := (i*(2*n+1) + n) % len(want)
				if story(at) != want[at] {
					t.Errorf("%d isn't answered the same again", at)
					return
				}
			}
		})
	}
	callers.Wait()
}

// Of one document, asked again and again.
func TestAskedAgain(t *testing.T) {
	var r rule = 33
	for range 100 {
		few := one(&r, []int{3, len(names)})
		doc := r.thing(5, few)
		l := pointersOf(doc)
		s, p := both(t, question{l[:min(len(l), 256)], 9, 1 + r.below(6), r.below(20), nil})
		for range 4 {
			asPlain(t, s, p, doc)
			if !slices.Equal(s.Learnt(), s.Learnt()) {
				t.Fatal("Learnt changes")
			}
		}
	}
}

// The plain reading itself, where the examples can tell.
func TestThePlainOne(t *testing.T) {
	for p, want := range map[string]api.Hit{"": hit(0, 66), "/id": hit(7, 8), "/pos/x": hit(49, 54), "/tags/1": hit(24, 33), "/pos": hit(43, 65), "/nope": {}, "/tags/2": {}} {
		if got := led(whole, p); got != want {
			t.Error(p, got)
		}
	}
	if got := led(`{"a":[1,{"b":null}],"c/d":2,"a":3}`, "/c~1d"); got != hit(26, 27) {
		t.Error(got)
	}
	if got := pointersOf(` {"a":[1,{"~":null}],"c/d":2,"a":3}`); !slices.Equal(got, []string{"", "/a", "/a/0", "/a/1", "/a/1/~0", "/c~1d", "/a"}) {
		t.Error(got)
	}
	p := &plain{made: question{[]string{"/b"}, 9, 2, 8, nil}}
	if got := p.ask(`{"b":}`); len(got.hits) != 0 || p.asked != 1 || p.counts != 0 {
		t.Error(got, p)
	}
}

func ExampleSession() {
	s, err := New([]string{"/id", "/pos/x"}, 9, 2, 100, nil)
	for _, doc := range []string{`{"id":1,"pos":{"x":2}}`, `{"id":3,"pos":{"x":4}}`, `{"id":5,"pos":{}}`, `{"id":`} {
		hits, verdict := s.Ask(doc)
		fmt.Println(hits, verdict.Code == api.Valid)
	}
	for _, x := range s.Learnt() {
		fmt.Printf("%q %q %d %d\n", x.Route, x.Name, x.Place, x.Hits)
	}
	asked, valid := s.Asked()
	fmt.Println(asked, valid, err)
	// Output:
	// [{true {6 7}} {true {19 20}}] true
	// [{true {6 7}} {true {19 20}}] true
	// [{true {6 7}} {false {0 0}}] true
	// [] false
	// "" "id" 0 3
	// "" "pos" 1 3
	// "/pos" "x" 0 2
	// 4 3 0
}
