package cursor

import (
	"fmt"
	"math"
	"slices"
	"strconv"
	"strings"
	"sync"
	"testing"
	"unsafe"

	"quarry/api"
	"quarry/decimal"
	"quarry/floats"
	"quarry/texts"
	"quarry/tree"
	"quarry/valid"
	"quarry/whole"
)

// The calls' exact types.
var (
	_ func(string, int) (*Cursor, api.Verdict, api.Errno) = Open
	_ func(*Cursor) int                                   = (*Cursor).Kind
	_ func(*Cursor) api.Errno                             = (*Cursor).Enter
	_ func(*Cursor) api.Errno                             = (*Cursor).Next
	_ func(*Cursor) api.Errno                             = (*Cursor).Leave
	_ func(*Cursor, string) api.Errno                     = (*Cursor).Find
	_ func(*Cursor, int) api.Errno                        = (*Cursor).At
	_ func(*Cursor)                                       = (*Cursor).Rewind
	_ func(*Cursor) (string, api.Errno)                   = (*Cursor).Key
	_ func(*Cursor) (int, api.Errno)                      = (*Cursor).Place
	_ func(*Cursor) api.Span                              = (*Cursor).Raw
	_ func(*Cursor) int                                   = (*Cursor).Depth
	_ func(*Cursor) (string, api.Errno)                   = (*Cursor).Text
	_ func(*Cursor) (int64, api.Errno)                    = (*Cursor).Int
	_ func(*Cursor) (uint64, api.Errno)                   = (*Cursor).Uint
	_ func(*Cursor) (api.Decimal, api.Errno)              = (*Cursor).Decimal
	_ func(*Cursor) (float64, api.Errno)                  = (*Cursor).Float
	_ func(*Cursor) (bool, api.Errno)                     = (*Cursor).Bool
	_ func(*Cursor) bool                                  = (*Cursor).Null
	_ func(*Cursor) string                                = (*Cursor).Pointer
)

// The document of the chapter's examples.
const example = `{"a": [1, 2.5, {}], "b\u002f": "x", "a": null}`

// open: a cursor of a text that is a document.
func open(t *testing.T, s string) *Cursor {
	t.Helper()
	c, verdict, e := Open(s, api.MaxDepth)
	if c == nil || verdict != (api.Verdict{Code: api.Valid, At: len(s)}) || e != api.OK {
		t.Fatalf("Open(%.200q): %v, %d", s, verdict, e)
	}
	return c
}

// refused: there is no cursor, and why.
func refused(t *testing.T, s string, depth int, want api.Verdict, e api.Errno) {
	t.Helper()
	if c, verdict, f := Open(s, depth); c != nil || verdict != want || f != e {
		t.Fatalf("Open(%.200q, %d) = %v, %v, %d, not %v, %d", s, depth, c, verdict, f, want, e)
	}
}

// ok: the calls were made.
func ok(t *testing.T, calls ...api.Errno) {
	t.Helper()
	for i, e := range calls {
		if e != api.OK {
			t.Fatalf("call %d: %d", i, e)
		}
	}
}

// stays: a call is refused, and leaves the cursor where it stood.
func stays(t *testing.T, c *Cursor, what string, call func() api.Errno, want api.Errno) {
	t.Helper()
	ahead := tell(c)
	if e := call(); e != want {
		t.Fatalf("%s at %q: %d, not %d", what, ahead.pointer, e, want)
	}
	if behind := tell(c); behind != ahead {
		t.Fatalf("%s at %q: it stands at %q", what, ahead.pointer, behind.pointer)
	}
}

// is: what two-valued calls answer.
func is[T comparable](t *testing.T, what string) func(T, api.Errno) func(T, api.Errno) {
	return func(got T, e api.Errno) func(T, api.Errno) {
		return func(want T, f api.Errno) {
			t.Helper()
			if got != want || e != f {
				t.Fatalf("%s: %v, %d, not %v, %d", what, got, e, want, f)
			}
		}
	}
}

// stands: what it says of where it stands.
func stands(t *testing.T, c *Cursor, kind, from, to, depth int, pointer string) {
	t.Helper()
	if c.Kind() != kind || c.Raw() != (api.Span{From: from, To: to}) || c.Depth() != depth || c.Pointer() != pointer {
		t.Fatalf("it stands at %d %v %d %q, not %d %d %d %d %q", c.Kind(), c.Raw(), c.Depth(), c.Pointer(), kind, from, to, depth, pointer)
	}
}

// The examples.

func TestExampleOne(t *testing.T) {
	c, verdict, e := Open(example, 3)
	if c == nil || verdict != (api.Verdict{Code: api.Valid, At: 46}) || e != api.OK {
		t.Fatal(verdict, e)
	}
	stands(t, c, 6, 0, 46, 0, "")
	is[string](t, "Key")(c.Key())("", api.ErrTurn)
	is[int](t, "Place")(c.Place())(0, api.ErrTurn)
	stays(t, c, "Next", c.Next, api.ErrTurn)
	stays(t, c, "Leave", c.Leave, api.ErrTurn)
	stays(t, c, "At", func() api.Errno { return c.At(0) }, api.ErrKind)
	is[string](t, "Text")(c.Text())("", api.ErrKind)
	refused(t, example, 2, api.Verdict{Code: api.TooDeep, At: 15}, api.OK)
	refused(t, "[1,]", 5, api.Verdict{Code: api.Invalid, At: 3}, api.OK)
	refused(t, "1", 0, api.Verdict{}, api.ErrRange)
}

func TestExamplesTwoToFour(t *testing.T) {
	c := open(t, example)
	ok(t, c.Enter())
	is[string](t, "Key")(c.Key())("a", api.OK)
	is[int](t, "Place")(c.Place())(0, api.OK)
	stands(t, c, 5, 6, 18, 1, "/a")
	ok(t, c.Enter())
	is[int64](t, "Int")(c.Int())(1, api.OK)
	is[float64](t, "Float")(c.Float())(1, api.OK)
	is[api.Decimal](t, "Decimal")(c.Decimal())(api.Decimal{Digits: "1"}, api.OK)
	is[bool](t, "Bool")(c.Bool())(false, api.ErrKind)
	stands(t, c, 3, 7, 8, 2, "/a/0")
	ok(t, c.Next())
	is[int64](t, "Int")(c.Int())(0, api.ErrFraction)
	is[float64](t, "Float")(c.Float())(2.5, api.OK)
	stands(t, c, 3, 10, 13, 2, "/a/1")
	ok(t, c.Next())
	stays(t, c, "Enter", c.Enter, api.ErrNone)
	is[string](t, "Key")(c.Key())("", api.ErrTurn)
	is[int](t, "Place")(c.Place())(2, api.OK)
	stands(t, c, 6, 15, 17, 2, "/a/2")
	stays(t, c, "Next", c.Next, api.ErrNone)
	is[int](t, "Place")(c.Place())(2, api.OK)

	ok(t, c.Leave())
	stands(t, c, 5, 6, 18, 1, "/a")
	ok(t, c.Next())
	is[string](t, "Key")(c.Key())("b/", api.OK)
	stands(t, c, 4, 31, 34, 1, "/b~1")
	is[string](t, "Text")(c.Text())("x", api.OK)
	ok(t, c.Next())
	is[string](t, "Key")(c.Key())("a", api.OK)
	is[int](t, "Place")(c.Place())(2, api.OK)
	stands(t, c, 1, 41, 45, 1, "/a")
	if !c.Null() {
		t.Error("Null: false")
	}
	stays(t, c, "Next", c.Next, api.ErrNone)
	ok(t, c.Leave(), c.Find("a"))
	is[int](t, "Place")(c.Place())(0, api.OK)
	ok(t, c.At(2))
	stays(t, c, "At", func() api.Errno { return c.At(0) }, api.ErrKind)
	ok(t, c.Leave())
	stays(t, c, "At", func() api.Errno { return c.At(3) }, api.ErrNone)
	stays(t, c, "At", func() api.Errno { return c.At(-1) }, api.ErrNone)
	stands(t, c, 5, 6, 18, 1, "/a")

	c.Rewind()
	stands(t, c, 6, 0, 46, 0, "")
	stays(t, c, "Find", func() api.Errno { return c.Find("c") }, api.ErrNone)
	ok(t, c.Find("b/"))
	stays(t, c, "Find", func() api.Errno { return c.Find("a") }, api.ErrKind)
}

func TestExampleFive(t *testing.T) {
	c := open(t, "1e1073741825")
	is[api.Decimal](t, "Decimal")(c.Decimal())(api.Decimal{}, api.ErrBig)
	is[float64](t, "Float")(c.Float())(0, api.ErrBig)
	is[int64](t, "Int")(c.Int())(0, api.ErrFraction)
	is[float64](t, "Float")(open(t, "1e400").Float())(0, api.ErrOver)
	c = open(t, "18446744073709551615")
	is[int64](t, "Int")(c.Int())(0, api.ErrOver)
	is[uint64](t, "Uint")(c.Uint())(18446744073709551615, api.OK)
	is[uint64](t, "Uint")(open(t, "-1").Uint())(0, api.ErrOver)
}

func TestExampleOfTheWhole(t *testing.T) {
	c := open(t, `{"id": 7, "tags": ["a", "b\u0063"], "pos": {"x": -1.50, "y": 1e2}}`)
	ok(t, c.Enter())
	is[int64](t, "Int")(c.Int())(7, api.OK)
	is[string](t, "Key")(c.Key())("id", api.OK)
	stays(t, c, "Enter", c.Enter, api.ErrKind)
	ok(t, c.Next(), c.Next())
	is[string](t, "Key")(c.Key())("pos", api.OK)
	ok(t, c.Find("x"))
	is[api.Decimal](t, "Decimal")(c.Decimal())(api.Decimal{Neg: true, Digits: "15", Exp: -1}, api.OK)
	is[int64](t, "Int")(c.Int())(0, api.ErrFraction)
	is[float64](t, "Float")(c.Float())(-1.5, api.OK)
	stands(t, c, api.Number, 49, 54, 2, "/pos/x")
	ok(t, c.Leave(), c.Leave())
	stands(t, c, api.Object, 0, 66, 0, "")
	stays(t, c, "Next", c.Next, api.ErrTurn)
}

// P19.1

func TestOpenOfDepthsThatAreNone(t *testing.T) {
	list := []string{"1", "[]", example, nested(1024, "array", ""), nested(1025, "array", "")}
	for _, x := range none {
		list = append(list, x.s)
	}
	for _, s := range list {
		for _, depth := range []int{0, -1, -5, 1025, 1026, 1 << 20, 1<<32 + 5, math.MinInt, math.MaxInt} {
			refused(t, s, depth, api.Verdict{}, api.ErrRange)
		}
	}
}

func TestOpenOfWhatIsNoDocument(t *testing.T) {
	for _, x := range none {
		for _, depth := range []int{1, 2, 5, 1023, 1024} {
			refused(t, x.s, depth, api.Verdict{Code: api.Invalid, At: x.at}, api.OK)
		}
	}
}

func TestOpenOfLevels(t *testing.T) {
	for _, kind := range []string{"array", "object", "both"} {
		for _, n := range []int{0, 1, 2, 3, 64, 65, 1023, 1024, 1025, 3000} {
			s := nested(n, kind, "7")
			for _, depth := range []int{1, 2, 3, 64, 1023, 1024} {
				want, _ := valid.Check(s, depth)
				if (want.Code == api.Valid) != (n <= depth) {
					t.Fatal(kind, n, depth, want)
				}
				if n > depth {
					refused(t, s, depth, want, api.OK)
					continue
				}
				c, verdict, e := Open(s, depth)
				if c == nil || verdict != want || e != api.OK {
					t.Fatal(kind, n, depth, verdict, e)
				}
				stands(t, c, nodes(s).kind, 0, len(s), 0, "")
			}
		}
	}
}

func TestOpenOfBlanksAround(t *testing.T) {
	for _, s := range []string{"7", "null", "true", `"a"`, "[]", "{}", "[1]", `{"a":1}`, "-0"} {
		for _, ahead := range []string{"", " ", "\n\t\r ", strings.Repeat(" ", 64), strings.Repeat("\n", 1000)} {
			for _, behind := range []string{"", " ", "\r\n", "\t \t", strings.Repeat(" ", 64), strings.Repeat("\r", 1000)} {
				p := pairOf(t, ahead+s+behind)
				if got := p.c.Raw(); got != (api.Span{From: len(ahead), To: len(ahead) + len(s)}) {
					t.Fatalf("%q: Raw %v", ahead+s+behind, got)
				}
				p.through()
			}
		}
	}
}

// A cursor there is just of what Check calls Valid.
func TestOpenOfShortTexts(t *testing.T) {
	documents := 0
	for _, s := range rows(5, "[", "]", "{", "}", ",", ":", `"a"`, "1", " ") {
		for _, depth := range []int{1, 2, 5} {
			want, _ := valid.Check(s, depth)
			if want.Code != api.Valid {
				refused(t, s, depth, want, api.OK)
			}
		}
		if want, _ := valid.Check(s, 5); want.Code == api.Valid {
			documents++
			pairOf(t, s).through()
		}
	}
	if documents < 100 {
		t.Error("few documents:", documents)
	}
}

// P19.2

func TestEnter(t *testing.T) {
	for _, s := range []string{"null", "true", "false", "0", "-1.5e3", `""`, `"[1]"`, `"{\"a\":1}"`} {
		for _, x := range []string{s, " " + s + " "} {
			c := open(t, x)
			stays(t, c, "Enter", c.Enter, api.ErrKind)
		}
		c := open(t, `[`+s+`,{"a":`+s+`}]`)
		ok(t, c.Enter())
		stays(t, c, "Enter", c.Enter, api.ErrKind)
		ok(t, c.Next(), c.Enter())
		stays(t, c, "Enter", c.Enter, api.ErrKind)
	}
	for _, inner := range []string{"", " ", "\n", "\t\r\n  ", strings.Repeat(" ", 200)} {
		for _, s := range []string{"[" + inner + "]", "{" + inner + "}"} {
			c := open(t, s)
			stays(t, c, "Enter", c.Enter, api.ErrNone)
			c = open(t, "[0,"+s+",1]")
			ok(t, c.At(1))
			stays(t, c, "Enter", c.Enter, api.ErrNone)
			c = open(t, `{"a":`+s+`, "b":[`+s+`]}`)
			ok(t, c.Enter())
			stays(t, c, "Enter", c.Enter, api.ErrNone)
			ok(t, c.Next(), c.Enter())
			stays(t, c, "Enter", c.Enter, api.ErrNone)
		}
	}
	c := open(t, ` { "a" : [ [ 7 ] ] } `)
	ok(t, c.Enter())
	stands(t, c, api.Array, 9, 18, 1, "/a")
	ok(t, c.Enter())
	stands(t, c, api.Array, 11, 16, 2, "/a/0")
	ok(t, c.Enter())
	stands(t, c, api.Number, 13, 14, 3, "/a/0/0")
}

func TestNext(t *testing.T) {
	for _, s := range []string{"null", "1", `"a"`, "[]", "{}", "[1,2]", `{"a":1,"b":2}`, " [ 1 , 2 ] "} {
		c := open(t, s)
		stays(t, c, "Next", c.Next, api.ErrTurn)
		c.Enter()
		c.Rewind()
		stays(t, c, "Next", c.Next, api.ErrTurn)
	}
	for _, s := range []string{"[1]", "[1 ]", "[[1,2]]", "[{}]", `["a,b"]`, `{"a":1}`, `{"a":[1,2]}`, `{"a":",\"b\":2"}`, `{"a":{"b":1,"c":2} }`} {
		c := open(t, s)
		ok(t, c.Enter())
		stays(t, c, "Next", c.Next, api.ErrNone)
		stays(t, c, "Next", c.Next, api.ErrNone)
	}
	// What lies within the next one's neighbours is gone past, whatever it is.
	inner := []string{"1", "null", `"a"`, `"],["`, "[]", "{}", "[1,[2,[3]]]", `{"a":[{"b":{}}],"c":"}"}`, " [ ] ", "-0.5e9"}
	all := "[" + strings.Join(inner, ",") + "]"
	c := open(t, all)
	ok(t, c.Enter())
	for i, s := range inner {
		is[int](t, "Place")(c.Place())(i, api.OK)
		if span := c.Raw(); all[span.From:span.To] != strings.TrimSpace(s) {
			t.Fatalf("element %d: %v", i, span)
		}
		if i < len(inner)-1 {
			ok(t, c.Next())
		}
	}
	stays(t, c, "Next", c.Next, api.ErrNone)
	// It is what is around that counts, not what one came from.
	c = open(t, `[{"a":[1,{"b":2}]},3]`)
	ok(t, c.Enter(), c.Enter(), c.Enter(), c.Next(), c.Enter())
	stays(t, c, "Next", c.Next, api.ErrNone)
	ok(t, c.Leave())
	stays(t, c, "Next", c.Next, api.ErrNone)
	ok(t, c.Leave())
	stays(t, c, "Next", c.Next, api.ErrNone)
	ok(t, c.Leave(), c.Next())
	is[int64](t, "Int")(c.Int())(3, api.OK)
	stays(t, c, "Next", c.Next, api.ErrNone)
}

func TestLeave(t *testing.T) {
	for _, s := range []string{"null", "1", `"a"`, "[]", "[1,2]", `{"a":1}`} {
		c := open(t, s)
		stays(t, c, "Leave", c.Leave, api.ErrTurn)
		if c.Enter() == api.OK {
			ok(t, c.Leave())
			stays(t, c, "Leave", c.Leave, api.ErrTurn)
		}
	}
	// Behind Enter, Find, At and any number of Nexts it stands where it stood.
	c := open(t, `[0,{"a":1,"b":[1,2,3],"c":3},2,3]`)
	for _, to := range []func() api.Errno{
		c.Enter, func() api.Errno { return c.At(0) }, func() api.Errno { return c.At(3) },
	} {
		for nexts := range 5 {
			ahead := tell(c)
			ok(t, to())
			for range nexts {
				c.Next()
			}
			ok(t, c.Leave())
			if tell(c) != ahead {
				t.Fatal("Leave: it stands at", c.Pointer())
			}
		}
	}
	ok(t, c.At(1))
	for _, name := range []string{"a", "b", "c"} {
		for nexts := range 4 {
			ahead := tell(c)
			ok(t, c.Find(name))
			for range nexts {
				c.Next()
			}
			if c.Enter() == api.OK {
				ok(t, c.Next(), c.Next(), c.Leave())
			}
			ok(t, c.Leave())
			if tell(c) != ahead {
				t.Fatal("Leave: it stands at", c.Pointer())
			}
		}
	}
	stands(t, c, api.Object, 3, 28, 1, "/1")
}

func TestFind(t *testing.T) {
	for _, s := range []string{"null", "true", "1", `"a"`, `"{\"a\":1}"`, "[]", `["a"]`, `[{"a":1}]`} {
		c := open(t, s)
		for _, name := range []string{"", "a", "0", "\xff"} {
			stays(t, c, "Find", func() api.Errno { return c.Find(name) }, api.ErrKind)
		}
	}
	const s = `{"b":{"a":0,"d":1},"a":1,"\u0061":2,"a":3,"":4,"\"":5,"\u00e4":6,"` + "\u20ac" + `":7,"\ud83d\ude00":8,"\ud800":9,"~1":10,"/":11,"c":[{"e":12}],"":13}`
	c := open(t, s)
	for _, x := range []struct {
		name  string
		place int
	}{
		{"b", 0}, {"a", 1}, {"", 4}, {`"`, 5}, {"\u00e4", 6}, {"\u20ac", 7}, {"\U0001f600", 8}, {"\ufffd", 9}, {"~1", 10}, {"/", 11}, {"c", 12},
	} {
		ok(t, c.Find(x.name))
		is[int](t, "Place")(c.Place())(x.place, api.OK)
		is[string](t, "Key")(c.Key())(x.name, api.OK)
		ok(t, c.Leave())
	}
	for _, name := range []string{
		"A", "aa", "d", "e", "0", "1", "b ", " b", `"b"`, `\u0061`, `\"`, `\u00e4`, "\xc3", "\xe4", "\xff", "\xed\xa0\x80", `\ud800`, "\ufffd\ufffd", "a\x00", "\x00", "~01", "b\":{", "null",
	} {
		stays(t, c, "Find", func() api.Errno { return c.Find(name) }, api.ErrNone)
	}
	for _, empty := range []string{"{}", "{ }", "{\n\t}"} {
		c := open(t, empty)
		for _, name := range []string{"", "a", "}"} {
			stays(t, c, "Find", func() api.Errno { return c.Find(name) }, api.ErrNone)
		}
	}
	// From a member on, it is in that one's value that is looked.
	ok(t, c.Find("b"), c.Find("d"))
	stands(t, c, api.Number, 16, 17, 2, "/b/d")
	ok(t, c.Leave())
	stays(t, c, "Find", func() api.Errno { return c.Find("b") }, api.ErrNone)
}

func TestFindOfTheFirst(t *testing.T) {
	c := open(t, `{"x":{"a":[1]},"a":[2],"\u0061":[3],"a":[4]}`)
	ok(t, c.Enter(), c.Next(), c.Next(), c.Next())
	is[string](t, "Key")(c.Key())("a", api.OK)
	is[int](t, "Place")(c.Place())(3, api.OK)
	ok(t, c.Leave(), c.Find("a"))
	is[int](t, "Place")(c.Place())(1, api.OK)
	ok(t, c.Enter())
	is[int64](t, "Int")(c.Int())(2, api.OK)
	ok(t, c.Leave(), c.Next())
	is[string](t, "Key")(c.Key())("a", api.OK)
	is[int](t, "Place")(c.Place())(2, api.OK)
	// A name that is written with an escape counts as the first, too.
	c = open(t, `{"\u0061":1,"a":2}`)
	ok(t, c.Find("a"))
	is[int64](t, "Int")(c.Int())(1, api.OK)
}

func TestAt(t *testing.T) {
	for _, s := range []string{"null", "false", "1", `"[1]"`, "{}", `{"0":1}`, `{"a":[1]}`} {
		c := open(t, s)
		for _, i := range []int{-1, 0, 1, math.MaxInt, math.MinInt} {
			stays(t, c, "At", func() api.Errno { return c.At(i) }, api.ErrKind)
		}
	}
	for _, s := range []string{"[]", "[ ]", "[\n\n]"} {
		c := open(t, s)
		for _, i := range []int{-1, 0, 1, math.MaxInt, math.MinInt} {
			stays(t, c, "At", func() api.Errno { return c.At(i) }, api.ErrNone)
		}
	}
	for n := 1; n < 70; n++ {
		var list []string
		for i := range n {
			list = append(list, []string{strconv.Itoa(i), fmt.Sprintf("[%d,0]", i), fmt.Sprintf(`{"a":%d,"b":0}`, i), fmt.Sprintf(`",%d,"`, i)}[i%4])
		}
		s := "[" + strings.Join(list, " , ") + "]"
		c := open(t, s)
		for _, i := range []int{-1, -n, n, n + 1, 2 * n, math.MaxInt, math.MinInt, 1 << 32, 1<<32 + n - 1} {
			stays(t, c, "At", func() api.Errno { return c.At(i) }, api.ErrNone)
		}
		for i := n - 1; i >= 0; i-- {
			ok(t, c.At(i))
			is[int](t, "Place")(c.Place())(i, api.OK)
			if span := c.Raw(); s[span.From:span.To] != list[i] {
				t.Fatalf("element %d of %d: %v", i, n, span)
			}
			ok(t, c.Leave())
		}
	}
}

func TestRewind(t *testing.T) {
	s := ` [0,{"a":[{"b":[[[1,2]],3]}]}] `
	whole := tell(open(t, s))
	for i, v := range nodes(s).all() {
		c := open(t, s)
		for range 2 {
			goTo(t, c, v)
			c.Rewind()
			if tell(c) != whole {
				t.Fatalf("value %d: behind Rewind at %q", i, c.Pointer())
			}
			c.Rewind()
			if tell(c) != whole {
				t.Fatalf("value %d: behind a second Rewind at %q", i, c.Pointer())
			}
		}
		stays(t, c, "Leave", c.Leave, api.ErrTurn)
		ok(t, c.At(1), c.Find("a"), c.At(0), c.Find("b"), c.At(1))
		is[int64](t, "Int")(c.Int())(3, api.OK)
	}
	for _, s := range []string{"1", "null", "[]", `"a"`} {
		c := open(t, s)
		ahead := tell(c)
		if c.Rewind(); tell(c) != ahead {
			t.Fatal(s)
		}
	}
}

// goTo: from the whole to a value.
func goTo(t *testing.T, c *Cursor, v *node) {
	t.Helper()
	if v.in == nil {
		return
	}
	goTo(t, c, v.in)
	ok(t, c.Enter())
	for range v.place {
		ok(t, c.Next())
	}
}

// Every row of some moves answers as the walker does, wherever it leads.
func TestEveryRowOfMoves(t *testing.T) {
	moves := []func(*pair){
		func(p *pair) { p.enter() }, func(p *pair) { p.next() }, func(p *pair) { p.leave() },
		func(p *pair) { p.find("a") }, func(p *pair) { p.find("") }, func(p *pair) { p.elem(0) }, func(p *pair) { p.elem(1) }, func(p *pair) { p.rewind() },
	}
	for _, s := range []string{`[1,{"b":[],"a":[2,3]}]`, ` { "a" : [ "x" , { } ] , "" : null , "a" : 1 } `} {
		for row := range 8 * 8 * 8 * 8 {
			p := pairOf(t, s)
			for range 4 {
				moves[row%8](p)
				row /= 8
			}
		}
	}
}

func TestManyMovesThroughManyDocuments(t *testing.T) {
	var r rule = 1
	for _, s := range documents() {
		p := pairOf(t, s)
		for range 60 {
			r.move(p)
		}
	}
}

func TestMovesThroughAGreatDocument(t *testing.T) {
	var r rule = 5
	var list []string
	for range 300 {
		list = append(list, r.document(6))
	}
	p := pairOf(t, "["+strings.Join(list, ",")+"]")
	for range 5000 {
		r.move(p)
	}
	for i := range 302 {
		p.rewind()
		p.elem(i - 1)
	}
}

// P19.3

func TestKind(t *testing.T) {
	for s, kind := range map[string]int{
		"null": api.Null, "true": api.Bool, "false": api.Bool, "0": api.Number, "-0": api.Number, "-1.5E+3": api.Number, "9": api.Number, `""`: api.Text, `"null"`: api.Text, `"[]"`: api.Text, "[]": api.Array, "[null]": api.Array, "{}": api.Object, `{"a":null}`: api.Object,
	} {
		for _, x := range []string{s, " " + s, "\n" + s + "\t"} {
			if got := open(t, x).Kind(); got != kind {
				t.Errorf("%q: %d", x, got)
			}
			c := open(t, `[`+x+`,{"null":`+x+`}]`)
			ok(t, c.Enter())
			if got := c.Kind(); got != kind {
				t.Errorf("%q in an array: %d", x, got)
			}
			ok(t, c.Next(), c.Enter())
			if got := c.Kind(); got != kind {
				t.Errorf("%q in an object: %d", x, got)
			}
		}
	}
	for i, s := range "0123456789" {
		if got := open(t, string(s)).Kind(); got != api.Number {
			t.Error(i, got)
		}
	}
}

func TestRaw(t *testing.T) {
	list := []string{"null", "true", "false", "0", "-12.5e+3", `""`, `" "`, `"a "`, `" a"`, `"\""`, `"\\"`, `"]"`, `","`, "[]", "[ ]", "{}", "{ }", "[ 1 ]", `{ "a" : 1 }`, "[[ ] ]", strings.Repeat("1", 200), `"` + strings.Repeat(" ", 200) + `"`}
	for _, v := range list {
		for _, ahead := range []string{"", " ", "\n\t", strings.Repeat(" ", 65)} {
			for _, behind := range []string{"", " ", "\r\n", strings.Repeat("\t", 65)} {
				for _, around := range [][2]string{{"", ""}, {"[", "]"}, {"[", ",1]"}, {"[0,", "]"}, {"[[", "],1]"}, {`{"a":`, "}"}, {`{"a":`, `,"b":1}`}, {`{"a" : 0,"b" :`, "}"}, {`[{"":`, "}]"}} {
					s := around[0] + ahead + v + behind + around[1]
					c := open(t, s)
					for strings.ContainsAny(around[0], "[{") && c.Raw().From < len(around[0]+ahead) {
						if c.Raw().To <= len(around[0]+ahead) {
							ok(t, c.Next())
						} else {
							ok(t, c.Enter())
						}
					}
					if got := c.Raw(); got != (api.Span{From: len(around[0] + ahead), To: len(around[0] + ahead + v)}) {
						t.Fatalf("%q: %v", s, got)
					}
				}
			}
		}
	}
}

func TestAtManyLevels(t *testing.T) {
	for _, kind := range []string{"array", "object", "both"} {
		for _, n := range []int{1, 2, 63, 64, 65, 1023, 1024} {
			s := nested(n, kind, " 7 ")
			c := open(t, s)
			steps := ""
			for i := range n {
				if c.Depth() != i || c.Pointer() != steps {
					t.Fatal(kind, n, c.Depth(), c.Pointer())
				}
				if c.Kind() == api.Array {
					steps += "/0"
				} else {
					steps += "/a"
				}
				ok(t, c.Enter())
			}
			seven := strings.Index(s, "7")
			stands(t, c, api.Number, seven, seven+1, n, steps)
			stays(t, c, "Enter", c.Enter, api.ErrKind)
			stays(t, c, "Next", c.Next, api.ErrNone)
			for i := n - 1; i >= 0; i-- {
				ok(t, c.Leave())
				if c.Depth() != i || len(c.Pointer()) != 2*i {
					t.Fatal(kind, n, c.Depth(), c.Pointer())
				}
			}
			stays(t, c, "Leave", c.Leave, api.ErrTurn)
			stands(t, c, nodes(s).kind, 0, len(s), 0, "")
		}
	}
	c := open(t, nested(1023, "array", "[] , {}"))
	for range 1023 {
		ok(t, c.Enter())
	}
	stays(t, c, "Enter", c.Enter, api.ErrNone)
	ok(t, c.Next())
	stays(t, c, "Enter", c.Enter, api.ErrNone)
	stands(t, c, api.Object, 1023+5, 1023+7, 1023, strings.Repeat("/0", 1022)+"/1")
}

func TestPlaceAndKey(t *testing.T) {
	c := open(t, `{"a":[10,[11],{"b":12}],"\u0062":{"":13,"c":14}}`)
	is[int](t, "Place")(c.Place())(0, api.ErrTurn)
	is[string](t, "Key")(c.Key())("", api.ErrTurn)
	ok(t, c.Enter()) // a
	is[int](t, "Place")(c.Place())(0, api.OK)
	is[string](t, "Key")(c.Key())("a", api.OK)
	ok(t, c.Enter()) // 10
	is[int](t, "Place")(c.Place())(0, api.OK)
	is[string](t, "Key")(c.Key())("", api.ErrTurn)
	ok(t, c.Next(), c.Enter()) // 11
	is[int](t, "Place")(c.Place())(0, api.OK)
	is[string](t, "Key")(c.Key())("", api.ErrTurn)
	ok(t, c.Leave())
	is[int](t, "Place")(c.Place())(1, api.OK)
	ok(t, c.Next(), c.Enter()) // 12
	is[int](t, "Place")(c.Place())(0, api.OK)
	is[string](t, "Key")(c.Key())("b", api.OK)
	ok(t, c.Leave())
	is[int](t, "Place")(c.Place())(2, api.OK)
	is[string](t, "Key")(c.Key())("", api.ErrTurn)
	ok(t, c.Leave(), c.Next()) // b
	is[int](t, "Place")(c.Place())(1, api.OK)
	is[string](t, "Key")(c.Key())("b", api.OK)
	ok(t, c.Find("")) // 13
	is[int](t, "Place")(c.Place())(0, api.OK)
	is[string](t, "Key")(c.Key())("", api.OK)
	ok(t, c.Leave(), c.Find("c")) // 14
	is[int](t, "Place")(c.Place())(1, api.OK)
	c.Rewind()
	is[int](t, "Place")(c.Place())(0, api.ErrTurn)
	is[string](t, "Key")(c.Key())("", api.ErrTurn)
}

func TestKeyMeansWhatItsTextSays(t *testing.T) {
	for _, raw := range quoted {
		want, e := texts.Unescape(raw)
		if e != api.OK {
			t.Fatal(raw)
		}
		for _, s := range []string{`{"` + raw + `":1}`, `{"` + raw + `" : 1}`, `{ "` + raw + "\"\n\t: [1]}", `{"` + raw + `":"` + raw + `"}`} {
			c := open(t, s)
			ok(t, c.Enter())
			is[string](t, "Key")(c.Key())(want, api.OK)
			ok(t, c.Leave(), c.Find(want))
			is[int](t, "Place")(c.Place())(0, api.OK)
		}
	}
}

func TestPointer(t *testing.T) {
	for _, x := range []struct{ name, step string }{
		{"a", "a"}, {"", ""}, {"~", "~0"}, {"/", "~1"}, {"~1", "~01"}, {"~0", "~00"}, {"/~", "~1~0"}, {"~/", "~0~1"}, {"//~~", "~1~1~0~0"}, {"a/b~c", "a~1b~0c"}, {`\u007e\u002f\/`, "~0~1~1"}, {`\u0061`, "a"}, {`\"\\\n`, "\"\\\n"}, {"0", "0"}, {"10", "10"}, {"-", "-"}, {"\u20ac", "\u20ac"}, {`\ud83d\ude00`, "\U0001f600"}, {`\ud83d`, "\ufffd"}, {" ", " "}, {"%2f", "%2f"},
	} {
		c := open(t, `{"`+x.name+`":[{"`+x.name+`":1}]}`)
		ok(t, c.Enter())
		if got := c.Pointer(); got != "/"+x.step {
			t.Errorf("%q: %q", x.name, got)
		}
		ok(t, c.Enter(), c.Enter())
		if got := c.Pointer(); got != "/"+x.step+"/0/"+x.step {
			t.Errorf("%q: %q", x.name, got)
		}
	}
	// Of members whose names mean the same each is told alike.
	c := open(t, `{"a":1,"b":2,"a":3}`)
	ok(t, c.Enter(), c.Next(), c.Next())
	stands(t, c, api.Number, 17, 18, 1, "/a")
	// Numbers of two and more digits.
	inner := "[" + strings.Repeat("0,", 1234) + "0]"
	c = open(t, "["+strings.Repeat("[],", 12)+inner+"]")
	ok(t, c.At(12))
	for _, i := range []int{0, 1, 9, 10, 11, 99, 100, 101, 999, 1000, 1001, 1234} {
		ok(t, c.At(i))
		if got := c.Pointer(); got != "/12/"+strconv.Itoa(i) {
			t.Error(i, got)
		}
		ok(t, c.Leave())
	}
	// An object's members are told by their names, however many they are.
	c = open(t, `{"x":[0,0],"y":[0,0]}`)
	ok(t, c.Enter(), c.Next(), c.Enter(), c.Next())
	stands(t, c, api.Number, 18, 19, 2, "/y/1")
}

// P19.4

func TestText(t *testing.T) {
	for raw, want := range map[string]string{
		"": "", "a": "a", `a\n\u0041`: "a\nA", `\/`: "/", `\"\\\b\f\n\r\t`: "\"\\\b\f\n\r\t", `\ud83d\ude00`: "\U0001f600", `\uD83D\uDE00x`: "\U0001f600x", `\ud83d`: "\ufffd", `\ude00`: "\ufffd", `\ude00\ud83d`: "\ufffd\ufffd", `\ud83d\u0041`: "\ufffdA", `\ud83d\ud83d\ude00`: "\ufffd\U0001f600",
		"\u00e4\u20ac\U0001f600\U0010ffff": "\u00e4\u20ac\U0001f600\U0010ffff", `\u00e4\u20ac`: "\u00e4\u20ac", `\u0000`: "\x00", " a ": " a ", "null": "null", "12": "12", "],": "],", `\\`: `\`, `\\\\\"`: `\\"`, "\x7f": "\x7f",
	} {
		for _, s := range []string{`"` + raw + `"`, ` "` + raw + `" `} {
			is[string](t, "Text")(open(t, s).Text())(want, api.OK)
			for _, around := range [][2]string{{"[", "]"}, {"[", ",0]"}, {`{"a":`, `}`}, {`{"` + raw + `":`, `,"b":""}`}} {
				c := open(t, around[0]+s+around[1])
				ok(t, c.Enter())
				is[string](t, "Text")(c.Text())(want, api.OK)
			}
		}
	}
	for _, s := range []string{"null", "true", "false", "0", "[]", `["a"]`, "{}", `{"a":"b"}`, "-1e5"} {
		is[string](t, "Text")(open(t, s).Text())("", api.ErrKind)
	}
}

func TestBoolAndNull(t *testing.T) {
	for _, blank := range []string{"", " ", "\n"} {
		is[bool](t, "Bool")(open(t, blank+"true"+blank).Bool())(true, api.OK)
		is[bool](t, "Bool")(open(t, blank+"false"+blank).Bool())(false, api.OK)
		if !open(t, blank+"null"+blank).Null() {
			t.Error("null")
		}
	}
	c := open(t, `[true,false,null,{"true":false,"false":true,"null":null}]`)
	ok(t, c.Enter())
	is[bool](t, "Bool")(c.Bool())(true, api.OK)
	ok(t, c.Next())
	is[bool](t, "Bool")(c.Bool())(false, api.OK)
	ok(t, c.Next())
	is[bool](t, "Bool")(c.Bool())(false, api.ErrKind)
	ok(t, c.Next(), c.Enter())
	is[bool](t, "Bool")(c.Bool())(false, api.OK)
	ok(t, c.Next())
	is[bool](t, "Bool")(c.Bool())(true, api.OK)
	ok(t, c.Next())
	is[bool](t, "Bool")(c.Bool())(false, api.ErrKind)
	if !c.Null() {
		t.Error("null in an object")
	}
	for _, s := range []string{"0", "1", `"true"`, `"t"`, `""`, "[true]", "[]", "{}", `{"a":true}`} {
		is[bool](t, "Bool")(open(t, s).Bool())(false, api.ErrKind)
		if open(t, s).Null() {
			t.Error(s, "is null")
		}
	}
	for _, s := range []string{"true", "false", `"null"`, "[null]", `{"a":null}`} {
		if open(t, s).Null() {
			t.Error(s, "is null")
		}
	}
}

func TestWhatIsNoNumber(t *testing.T) {
	for _, s := range []string{"null", "true", "false", `""`, `"1"`, "[]", "[1]", "{}", `{"a":1}`} {
		for _, c := range []*Cursor{open(t, s), open(t, "["+s+"]")} {
			if c.Kind() == api.Array && s[0] != '[' {
				ok(t, c.Enter())
			}
			is[int64](t, "Int")(c.Int())(0, api.ErrKind)
			is[uint64](t, "Uint")(c.Uint())(0, api.ErrKind)
			is[api.Decimal](t, "Decimal")(c.Decimal())(api.Decimal{}, api.ErrKind)
			if got := bits(c.Float()); got != bits(0, api.ErrKind) {
				t.Fatal(s, got)
			}
		}
	}
}

func TestWholeNumbers(t *testing.T) {
	for _, x := range []struct {
		s string
		i int64
		e api.Errno
		u uint64
		f api.Errno
	}{
		{"0", 0, api.OK, 0, api.OK}, {"-0", 0, api.OK, 0, api.OK}, {"7", 7, api.OK, 7, api.OK}, {"-1", -1, api.OK, 0, api.ErrOver}, {"-120", -120, api.OK, 0, api.ErrOver},
		{"9223372036854775807", math.MaxInt64, api.OK, math.MaxInt64, api.OK}, {"9223372036854775808", 0, api.ErrOver, 1 << 63, api.OK},
		{"-9223372036854775808", math.MinInt64, api.OK, 0, api.ErrOver}, {"-9223372036854775809", 0, api.ErrOver, 0, api.ErrOver},
		{"18446744073709551615", 0, api.ErrOver, math.MaxUint64, api.OK}, {"18446744073709551616", 0, api.ErrOver, 0, api.ErrOver}, {"-18446744073709551616", 0, api.ErrOver, 0, api.ErrOver},
		{strings.Repeat("9", 1000), 0, api.ErrOver, 0, api.ErrOver}, {"-" + strings.Repeat("9", 1000), 0, api.ErrOver, 0, api.ErrOver},
		{"1.0", 0, api.ErrFraction, 0, api.ErrFraction}, {"1e2", 0, api.ErrFraction, 0, api.ErrFraction}, {"1E0", 0, api.ErrFraction, 0, api.ErrFraction}, {"-0.0", 0, api.ErrFraction, 0, api.ErrFraction}, {"-1e9", 0, api.ErrFraction, 0, api.ErrFraction}, {strings.Repeat("9", 1000) + ".5", 0, api.ErrFraction, 0, api.ErrFraction}, {"1e99999999999999999999", 0, api.ErrFraction, 0, api.ErrFraction},
	} {
		for _, s := range []string{x.s, " " + x.s + "\n", "[" + x.s + "]", "[" + x.s + ",1]", `{"a":` + x.s + "}", `{"a":` + x.s + `,"b":1}`, `{"a": ` + x.s + ` }`} {
			c := open(t, s)
			c.Enter()
			is[int64](t, s+": Int")(c.Int())(x.i, x.e)
			is[uint64](t, s+": Uint")(c.Uint())(x.u, x.f)
		}
	}
}

func TestDecimals(t *testing.T) {
	for _, x := range []struct {
		s string
		d api.Decimal
		e api.Errno
	}{
		{"0", api.Decimal{}, api.OK}, {"-0", api.Decimal{Neg: true}, api.OK}, {"-0.0e5", api.Decimal{Neg: true}, api.OK}, {"12.50", api.Decimal{Digits: "125", Exp: -1}, api.OK}, {"-1.50", api.Decimal{Neg: true, Digits: "15", Exp: -1}, api.OK}, {"1000", api.Decimal{Digits: "1", Exp: 3}, api.OK}, {"1E+3", api.Decimal{Digits: "1", Exp: 3}, api.OK}, {"0.001e-2", api.Decimal{Digits: "1", Exp: -5}, api.OK},
		{"1e1073741824", api.Decimal{Digits: "1", Exp: 1073741824}, api.OK}, {"1e1073741825", api.Decimal{}, api.ErrBig}, {"-1e1073741825", api.Decimal{}, api.ErrBig}, {"10e1073741824", api.Decimal{}, api.ErrBig}, {"1e-1073741824", api.Decimal{Digits: "1", Exp: -1073741824}, api.OK}, {"1e-1073741825", api.Decimal{}, api.ErrBig}, {"10e-1073741825", api.Decimal{Digits: "1", Exp: -1073741824}, api.OK}, {"0e99999999999999999999", api.Decimal{}, api.OK},
		{strings.Repeat("1", 1000), api.Decimal{Digits: strings.Repeat("1", 1000)}, api.OK}, {"-0." + strings.Repeat("0", 1000) + "7", api.Decimal{Neg: true, Digits: "7", Exp: -1001}, api.OK},
	} {
		for _, s := range []string{x.s, " " + x.s + "\n", "[" + x.s + "]", "[" + x.s + ",1]", `{"a":` + x.s + "}", `{"a":` + x.s + `,"b":1}`} {
			c := open(t, s)
			c.Enter()
			is[api.Decimal](t, s+": Decimal")(c.Decimal())(x.d, x.e)
		}
	}
}

func TestFloats(t *testing.T) {
	least := math.SmallestNonzeroFloat64
	for _, x := range []struct {
		s string
		f float64
		e api.Errno
	}{
		{"0", 0, api.OK}, {"-0", math.Copysign(0, -1), api.OK}, {"-0.0e5", math.Copysign(0, -1), api.OK}, {"0.1", 0.1, api.OK}, {"-1.50", -1.5, api.OK}, {"1e2", 100, api.OK}, {"9007199254740993", 9007199254740992, api.OK}, {"9007199254740993.0000000000000000000000001", 9007199254740994, api.OK},
		{"1.7976931348623157e308", math.MaxFloat64, api.OK}, {"1.7976931348623158e308", math.MaxFloat64, api.OK}, {"1.7976931348623159e308", 0, api.ErrOver}, {"-1.7976931348623159e308", 0, api.ErrOver}, {"1e309", 0, api.ErrOver}, {"1e400", 0, api.ErrOver}, {"-1e1073741824", 0, api.ErrOver}, {"1e1073741825", 0, api.ErrBig}, {"-1e1073741825", 0, api.ErrBig}, {"1e-1073741825", 0, api.ErrBig},
		{"5e-324", least, api.OK}, {"3e-324", least, api.OK}, {"-3e-324", -least, api.OK}, {"2e-324", 0, api.OK}, {"-2e-324", math.Copysign(0, -1), api.OK}, {"1e-1073741824", 0, api.OK}, {"-1e-1073741824", math.Copysign(0, -1), api.OK}, {strings.Repeat("9", 400), 0, api.ErrOver}, {"1" + strings.Repeat("0", 400) + "e-400", 1, api.OK},
	} {
		for _, s := range []string{x.s, " " + x.s + "\n", "[" + x.s + "]", "[" + x.s + ",1]", `{"a":` + x.s + "}", `{"a":` + x.s + `,"b":1}`} {
			c := open(t, s)
			c.Enter()
			if got, want := bits(c.Float()), bits(x.f, x.e); got != want {
				t.Fatalf("%s: %s, not %s", s, got, want)
			}
		}
	}
}

// What is read of a number is what the layers below say of its text.
func TestNumbersAreWhatTheLayersBelowSay(t *testing.T) {
	for _, raw := range numbers {
		for _, s := range []string{raw, "[ " + raw + " ]", `{"a":` + raw + `}`} {
			c := open(t, s)
			c.Enter()
			is[int64](t, "Int")(c.Int())(whole.Int[int64](raw))
			is[uint64](t, "Uint")(c.Uint())(whole.Uint[uint64](raw))
			is[api.Decimal](t, "Decimal")(c.Decimal())(decimal.Of(raw))
			want := bits(0, api.ErrBig)
			if d, e := decimal.Of(raw); e == api.OK {
				want = bits(floats.Of(d))
			}
			if got := bits(c.Float()); got != want {
				t.Fatalf("%s: %s, not %s", s, got, want)
			}
		}
	}
}

// Nothing that is only asked moves it.
func TestAskedItStays(t *testing.T) {
	for _, s := range documents() {
		p := pairOf(t, s)
		p.enter()
		p.same("all questions")
		p.enter()
		p.same("all questions")
	}
}

// P19.5

func TestThroughDocuments(t *testing.T) {
	for _, s := range documents() {
		pairOf(t, s).through()
	}
}

// Enter and then Next as often as it is OK goes through what is in an array or an object, in its order.
func TestEnterAndNextGoThroughAll(t *testing.T) {
	for _, n := range []int{1, 2, 3, 64, 65, 1000, 100000} {
		var elements, members []string
		for i := range n {
			elements = append(elements, strconv.Itoa(i))
			members = append(members, fmt.Sprintf(`"%d":%d`, i%7, i))
		}
		for _, s := range []string{"[" + strings.Join(elements, ",") + "]", "{" + strings.Join(members, " , ") + "}"} {
			c := open(t, s)
			ahead := tell(c)
			count := 0
			for e := c.Enter(); e == api.OK; e = c.Next() {
				is[int](t, "Place")(c.Place())(count, api.OK)
				is[int64](t, "Int")(c.Int())(int64(count), api.OK)
				if s[0] == '{' {
					is[string](t, "Key")(c.Key())(strconv.Itoa(count%7), api.OK)
				}
				count++
			}
			if count != n {
				t.Fatal(n, count)
			}
			stays(t, c, "Next", c.Next, api.ErrNone)
			if ok(t, c.Leave()); tell(c) != ahead {
				t.Fatal(n)
			}
		}
	}
}

// A walk by the moves alone builds the value that Parse answers.
func TestAWalkBuildsTheValue(t *testing.T) {
	for _, s := range documents() {
		want, _, _ := tree.Parse(s, api.MaxDepth)
		c := open(t, s)
		if got := built(t, s, c); !tree.Same(got, want) {
			t.Fatalf("%.200q: %v, not %v", s, got, want)
		}
		if c.Depth() != 0 {
			t.Fatalf("%.200q: it came back to %q", s, c.Pointer())
		}
		for pointer, part := range tree.Walk(want) {
			if pointer == "" || strings.Count(pointer, "/") > 3 {
				continue
			}
			c.Rewind()
			if !pointed(c, pointer) {
				continue // a member that another one of its name stands ahead of
			}
			if got := built(t, s, c); !tree.Same(got, part) && first(want) {
				t.Fatalf("%.200q at %q: %v, not %v", s, pointer, got, part)
			}
		}
	}
}

// built: the value at which a cursor of a text stands.
func built(t *testing.T, s string, c *Cursor) api.Value {
	v := api.Value{Kind: c.Kind()}
	v.Bool, _ = c.Bool()
	v.Text, _ = c.Text()
	if v.Kind == api.Number {
		span := c.Raw()
		v.Raw = s[span.From:span.To]
	}
	for e := c.Enter(); e == api.OK; {
		if key, e := c.Key(); e == api.OK {
			v.Keys = append(v.Keys, key)
		}
		v.Kids = append(v.Kids, built(t, s, c))
		if e = c.Next(); e != api.OK {
			ok(t, c.Leave())
		}
	}
	return v
}

// pointed: goes by a pointer; whether that leads on each time.
func pointed(c *Cursor, pointer string) bool {
	for _, step := range strings.Split(pointer, "/")[1:] {
		if c.Kind() == api.Array {
			i, _ := strconv.Atoi(step)
			if c.At(i) != api.OK {
				return false
			}
			continue
		}
		if c.Find(strings.NewReplacer("~0", "~", "~1", "/").Replace(step)) != api.OK {
			return false
		}
	}
	return true
}

// first: does no name stand twice?
func first(v api.Value) bool {
	for i, key := range v.Keys {
		if slices.Index(v.Keys, key) != i {
			return false
		}
	}
	for _, kid := range v.Kids {
		if !first(kid) {
			return false
		}
	}
	return true
}

// valid.Value of the document at Raw's From is its To.
func TestRawIsWhatValueSays(t *testing.T) {
	for _, s := range documents() {
		list := nodes(s).all()
		for _, v := range list[:min(len(list), 40)] {
			c := open(t, s)
			goTo(t, c, v)
			span := c.Raw()
			if to, e := valid.Value(s, span.From); to != span.To || e != api.OK {
				t.Fatalf("%.200q at %q: %v, and Value says %d, %d", s, c.Pointer(), span, to, e)
			}
			if span.From < 0 || span.From >= span.To || span.To > len(s) {
				t.Fatalf("%.200q: %v", s, span)
			}
			if v, e := valid.Check(s[span.From:span.To], api.MaxDepth); v.Code != api.Valid || e != api.OK {
				t.Fatalf("%.200q: %v is no document", s, span)
			}
		}
	}
}

// A member that was found by Find has the Key that was asked for, and none ahead of it has.
func TestWhatFindFindsHasTheKey(t *testing.T) {
	for _, s := range documents() {
		for _, v := range nodes(s).all() {
			if v.kind != api.Object {
				continue
			}
			c := open(t, s)
			goTo(t, c, v)
			ahead := tell(c)
			for _, kid := range v.kids {
				ok(t, c.Find(kid.name))
				is[string](t, "Key")(c.Key())(kid.name, api.OK)
				place, _ := c.Place()
				if place > kid.place || slices.IndexFunc(v.kids, func(x *node) bool { return x.name == kid.name }) != place {
					t.Fatalf("%.200q, Find(%q): %d", s, kid.name, place)
				}
				if ok(t, c.Leave()); tell(c) != ahead {
					t.Fatalf("%.200q, behind Find(%q)", s, kid.name)
				}
			}
		}
	}
}

// Two cursors know nothing of one another: moved in turns, each stands where it stands alone.
func TestTwoCursorsInTurns(t *testing.T) {
	var r rule = 77
	list := documents()
	for n := range 200 {
		s := list[r.below(len(list))]
		other := s
		if n%2 == 0 {
			other = list[r.below(len(list))]
		}
		p, q := pairOf(t, s), pairOf(t, other)
		for range 40 {
			r.move(p)
			q.same("the other's move")
			r.move(q)
			p.same("the other's move")
		}
	}
}

// One that goes down again behind a Leave or a Rewind writes over nothing that another one has.
func TestCursorsShareNoStack(t *testing.T) {
	s := `[[[0,1],[2,3]],[[4,5],[6,7]]]`
	a, b := open(t, s), open(t, s)
	ok(t, a.At(0), a.At(1), a.At(0))
	ok(t, b.At(1), b.At(0), b.At(1))
	ok(t, a.Leave(), a.Leave(), a.At(0), a.At(1))
	if a.Pointer() != "/0/0/1" || b.Pointer() != "/1/0/1" {
		t.Fatal(a.Pointer(), b.Pointer())
	}
	a.Rewind()
	ok(t, a.At(1), a.At(1))
	if a.Pointer() != "/1/1" || b.Pointer() != "/1/0/1" {
		t.Fatal(a.Pointer(), b.Pointer())
	}
}

// Memory and sameness.

// within: does a text lie in the memory of another one?
func within(a, b string) bool {
	if a == "" || b == "" {
		return false
	}
	p, q := uintptr(unsafe.Pointer(unsafe.StringData(a))), uintptr(unsafe.Pointer(unsafe.StringData(b)))
	return q <= p && p < q+uintptr(len(b))
}

func TestAnswersHoldOnToNoText(t *testing.T) {
	s := strings.Clone(`{"name":"text","number":123.5,"a":{"b":"\u0061bc"}}`)
	c := open(t, s)
	asked := strings.Clone("name")
	ok(t, c.Find(asked))
	for range 2 {
		key, _ := c.Key()
		again, _ := c.Key()
		text, _ := c.Text()
		more, _ := c.Text()
		pointer := c.Pointer()
		for _, x := range []string{key, again, text, more, pointer} {
			if x == "" || within(x, s) || within(x, asked) {
				t.Fatalf("%q lies in what came in", x)
			}
		}
		if within(key, again) || within(text, more) || within(pointer, c.Pointer()) {
			t.Fatal("two answers are one")
		}
	}
	ok(t, c.Next())
	d, _ := c.Decimal()
	f, _ := c.Decimal()
	if within(d.Digits, s) || within(d.Digits, f.Digits) {
		t.Fatal("Digits lie in what came in")
	}
}

// A name that was handed in is forgotten, and the text stays as it is.
func TestWhatComesInStays(t *testing.T) {
	for _, s := range documents() {
		kept := strings.Clone(s)
		p := pairOf(t, s)
		name := []byte("a")
		for range 2 {
			p.find(unsafe.String(unsafe.SliceData(name), 1))
			name[0] = 'b'
			p.same("another name")
			p.rewind()
			name[0] = 'a'
		}
		p.through()
		if s != kept {
			t.Fatalf("%.200q is now %.200q", kept, s)
		}
	}
}

// walked: all that a cursor says on one way through a document.
func walked(s string, seed rule) string {
	var b strings.Builder
	c, verdict, e := Open(s, api.MaxDepth)
	fmt.Fprintln(&b, verdict, e)
	if c == nil {
		return b.String()
	}
	for range 60 {
		switch seed.below(8) {
		case 0, 1, 2:
			e = c.Enter()
		case 3, 4:
			e = c.Next()
		case 5:
			e = c.Leave()
		case 6:
			e = c.At(seed.below(4))
		case 7:
			e = c.Find(seed.one(names))
		}
		fmt.Fprintln(&b, e, tell(c))
	}
	return b.String()
}

func TestTheSameAgainWhateverElseRuns(t *testing.T) {
	list := documents()
	for _, x := range none {
		list = append(list, x.s)
	}
	want := make([]string, len(list))
	for i, s := range list {
		want[i] = walked(s, rule(i))
	}
	var group sync.WaitGroup
	for worker := range 8 {
		group.Go(func() {
			for i := range list {
				i = (i + worker*len(list)/8) % len(list)
				if walked(list[i], rule(i)) != want[i] {
					t.Errorf("%.200q: another answer", list[i])
				}
			}
		})
	}
	group.Wait()
}

// The library's reading, against which the cursor is held, is what the tree says.
func TestTheWalkersNodes(t *testing.T) {
	for _, s := range documents() {
		v, verdict, e := tree.Parse(s, api.MaxDepth)
		if verdict.Code != api.Valid || e != api.OK {
			t.Fatalf("%.200q: %v, %d", s, verdict, e)
		}
		list := nodes(s).all()
		i := 0
		for pointer, part := range tree.Walk(v) {
			if x := list[i]; pointerTo(x) != pointer || x.kind != part.Kind || x.text != part.Text || part.Kind == api.Number && x.raw != part.Raw {
				t.Fatalf("%.200q at %q: %v", s, pointer, x)
			}
			i++
		}
		if i != len(list) {
			t.Fatalf("%.200q: %d values, not %d", s, len(list), i)
		}
	}
}

func ExampleOpen() {
	_, verdict, e := Open(`{"a": [1, 2}`, 5)
	fmt.Println(verdict.Code == api.Invalid, verdict.At, e == api.OK)
	_, verdict, _ = Open("[[]]", 1)
	fmt.Println(verdict.Code == api.TooDeep, verdict.At)
	// Output:
	// true 11 true
	// true 1
}

func ExampleCursor() {
	c, _, _ := Open(`{"id": 7, "tags": ["a", "b\u0063"]}`, 5)
	c.Find("tags")
	for e := c.Enter(); e == api.OK; e = c.Next() {
		text, _ := c.Text()
		fmt.Println(c.Pointer(), c.Raw(), text)
	}
	c.Leave()
	fmt.Println(c.Pointer(), c.Depth())
	// Output:
	// /tags/0 {19 22} a
	// /tags/1 {24 33} bc
	// /tags 1
}
