package pattern

import (
	"fmt"
	"math"
	"slices"
	"strings"
	"sync"
	"testing"
	"unsafe"

	"quarry/api"
)

// The calls' exact types.
var (
	_ func(int, []api.Learnt) (*Pattern, api.Errno) = New
	_ func(*Pattern, string, string) (int, bool)    = (*Pattern).Guess
	_ func(*Pattern, string, string, int) api.Errno = (*Pattern).Learn
	_ func(*Pattern) []api.Learnt                   = (*Pattern).All
	_ func(*Pattern) int                            = (*Pattern).Size
)

func made(t *testing.T, room int, l ...api.Learnt) *Pattern {
	t.Helper()
	p, e := New(room, l)
	if p == nil || e != api.OK {
		t.Fatalf("New(%d, %s) = %v, %d", room, brief(l), p, e)
	}
	return p
}

func refused(t *testing.T, room int, l entries, want api.Errno) {
	t.Helper()
	if p, e := New(room, l); p != nil || e != want {
		t.Fatalf("New(%d, %s) = %v, %d, not %d", room, brief(l), p, e, want)
	}
}

// brief: a text to be read, of anything.
func brief(x any) string {
	s := fmt.Sprintf("%#v", x)
	if len(s) > 500 {
		return s[:500] + ".."
	}
	return s
}

func learns(t *testing.T, p *Pattern, route, name string, place int) {
	t.Helper()
	if e := p.Learn(route, name, place); e != api.OK {
		t.Fatalf("Learn(%q, %q, %d) = %d", route, name, place, e)
	}
}

// often: the same Learn so many times.
func often(t *testing.T, p *Pattern, times int, route, name string, place int) {
	t.Helper()
	for range times {
		learns(t, p, route, name, place)
	}
}

func guesses(t *testing.T, p *Pattern, route, name string, want int) {
	t.Helper()
	if n, ok := p.Guess(route, name); n != want || !ok {
		t.Fatalf("Guess(%.100q, %.100q) = %d, %t, not %d", route, name, n, ok, want)
	}
}

func guessesNone(t *testing.T, p *Pattern, route, name string) {
	t.Helper()
	if n, ok := p.Guess(route, name); n != 0 || ok {
		t.Fatalf("Guess(%.100q, %.100q) = %d, %t", route, name, n, ok)
	}
}

// has: All is that; so is what the other calls say.
func has(t *testing.T, p *Pattern, want ...api.Learnt) {
	t.Helper()
	if got := p.All(); !slices.Equal(got, want) {
		t.Fatalf("All() = %s, not %s", brief(got), brief(want))
	}
	if p.Size() != len(want) {
		t.Fatalf("Size() = %d, not %d", p.Size(), len(want))
	}
	for _, x := range want {
		guesses(t, p, x.Route, x.Name, x.Place)
	}
}

// asPlain: it is as the plain one; of these keys each Guess too, known or not.
func asPlain(t *testing.T, p *Pattern, q *plain, l []key) {
	t.Helper()
	has(t, p, q.all()...)
	for _, k := range l {
		n, ok := q.guess(k.route, k.name)
		if m, known := p.Guess(k.route, k.name); m != n || known != ok {
			t.Fatalf("Guess(%.100q, %.100q) = %d, %t, not %d, %t", k.route, k.name, m, known, n, ok)
		}
	}
}

// learnBoth: both learn, and answer the same.
func learnBoth(t *testing.T, p *Pattern, q *plain, x lesson) {
	t.Helper()
	if e, want := p.Learn(x.route, x.name, x.place), q.learn(x.route, x.name, x.place); e != want {
		t.Fatalf("Learn(%.100q, %.100q, %d) = %d, not %d", x.route, x.name, x.place, e, want)
	}
}

// both: a pattern and the plain one of the same.
func both(t *testing.T, room int, l entries) (*Pattern, *plain) {
	t.Helper()
	q, e := plainOf(room, l)
	if e != api.OK {
		t.Fatalf("plainOf(%d, %s): %d", room, brief(l), e)
	}
	return made(t, room, l...), q
}

// inHeap: each entry stands in the heap where it says, none ahead of the one above it, and the map has just these.
func inHeap(t *testing.T, p *Pattern) {
	t.Helper()
	l := p.queue.items
	if len(l) != len(p.known) || len(l) > p.room {
		t.Fatalf("%d in the heap, %d in the map, room for %d", len(l), len(p.known), p.room)
	}
	for i, e := range l {
		if e.at != i || p.known[e.key] != e {
			t.Fatalf("%q stands at %d, and says %d", e.key, i, e.at)
		}
		if above := l[max(0, i-1)/2]; e.goesAhead(above) {
			t.Fatalf("%q is ahead of %q", e.key, above.key)
		}
	}
	if n := slices.IndexFunc(l[len(l):cap(l)], func(e *entry) bool { return e != nil }); n >= 0 {
		t.Fatalf("one that went is held on to, %d behind the end", n)
	}
}

// entriesOf: so many entries, all of other keys, with Hits from 1 on in turns.
func entriesOf(n int) entries {
	var l entries
	for i, k := range keys(n) {
		l = append(l, know(k.route, k.name, i, 1+i%3))
	}
	return l
}

// The examples

func TestExamplesOneToThree(t *testing.T) {
	p := made(t, 2)
	has(t, p)
	learns(t, p, "/", "a", 3)
	guesses(t, p, "/", "a", 3)
	guessesNone(t, p, "", "a")
	if e := p.Learn("/", "a", -1); e != api.ErrRange {
		t.Error(e)
	}
	learns(t, p, "/", "a", 3)
	has(t, p, know("/", "a", 3, 2))
	learns(t, p, "/", "a", 4)
	has(t, p, know("/", "a", 4, 1))
	often(t, p, 2, "/", "b", 0)
	has(t, p, know("/", "b", 0, 2), know("/", "a", 4, 1))
	learns(t, p, "x", "a", 7)
	has(t, p, know("/", "b", 0, 2), know("x", "a", 7, 1))
	guessesNone(t, p, "/", "a")
	learns(t, p, "x", "c", 1)
	has(t, p, know("/", "b", 0, 2), know("x", "c", 1, 1))
	guessesNone(t, p, "x", "a")
}

func TestExampleFour(t *testing.T) {
	p := made(t, 2, know("x", "y", 1, 5), know("x", "z", 2, 5))
	learns(t, p, "", "", 0)
	has(t, p, know("x", "z", 2, 5), know("", "", 0, 1))
	refused(t, 1, entries{know("", "a", 0, 1), know("", "b", 0, 1)}, api.ErrShape)
	refused(t, 2, entries{know("", "a", 0, 1), know("", "a", 0, 1)}, api.ErrShape)
	refused(t, 1, entries{know("", "a", -1, 1)}, api.ErrShape)
	refused(t, 1, entries{know("", "a", 0, -1)}, api.ErrShape)
	refused(t, 1, entries{know("", "a", 0, 1<<62+1)}, api.ErrShape)
	refused(t, -1, nil, api.ErrRange)
	refused(t, 4097, nil, api.ErrRange)
	p = made(t, 0)
	learns(t, p, "", "", 0)
	has(t, p)
	guessesNone(t, p, "", "")
}

// P25.1

func TestRoomsThatCantBeMeant(t *testing.T) {
	// Ahead of all else that is wrong.
	lists := []entries{nil, {}, {know("", "", 0, 1)}, {know("", "", -1, 1)}, {know("", "", 0, -1)}, {know("", "", 0, most+1)}, {know("", "", 0, 1), know("", "", 0, 1)}, entriesOf(5), entriesOf(4096), entriesOf(4097), entriesOf(5000)}
	for _, room := range noRooms {
		for _, l := range lists {
			refused(t, room, l, api.ErrRange)
		}
	}
}

func TestRooms(t *testing.T) {
	for _, room := range rooms {
		has(t, made(t, room))
		has(t, made(t, room, entries{}...))
		for _, n := range []int{0, 1, 2, room / 2, room - 1, room} {
			if n < 0 || n > room {
				continue
			}
			p, q := both(t, room, entriesOf(n))
			asPlain(t, p, q, keys(n+2))
			inHeap(t, p)
		}
	}
}

func TestMoreEntriesThanRoom(t *testing.T) {
	for _, room := range rooms {
		for _, more := range []int{1, 2, 100, 5000} {
			refused(t, room, entriesOf(room+more), api.ErrShape)
		}
		l := append(entriesOf(room), know("", "", 0, 0))
		refused(t, room, l, api.ErrShape)
		made(t, room, l[:room]...)
	}
	made(t, 4096, entriesOf(4096)...)
	refused(t, 4096, entriesOf(4097), api.ErrShape)
	refused(t, 4097, entriesOf(4097), api.ErrRange)
}

// There is room for both, and so nothing else is wrong.
func TestTwoOfOneKey(t *testing.T) {
	for _, n := range []int{2, 3, 7, 20} {
		for i := range n {
			for j := range i {
				for _, x := range []api.Learnt{know("", "", 0, 0), know("", "", 7, 1), know("", "", 0, most)} {
					l := entriesOf(n)
					x.Route, x.Name = l[j].Route, l[j].Name
					l[i] = x
					refused(t, n, l, api.ErrShape)
					refused(t, 4096, l, api.ErrShape)
				}
			}
		}
	}
	for _, k := range strange {
		x := know(k.route, k.name, 3, 4)
		refused(t, 4, entries{x, x}, api.ErrShape)
		refused(t, 4, entries{x, know("other", "other", 3, 4), x}, api.ErrShape)
		refused(t, 4, entries{know(k.route, k.name, 0, 0), x}, api.ErrShape)
	}
	l := entriesOf(4095)
	refused(t, 4096, append(l, l[0]), api.ErrShape)
	refused(t, 4096, append(l, l[4094]), api.ErrShape)
}

func TestKeysThatAreAlike(t *testing.T) {
	var l entries
	for i, k := range strange {
		l = append(l, know(k.route, k.name, i, 1))
		for j, other := range strange[:i] {
			p := made(t, 2, know(k.route, k.name, 7, 9), know(other.route, other.name, 8, 9))
			has(t, p, know(k.route, k.name, 7, 9), know(other.route, other.name, 8, 9))
			learns(t, p, other.route, other.name, 100+i+j)
			has(t, p, know(k.route, k.name, 7, 9), know(other.route, other.name, 100+i+j, 1))
			learns(t, p, k.route, k.name, 7)
			has(t, p, know(k.route, k.name, 7, 10), know(other.route, other.name, 100+i+j, 1))
		}
	}
	p, q := both(t, len(l), l)
	for _, k := range strange {
		asPlain(t, p, q, strange)
		for _, n := range []int{7, 7, 9} {
			learnBoth(t, p, q, lesson{k.route, k.name, n})
			asPlain(t, p, q, nil)
		}
	}
	// The same text, be it made of the same bytes or not.
	for _, k := range strange {
		guesses(t, p, strings.Clone(k.route), strings.Clone(k.name), 9)
		refused(t, 2, entries{know(k.route, k.name, 0, 1), know(strings.Clone(k.route), strings.Clone(k.name), 0, 1)}, api.ErrShape)
	}
}

func TestPlacesOfEntries(t *testing.T) {
	for at := range 5 {
		l := entriesOf(5)
		for _, n := range noPlaces {
			l[at].Place = n
			refused(t, 5, l, api.ErrShape)
			refused(t, 4096, l, api.ErrShape)
		}
		for _, n := range places {
			l[at].Place = n
			p, q := both(t, 5, l)
			asPlain(t, p, q, keys(6))
			guesses(t, p, l[at].Route, l[at].Name, n)
		}
	}
}

func TestHitsOfEntries(t *testing.T) {
	for at := range 5 {
		l := entriesOf(5)
		for _, n := range noHits {
			l[at].Hits = n
			refused(t, 5, l, api.ErrShape)
			refused(t, 4096, l, api.ErrShape)
		}
		for _, n := range hits {
			l[at].Hits = n
			p, q := both(t, 5, l)
			asPlain(t, p, q, keys(6))
			if got := p.All(); !slices.Contains(got, l[at]) {
				t.Fatal(n, got)
			}
		}
	}
	has(t, made(t, 1, know("", "", math.MaxInt, 1<<62)), know("", "", math.MaxInt, 1<<62))
	has(t, made(t, 1, know("", "", 0, 0)), know("", "", 0, 0))
}

// Several faults at one time.
func TestFaultsAtOneTime(t *testing.T) {
	bad := []api.Learnt{know("", "a", -1, 1), know("", "a", 0, -1), know("", "a", 0, most+1), know("", "a", -1, -1), know("", "a", math.MinInt, math.MaxInt)}
	for _, x := range bad {
		for _, y := range append(bad, know("", "b", 0, 1)) {
			for _, room := range []int{0, 1, 2, 3, 4096} {
				refused(t, room, entries{x}, api.ErrShape)
				refused(t, room, entries{x, y}, api.ErrShape)
				refused(t, room, entries{y, x}, api.ErrShape)
				refused(t, room, entries{know("", "c", 0, 0), y, x}, api.ErrShape)
			}
			for _, room := range []int{-1, 4097} {
				refused(t, room, entries{x, y}, api.ErrRange)
			}
		}
	}
}

// They came in the order in which they stand, whatever their Hits.
func TestTheOrderInWhichEntriesCame(t *testing.T) {
	l := entries{know("", "a", 0, 2), know("", "b", 1, 2), know("", "c", 2, 1), know("b", "", 3, 1), know("a", "", 4, 5)}
	for _, in := range orders(l) {
		p, q := both(t, len(in), in)
		asPlain(t, p, q, nil)
		for i := range 12 {
			learnBoth(t, p, q, lesson{"new", fmt.Sprint(i), i})
			asPlain(t, p, q, nil)
		}
	}
	// All the same Hits: the first one goes first.
	for _, n := range []int{0, 1, 2, 3, most} {
		in := entriesOf(50)
		for i := range in {
			in[i].Hits = n
		}
		p := made(t, 50, in...)
		has(t, p, in...)
		learns(t, p, "new", "", 0)
		if n > 0 {
			has(t, p, append(slices.Clone(in[1:]), know("new", "", 0, 1))...)
		} else {
			has(t, p, append(entries{know("new", "", 0, 1)}, in[1:]...)...)
		}
	}
}

// P25.2

func TestGuess(t *testing.T) {
	p := made(t, 3, know("/a", "b", 5, 0), know("", "c", 0, 9))
	guesses(t, p, "/a", "b", 5)
	guesses(t, p, "", "c", 0)
	for _, k := range []key{{"", ""}, {"/a", ""}, {"", "b"}, {"/a", "c"}, {"", "/ab"}, {"/ab", ""}, {"/", "ab"}, {"/A", "b"}, {"/a", "B"}, {"b", "/a"}, {"c", ""}, {"/a\x00", "b"}, {"/a", "b\x00"}, {"/a/", "b"}} {
		guessesNone(t, p, k.route, k.name)
	}
	learns(t, p, "", "", 12)
	guesses(t, p, "", "", 12)
	learns(t, p, "", "", 13)
	guesses(t, p, "", "", 13)
	// The one of no Hits goes, and comes again.
	learns(t, p, "/a", "", 4)
	guessesNone(t, p, "/a", "b")
	guesses(t, p, "/a", "", 4)
	learns(t, p, "/a", "b", 6)
	guesses(t, p, "/a", "b", 6)
	guessesNone(t, p, "", "")
}

func TestGuessOfPlaces(t *testing.T) {
	for _, n := range places {
		p := made(t, 2, know("r", "n", n, 1))
		guesses(t, p, "r", "n", n)
		learns(t, p, "", "", n)
		guesses(t, p, "", "", n)
		has(t, p, know("r", "n", n, 1), know("", "", n, 1))
	}
}

// Neither Guess nor All nor Size is a meeting.
func TestAskedItStays(t *testing.T) {
	var r rule = 25
	for range 200 {
		l := r.entries(6, strange)
		p, silent := made(t, 6, l...), made(t, 6, l...)
		for range 60 {
			x := r.lesson(strange)
			for range r.below(4) {
				k := one(&r, strange)
				p.Guess(k.route, k.name)
				p.Guess(x.route, x.name)
				p.Guess("nowhere", "none")
				p.All()
				p.Size()
			}
			if e, f := p.Learn(x.route, x.name, x.place), silent.Learn(x.route, x.name, x.place); e != f {
				t.Fatal(x, e, f)
			}
		}
		has(t, p, silent.All()...)
		inHeap(t, p)
	}
}

func TestSize(t *testing.T) {
	for _, room := range []int{0, 1, 2, 5, 100, 4096} {
		p := made(t, room)
		for i, k := range keys(room + 3) {
			if p.Size() != min(i, room) {
				t.Fatal(room, i, p.Size())
			}
			learns(t, p, k.route, k.name, i)
			learns(t, p, k.route, k.name, i+1)
			p.Learn("wrong", k.name, -1)
		}
		if p.Size() != room {
			t.Fatal(room, p.Size())
		}
	}
}

// P25.3

func TestLearnOfPlacesBelowNought(t *testing.T) {
	for _, room := range []int{0, 1, 2, 3, 4096} {
		l := entries{know("", "b", 1, 7), know("", "a", 0, 0), know("r", "a", 2, most)}[:min(room, 3)]
		p, q := both(t, room, l)
		for _, n := range noPlaces {
			for _, k := range []key{{"", "a"}, {"", "b"}, {"r", "a"}, {"", ""}, {"new", "one"}} {
				learnBoth(t, p, q, lesson{k.route, k.name, n})
				if e := p.Learn(k.route, k.name, n); e != api.ErrRange {
					t.Fatal(n, e)
				}
				asPlain(t, p, q, []key{{"", ""}, {"new", "one"}})
			}
		}
		// It goes on as if nobody had called: the ages too.
		for i := range 4 {
			learnBoth(t, p, q, lesson{"later", fmt.Sprint(i), i})
			asPlain(t, p, q, nil)
		}
	}
}

func TestLearnOfTheSamePlace(t *testing.T) {
	for _, n := range places {
		p := made(t, 2, know("r", "n", n, 0))
		for i := range 20 {
			learns(t, p, "r", "n", n)
			has(t, p, know("r", "n", n, i+1))
		}
	}
}

func TestHitsStayAtTheirMost(t *testing.T) {
	for _, n := range []int{0, 7} {
		p := made(t, 3, know("", "a", n, 1<<62-2), know("", "b", n, 1<<62-1), know("", "c", n, 1<<62))
		has(t, p, know("", "c", n, 1<<62), know("", "b", n, 1<<62-1), know("", "a", n, 1<<62-2))
		learns(t, p, "", "c", n)
		has(t, p, know("", "c", n, 1<<62), know("", "b", n, 1<<62-1), know("", "a", n, 1<<62-2))
		learns(t, p, "", "b", n)
		has(t, p, know("", "b", n, 1<<62), know("", "c", n, 1<<62), know("", "a", n, 1<<62-2))
		for range 5 {
			learns(t, p, "", "b", n)
			learns(t, p, "", "c", n)
		}
		has(t, p, know("", "b", n, 1<<62), know("", "c", n, 1<<62), know("", "a", n, 1<<62-2))
		often(t, p, 2, "", "a", n)
		has(t, p, know("", "a", n, 1<<62), know("", "b", n, 1<<62), know("", "c", n, 1<<62))
		often(t, p, 3, "", "a", n)
		has(t, p, know("", "a", n, 1<<62), know("", "b", n, 1<<62), know("", "c", n, 1<<62))
		learns(t, p, "", "d", n)
		has(t, p, know("", "b", n, 1<<62), know("", "c", n, 1<<62), know("", "d", n, 1))
		// Another place: from there on they count anew.
		learns(t, p, "", "b", n+1)
		has(t, p, know("", "c", n, 1<<62), know("", "b", n+1, 1), know("", "d", n, 1))
	}
}

func TestLearnOfAnotherPlace(t *testing.T) {
	for _, from := range places {
		for _, to := range places {
			for _, n := range hits {
				p := made(t, 1, know("r", "n", from, n))
				learns(t, p, "r", "n", to)
				switch {
				case from != to:
					has(t, p, know("r", "n", to, 1))
				case n < most:
					has(t, p, know("r", "n", to, n+1))
				default:
					has(t, p, know("r", "n", to, most))
				}
			}
		}
	}
	// There and back.
	p := made(t, 4)
	often(t, p, 5, "r", "n", 3)
	has(t, p, know("r", "n", 3, 5))
	learns(t, p, "r", "n", 4)
	has(t, p, know("r", "n", 4, 1))
	learns(t, p, "r", "n", 3)
	has(t, p, know("r", "n", 3, 1))
	learns(t, p, "r", "n", 3)
	has(t, p, know("r", "n", 3, 2))
}

func TestAnotherPlaceKeepsTheAge(t *testing.T) {
	for _, n := range []int{2, 3, 8, 33} {
		for at := range n {
			l := entriesOf(n)
			for i := range l {
				l[i].Hits = 1
			}
			p := made(t, n, l...)
			l[at].Place = 1000
			learns(t, p, l[at].Route, l[at].Name, 1000)
			has(t, p, l...)
			// They go in the order in which they came.
			for i := range n {
				learns(t, p, "new", fmt.Sprint(i), 0)
				if got := p.All(); !slices.Equal(got[:n-1-i], l[i+1:]) {
					t.Fatalf("%d of %d, %d new: %v", at, n, i+1, got)
				}
			}
		}
	}
}

func TestLearnWithRoomLeft(t *testing.T) {
	p := made(t, 4, know("", "a", 0, 0))
	learns(t, p, "", "b", 7)
	has(t, p, know("", "b", 7, 1), know("", "a", 0, 0))
	learns(t, p, "b", "", 8)
	has(t, p, know("", "b", 7, 1), know("b", "", 8, 1), know("", "a", 0, 0))
	learns(t, p, "", "", math.MaxInt)
	has(t, p, know("", "b", 7, 1), know("b", "", 8, 1), know("", "", math.MaxInt, 1), know("", "a", 0, 0))
}

func TestLearnWithoutRoom(t *testing.T) {
	p := made(t, 0)
	for i, k := range append(keys(50), strange...) {
		for range 3 {
			learns(t, p, k.route, k.name, i)
			has(t, p)
			guessesNone(t, p, k.route, k.name)
		}
		if e := p.Learn(k.route, k.name, -1); e != api.ErrRange {
			t.Fatal(e)
		}
	}
}

func TestRoomForOne(t *testing.T) {
	p := made(t, 1)
	for i, k := range append(keys(50), strange...) {
		learns(t, p, k.route, k.name, i)
		has(t, p, know(k.route, k.name, i, 1))
		often(t, p, i, k.route, k.name, i)
		has(t, p, know(k.route, k.name, i, i+1))
	}
}

func TestTheOneOfTheLeastHitsGoes(t *testing.T) {
	for _, n := range []int{1, 2, 3, 4, 7, 8, 20} {
		for least := range n {
			for _, few := range []int{0, 1, 4} {
				l := entriesOf(n)
				for i := range l {
					l[i].Hits = 5 + i%2
				}
				l[least].Hits = few
				p := made(t, n, l...)
				learns(t, p, "new", "one", 3)
				guessesNone(t, p, l[least].Route, l[least].Name)
				for i, x := range l {
					if i != least {
						guesses(t, p, x.Route, x.Name, x.Place)
					}
				}
				guesses(t, p, "new", "one", 3)
			}
		}
	}
}

// Of several of the least Hits: not the one that was learnt least lately, nor the one whose Hits fell last, nor the least key.
func TestOfSeveralTheOneThatCameFirstGoes(t *testing.T) {
	p := made(t, 3)
	for _, n := range []string{"c", "b", "a"} {
		often(t, p, 2, "", n, 0)
	}
	learns(t, p, "", "a", 0)
	learns(t, p, "", "b", 0)
	learns(t, p, "", "c", 0)
	has(t, p, know("", "c", 0, 3), know("", "b", 0, 3), know("", "a", 0, 3))
	learns(t, p, "", "d", 0)
	has(t, p, know("", "b", 0, 3), know("", "a", 0, 3), know("", "d", 0, 1))
	learns(t, p, "", "b", 1)
	has(t, p, know("", "a", 0, 3), know("", "b", 1, 1), know("", "d", 0, 1))
	learns(t, p, "", "e", 0)
	has(t, p, know("", "a", 0, 3), know("", "d", 0, 1), know("", "e", 0, 1))
	learns(t, p, "", "a", 2)
	learns(t, p, "", "f", 0)
	has(t, p, know("", "d", 0, 1), know("", "e", 0, 1), know("", "f", 0, 1))
	// One that comes again comes last.
	learns(t, p, "", "a", 2)
	has(t, p, know("", "e", 0, 1), know("", "f", 0, 1), know("", "a", 2, 1))
}

// The one that came last goes, if it has the least Hits; so each new one makes the last one go.
func TestTheOneThatCameLastMayGo(t *testing.T) {
	l := entries{know("", "a", 0, 2), know("", "b", 0, 3), know("", "c", 0, 2)}
	p := made(t, 4, l...)
	told := entries{l[1], l[0], l[2]}
	for i := range 30 {
		k := key{"new", fmt.Sprint(i)}
		learns(t, p, k.route, k.name, i)
		has(t, p, append(slices.Clone(told), know(k.route, k.name, i, 1))...)
	}
	often(t, p, 1, "new", "29", 29)
	has(t, p, append(told, know("new", "29", 29, 2))...)
	learns(t, p, "other", "", 0)
	has(t, p, l[1], l[2], know("new", "29", 29, 2), know("other", "", 0, 1))
}

func TestEntriesOfNoHits(t *testing.T) {
	p := made(t, 4, know("", "a", 0, 0), know("", "b", 0, 1), know("", "c", 0, 0), know("", "d", 0, 0))
	has(t, p, know("", "b", 0, 1), know("", "a", 0, 0), know("", "c", 0, 0), know("", "d", 0, 0))
	learns(t, p, "", "c", 0)
	has(t, p, know("", "b", 0, 1), know("", "c", 0, 1), know("", "a", 0, 0), know("", "d", 0, 0))
	learns(t, p, "", "e", 0)
	has(t, p, know("", "b", 0, 1), know("", "c", 0, 1), know("", "e", 0, 1), know("", "d", 0, 0))
	learns(t, p, "", "d", 9)
	has(t, p, know("", "b", 0, 1), know("", "c", 0, 1), know("", "d", 9, 1), know("", "e", 0, 1))
	learns(t, p, "", "f", 0)
	has(t, p, know("", "c", 0, 1), know("", "d", 9, 1), know("", "e", 0, 1), know("", "f", 0, 1))
}

// goOn: from a pattern as it stands behind some Learns, each further one, so many of them; all is made anew each time.
func goOn(t *testing.T, room int, l entries, done, each []lesson, q *plain, more int) {
	t.Helper()
	if more == 0 {
		p := made(t, room, l...)
		for _, x := range done {
			if e := p.Learn(x.route, x.name, x.place); e != api.OK {
				t.Fatal(x, e)
			}
		}
		if got := p.All(); !slices.Equal(got, q.all()) {
			t.Fatalf("room %d, %v, %v: %v, not %v", room, l, done, got, q.all())
		}
		inHeap(t, p)
		return
	}
	for _, x := range each {
		next := q.copied()
		next.learn(x.route, x.name, x.place)
		goOn(t, room, l, append(done, x), each, next, more-1)
	}
}

// Every row of a few Learns of a few keys, with each room.
func TestEveryRowOfLearns(t *testing.T) {
	small := []key{{"", "a"}, {"a", ""}, {"a", "a"}}
	for room := range 4 {
		for n := range 7 {
			goOn(t, room, nil, nil, lessons(small, 0, 1), &plain{room: room}, n)
		}
	}
	many := []key{{"", "a"}, {"a", ""}, {"a", "a"}, {"", ""}, {"b", "a"}}
	for room := range 5 {
		for n := range 7 {
			goOn(t, room, nil, nil, lessons(many, 7), &plain{room: room}, n)
		}
	}
}

// The same, from all small lists of entries on.
func TestEveryRowOfLearnsFromEntriesOn(t *testing.T) {
	small := []key{{"", "a"}, {"a", ""}, {"a", "a"}}
	var lists []entries
	for _, x := range []int{0, 1, 2, most - 1, most} {
		lists = append(lists, entries{know("", "a", 0, x)})
		for _, y := range []int{0, 1, 2, most} {
			lists = append(lists, entries{know("", "a", 0, x), know("a", "", 1, y)})
			for _, z := range []int{0, 1, most} {
				lists = append(lists, entries{know("", "a", 0, x), know("b", "b", 0, y), know("a", "a", 1, z)})
			}
		}
	}
	for _, l := range lists {
		for room := len(l); room < 5; room++ {
			for n := range 4 {
				goOn(t, room, l, nil, lessons(append(small, key{"new", ""}), 0, 1), &plain{room, slices.Clone(l)}, n)
			}
		}
	}
}

func TestManyLearns(t *testing.T) {
	var r rule = 251
	for i, room := range []int{0, 1, 2, 3, 4, 5, 7, 8, 15, 16, 17, 40, 100} {
		for _, l := range [][]key{keys(room + 1), keys(2*room + 3), strange} {
			p, q := both(t, room, r.entries(room, l))
			for range 3000 {
				learnBoth(t, p, q, r.lesson(l))
				if i < 6 || r.below(10) == 0 {
					asPlain(t, p, q, l)
					inHeap(t, p)
				}
			}
		}
	}
}

func TestMuchRoom(t *testing.T) {
	var r rule = 252
	for _, room := range []int{1000, 4095, 4096} {
		for _, n := range []int{room / 2, room, room + 1, 2 * room} {
			l := keys(n)
			p, q := both(t, room, r.entries(room, l))
			for i := range 20000 {
				learnBoth(t, p, q, r.lesson(l))
				if i%4000 == 0 {
					asPlain(t, p, q, l[:50])
					inHeap(t, p)
				}
			}
			asPlain(t, p, q, l[:50])
		}
	}
}

// As many Learns as a session that is asked for long makes, of keys that hardly ever come again.
func TestLearnsOfEverNewKeys(t *testing.T) {
	p := made(t, 4096)
	n := 400000
	for i := range n {
		learns(t, p, "r", fmt.Sprint(i), i)
	}
	inHeap(t, p)
	var want entries
	for i := n - 4096; i < n; i++ {
		want = append(want, know("r", fmt.Sprint(i), i, 1))
	}
	has(t, p, want...)
}

// The heap itself, of other things than entries.
func TestTheHeap(t *testing.T) {
	var r rule = 253
	type thing struct{ weight, at int }
	for n := range 60 {
		h := heap[*thing]{ahead: func(x, y *thing) bool { return x.weight < y.weight }, moved: func(x *thing, at int) { x.at = at }}
		var all []*thing
		for i := range n {
			x := &thing{r.below(1 + n), -1}
			all = append(all, x)
			h.push(x)
			for range 3 {
				y := all[r.below(i+1)]
				y.weight = r.below(1 + n)
				h.mend(y.at)
			}
			for at, y := range h.items {
				if y.at != at || y.weight < h.items[max(0, at-1)/2].weight {
					t.Fatal(n, i, at, y)
				}
			}
		}
		slices.SortFunc(all, func(x, y *thing) int { return x.weight - y.weight })
		for _, x := range all {
			if got := h.pop(); got.weight != x.weight || slices.Contains(h.items[:cap(h.items)], got) {
				t.Fatal(n, got.weight, x.weight)
			}
		}
		if len(h.items) > 0 {
			t.Fatal(n, len(h.items))
		}
	}
}

// P25.4

func TestAll(t *testing.T) {
	l := entries{know("z", "", 0, 1), know("", "z", 1, 3), know("a", "", 2, 3), know("", "a", 3, 0), know("b", "b", 4, 1), know("", "", 5, 1<<62), know("c", "c", 6, 3)}
	want := entries{l[5], l[1], l[2], l[6], l[0], l[4], l[3]}
	p := made(t, 7, l...)
	has(t, p, want...)
	has(t, made(t, 4096, l...), want...)
	// Up by one, and again, and down.
	learns(t, p, "b", "b", 4)
	has(t, p, l[5], l[1], l[2], l[6], know("b", "b", 4, 2), l[0], l[3])
	learns(t, p, "b", "b", 4)
	has(t, p, l[5], l[1], l[2], know("b", "b", 4, 3), l[6], l[0], l[3])
	learns(t, p, "b", "b", 4)
	has(t, p, l[5], know("b", "b", 4, 4), l[1], l[2], l[6], l[0], l[3])
	learns(t, p, "", "", 6)
	has(t, p, know("b", "b", 4, 4), l[1], l[2], l[6], l[0], know("", "", 6, 1), l[3])
	learns(t, p, "d", "d", 7)
	has(t, p, know("b", "b", 4, 4), l[1], l[2], l[6], l[0], know("", "", 6, 1), know("d", "d", 7, 1))
}

func TestAllOfNone(t *testing.T) {
	for _, room := range rooms {
		if got := made(t, room).All(); len(got) != 0 {
			t.Error(room, got)
		}
	}
}

// Whatever was learnt: by Hits, and by when they came, as somebody tells who has kept a diary.
func TestAllBehindManyLearns(t *testing.T) {
	var r rule = 254
	for _, room := range []int{1, 2, 5, 30, 200} {
		l := keys(room + room/3 + 1)
		p := made(t, room)
		came := map[key]int{}
		for i := range 4000 {
			x := r.lesson(l)
			k := key{x.route, x.name}
			if _, known := p.Guess(x.route, x.name); !known {
				came[k] = i
			}
			p.Learn(x.route, x.name, x.place)
			if i%20 > 0 {
				continue
			}
			all := p.All()
			for j := 1; j < len(all); j++ {
				a, b := all[j-1], all[j]
				if a.Hits < b.Hits || a.Hits == b.Hits && came[key{a.Route, a.Name}] >= came[key{b.Route, b.Name}] {
					t.Fatalf("room %d, behind %d: %v ahead of %v", room, i+1, a, b)
				}
			}
		}
	}
}

// P25.5

func TestNeverMoreThanRoomNorOneTwice(t *testing.T) {
	var r rule = 255
	for _, room := range []int{0, 1, 2, 5, 30, 200} {
		for _, l := range [][]key{keys(room + 1), keys(3*room + 2), strange} {
			p := made(t, room, r.entries(room, l)...)
			for range 2000 {
				x := r.lesson(l)
				if p.Learn(x.route, x.name, x.place) == api.OK && room > 0 {
					guesses(t, p, x.route, x.name, x.place)
				}
				all := p.All()
				met := map[key]int{}
				for _, y := range all {
					met[key{y.Route, y.Name}]++
				}
				if len(all) > room || p.Size() != len(all) || len(met) != len(all) {
					t.Fatal(room, p.Size(), all)
				}
				for _, k := range l {
					if n, known := p.Guess(k.route, k.name); known != (met[k] == 1) || !known && n != 0 {
						t.Fatal(k, n, known)
					}
				}
			}
		}
	}
}

// While no more than room keys have been met none goes, and the Hits of each are told by what was learnt of it.
func TestWhileThereIsRoom(t *testing.T) {
	var r rule = 256
	for _, room := range []int{1, 2, 3, 10, len(strange), 100} {
		for _, l := range [][]key{keys(room), strange[:min(room, len(strange))], keys(1 + room/2)} {
			p := made(t, room)
			told := map[key][]int{} // at which places each key was learnt
			for range 3000 {
				x := r.lesson(l)
				k := key{x.route, x.name}
				if p.Learn(x.route, x.name, x.place) == api.OK {
					told[k] = append(told[k], x.place)
				}
				if r.below(50) > 0 {
					continue
				}
				all := p.All()
				if len(all) != len(told) {
					t.Fatal(room, len(all), len(told))
				}
				for _, y := range all {
					list := told[key{y.Route, y.Name}]
					hits := 0
					for hits < len(list) && list[len(list)-1-hits] == list[len(list)-1] {
						hits++
					}
					if y.Place != list[len(list)-1] || y.Hits != hits {
						t.Fatal(room, y, list)
					}
				}
			}
		}
	}
}

// A pattern made anew of All has the same All and answers each Guess alike, with just as much room and with more.
func TestMadeAnewOfAll(t *testing.T) {
	var r rule = 257
	for _, room := range []int{0, 1, 2, 5, 30, 200, 4096} {
		for _, l := range [][]key{keys(room + 1), keys(3*room/2 + 2), strange} {
			p := made(t, room, r.entries(room, l)...)
			for range 20 {
				for range r.below(400) {
					x := r.lesson(l)
					p.Learn(x.route, x.name, x.place)
				}
				all := p.All()
				for _, more := range []int{room, p.Size(), 4096} {
					again := made(t, more, all...)
					has(t, again, all...)
					inHeap(t, again)
					for _, k := range l {
						n, ok := p.Guess(k.route, k.name)
						if m, known := again.Guess(k.route, k.name); n != m || ok != known {
							t.Fatal(k, n, ok, m, known)
						}
					}
				}
				if p.Size() > 0 {
					refused(t, p.Size()-1, all, api.ErrShape)
				}
			}
			has(t, p, p.All()...)
		}
	}
}

func TestTwoPatternsInTurns(t *testing.T) {
	var r rule = 258
	for range 30 {
		room, other := r.below(8), r.below(8)
		l := keys(1 + r.below(12))
		p, q := both(t, room, r.entries(room, l))
		p2, q2 := both(t, other, r.entries(other, l))
		for range 300 {
			learnBoth(t, p, q, r.lesson(l))
			asPlain(t, p2, q2, l)
			learnBoth(t, p2, q2, r.lesson(l))
			asPlain(t, p, q, l)
		}
	}
}

// Two of one list know nothing of one another.
func TestTwoPatternsOfOneList(t *testing.T) {
	l := entries{know("", "a", 0, 3), know("", "b", 0, 2)}
	p, p2 := made(t, 2, l...), made(t, 2, l...)
	learns(t, p, "", "c", 0)
	learns(t, p, "", "a", 7)
	has(t, p, know("", "a", 7, 1), know("", "c", 0, 1))
	has(t, p2, l...)
	learns(t, p2, "", "b", 0)
	has(t, p2, know("", "a", 0, 3), know("", "b", 0, 3))
	has(t, p, know("", "a", 7, 1), know("", "c", 0, 1))
}

// Memory

var scribble = know("scribbled", "over", -7, -7)

// roomy: the same list with room behind its end, and that is written over.
func roomy(l entries) entries {
	long := append(slices.Clone(l), scribble, scribble, scribble)
	return long[:len(l)]
}

func TestWhatComesInStays(t *testing.T) {
	var r rule = 259
	lists := []entries{nil, {}, {know("", "", -1, 0)}, {know("", "", 0, -1)}, {know("", "", 0, 0), know("", "", 0, 0)}, entriesOf(9)}
	for range 200 {
		lists = append(lists, r.entries(6, strange))
	}
	for _, l := range lists {
		for _, room := range []int{-1, 0, 1, 6, 4097} {
			given := roomy(l)
			before := slices.Clone(given[:cap(given)])
			p, e := New(room, given)
			if e == api.OK {
				for range 60 {
					x := r.lesson(strange)
					p.Learn(x.route, x.name, x.place)
					p.Guess(x.route, x.name)
				}
				all := p.All()
				for i := range all {
					all[i] = scribble
				}
			}
			if !slices.Equal(given[:cap(given)], before) {
				t.Fatalf("%s is changed", brief(l))
			}
		}
	}
}

// A list that came in may be written over afterwards.
func TestAPatternKeepsNoList(t *testing.T) {
	var r rule = 260
	for range 200 {
		l := r.entries(8, strange)
		given := roomy(l)
		p, q := both(t, 8, given)
		for i := range given[:cap(given)] {
			given[:cap(given)][i] = scribble
		}
		for range 30 {
			asPlain(t, p, q, strange)
			learnBoth(t, p, q, r.lesson(strange))
		}
	}
}

// What All answers is the caller's own, with the room behind it.
func TestAnswersShareNothing(t *testing.T) {
	var r rule = 261
	for range 200 {
		p, q := both(t, 8, r.entries(8, strange))
		for range 30 {
			one, two := p.All(), p.All()
			for i := range one[:cap(one)] {
				one[:cap(one)][i] = scribble
			}
			if !slices.Equal(two, q.all()) {
				t.Fatal("two answers share a list")
			}
			asPlain(t, p, q, strange)
			inHeap(t, p)
			x := r.lesson(strange)
			learnBoth(t, p, q, x)
			two = append(two, scribble)
			asPlain(t, p, q, strange)
		}
		all := p.All()
		want := slices.Clone(all)
		for range 30 {
			x := r.lesson(strange)
			p.Learn(x.route, x.name, x.place)
		}
		if !slices.Equal(all, want) {
			t.Fatal("an answer changes behind a Learn")
		}
	}
}

// loose: a text whose bytes may be written over.
func loose(s string) (string, []byte) {
	b := []byte(s)
	return unsafe.String(unsafe.SliceData(b), len(b)), b
}

// Whoever handed in a text may do with it what he likes.
func TestAPatternHoldsOnToNoText(t *testing.T) {
	route, b := loose("/route")
	name, c := loose("name")
	p := made(t, 3, know(route, name, 7, 2))
	learns(t, p, name, route, 8)
	learns(t, p, name, route, 8)
	copy(b, "xxxxxx")
	copy(c, "yyyy")
	has(t, p, know("/route", "name", 7, 2), know("name", "/route", 8, 2))
	guessesNone(t, p, "xxxxxx", "yyyy")
	learns(t, p, "xxxxxx", "yyyy", 9)
	learns(t, p, "/route", "name", 7)
	has(t, p, know("/route", "name", 7, 3), know("name", "/route", 8, 2), know("xxxxxx", "yyyy", 9, 1))
}

// lieApart: no two of the texts have a byte in common.
func lieApart(t *testing.T, texts []string) {
	t.Helper()
	for i, x := range texts {
		for _, y := range texts[:i] {
			from, at := uintptr(unsafe.Pointer(unsafe.StringData(y))), uintptr(unsafe.Pointer(unsafe.StringData(x)))
			if x != "" && y != "" && at < from+uintptr(len(y)) && from < at+uintptr(len(x)) {
				t.Fatalf("%q lies in %q", x, y)
			}
		}
	}
}

func TestTextsLieApart(t *testing.T) {
	whole := "/a/b/c/d/e/f/g"
	l := entries{know(whole[:2], whole[3:5], 0, 1), know(whole[5:8], whole[9:10], 1, 1), know(whole[10:], "", 2, 3)}
	p := made(t, 4, l...)
	last := strings.Clone("/last/")
	learns(t, p, last[:3], last[3:], 4)
	texts := []string{whole, last}
	for range 3 {
		for _, x := range p.All() {
			texts = append(texts, x.Route, x.Name)
		}
	}
	for _, e := range p.queue.items {
		texts = append(texts, e.key.route, e.key.name)
	}
	if len(texts) != 34 {
		t.Error(len(texts))
	}
	lieApart(t, texts)
}

// Sameness

// told: all that a pattern answers, made of one rule.
func told(seed int) string {
	var s strings.Builder
	r := rule(seed)
	room := r.below(40)
	l := keys(1 + r.below(60))
	p, e := New(room, r.entries(room, l))
	fmt.Fprint(&s, e)
	for range 500 {
		x, k := r.lesson(l), one(&r, l)
		n, ok := p.Guess(k.route, k.name)
		fmt.Fprint(&s, p.Learn(x.route, x.name, x.place), n, ok, p.Size(), ";")
		if r.below(50) == 0 {
			fmt.Fprintf(&s, "%#v", p.All())
		}
	}
	return s.String()
}

func TestTheSameAgainWhateverElseRuns(t *testing.T) {
	var want []string
	for i := range 60 {
		want = append(want, told(i))
	}
	var callers sync.WaitGroup
	for n := range 8 {
		callers.Go(func() {
			for i := range want {
				at := (i*(2*n+1) + n) % len(want)
				if told(at) != want[at] {
					t.Errorf("%d isn't answered the same again", at)
					return
				}
			}
		})
	}
	callers.Wait()
}

// The same question is answered the same again.
func TestAskedTwice(t *testing.T) {
	var r rule = 262
	p := made(t, 20, r.entries(20, strange)...)
	for range 300 {
		x := r.lesson(strange)
		p.Learn(x.route, x.name, x.place)
		if !slices.Equal(p.All(), p.All()) || p.Size() != p.Size() {
			t.Fatal("All or Size changes")
		}
		for _, k := range strange {
			n, ok := p.Guess(k.route, k.name)
			if m, known := p.Guess(k.route, k.name); m != n || known != ok {
				t.Fatal(k, n, ok, m, known)
			}
		}
	}
	for _, room := range noRooms {
		refused(t, room, nil, api.ErrRange)
		refused(t, room, nil, api.ErrRange)
	}
}

// The plain one itself, where the examples can tell.
func TestThePlainOne(t *testing.T) {
	p, _ := plainOf(2, nil)
	for _, x := range []lesson{{"/", "a", 3}, {"/", "a", 3}, {"/", "a", 4}, {"/", "b", 0}, {"/", "b", 0}, {"x", "a", 7}, {"x", "c", 1}} {
		p.learn(x.route, x.name, x.place)
	}
	if got := p.all(); !slices.Equal(got, entries{know("/", "b", 0, 2), know("x", "c", 1, 1)}) {
		t.Error(got)
	}
	p, _ = plainOf(2, entries{know("x", "y", 1, 5), know("x", "z", 2, 5)})
	p.learn("", "", 0)
	if got := p.all(); !slices.Equal(got, entries{know("x", "z", 2, 5), know("", "", 0, 1)}) {
		t.Error(got)
	}
}

func ExamplePattern() {
	p, err := New(2, nil)
	p.Learn("/pos", "x", 0)
	p.Learn("", "id", 3)
	p.Learn("", "id", 3)
	p.Learn("", "tags", 1)
	for _, x := range p.All() {
		fmt.Printf("%q %q %d %d\n", x.Route, x.Name, x.Place, x.Hits)
	}
	place, known := p.Guess("/pos", "x")
	fmt.Println(place, known, p.Size(), err)
	// Output:
	// "" "id" 3 2
	// "" "tags" 1 1
	// 0 false 2 0
}
