package trie

import (
	"math"
	"slices"
	"strconv"
	"strings"
	"sync"
	"testing"
	"unsafe"

	"quarry/api"
	"quarry/path"
)

// The calls' exact types.
var (
	_ func([][]api.Step) ([]api.Node, api.Errno)                  = Build
	_ func([]api.Node) bool                                       = Formed
	_ func([]api.Node) ([][]api.Step, api.Errno)                  = Paths
	_ func([]api.Node, int, string, int, bool) ([]int, api.Errno) = Go
)

// parsed: the paths of some texts.
func parsed(t *testing.T, texts ...string) []steps {
	t.Helper()
	var l []steps
	for _, s := range texts {
		p, e, _ := path.Parse(s)
		if e != api.OK {
			t.Fatalf("path.Parse(%q): %d", s, e)
		}
		l = append(l, p)
	}
	return l
}

func sameTrie(t *testing.T, l []steps, want []api.Node) {
	t.Helper()
	if got, e := Build(l); show(got) != show(want) || e != api.OK {
		t.Fatalf("Build(%s) = %s, %d, not %s", brief(l), brief(got), e, brief(want))
	}
}

// builds: Build says what the chapter's words do; its answer.
func builds(t *testing.T, l []steps) []api.Node {
	t.Helper()
	sameTrie(t, l, builtOf(l))
	got, _ := Build(l)
	return got
}

// refused: not built, and nothing is told beside that.
func refused(t *testing.T, l []steps, want api.Errno) {
	t.Helper()
	if got, e := Build(l); len(got) != 0 || e != want {
		t.Fatalf("Build(%s) = %s, %d, not %d", brief(l), brief(got), e, want)
	}
}

func samePaths(t *testing.T, nodes []api.Node, want []steps) {
	t.Helper()
	if got, e := Paths(nodes); showPaths(got) != showPaths(want) || e != api.OK {
		t.Fatalf("Paths(%s) = %s, %d, not %s", brief(nodes), brief(got), e, brief(want))
	}
}

// shaped: a trie, of which Paths and Go say what the chapter's words do.
func shaped(t *testing.T, nodes []api.Node) {
	t.Helper()
	if !Formed(nodes) {
		t.Fatalf("Formed(%s) = false", brief(nodes))
	}
	samePaths(t, nodes, pathsOf(nodes))
	for i := range min(len(nodes), 4) {
		goesAsPlain(t, nodes, i, "a", 7)
		goesAsPlain(t, nodes, len(nodes)-1-i, "a", 7)
	}
}

// misshapen: no trie, so that it has no paths, and leads from no node to another one.
func misshapen(t *testing.T, nodes []api.Node) {
	t.Helper()
	if Formed(nodes) {
		t.Fatalf("Formed(%s) = true", brief(nodes))
	}
	if got, e := Paths(nodes); len(got) != 0 || e != api.ErrShape {
		t.Fatalf("Paths(%s) = %s, %d", brief(nodes), brief(got), e)
	}
	for _, at := range []int{0, len(nodes) - 1, -1, len(nodes), math.MaxInt} {
		for _, object := range []bool{true, false} {
			goesNowhere(t, nodes, at, "a", 7, object, api.ErrShape)
		}
	}
}

// asPlain: Formed, Paths and Go say what the chapter's words do; whether it is a trie.
func asPlain(t *testing.T, nodes []api.Node) bool {
	t.Helper()
	if isTrie(nodes) {
		shaped(t, nodes)
		return true
	}
	misshapen(t, nodes)
	return false
}

func sameGo(t *testing.T, nodes []api.Node, at int, own string, n int, object bool, want ...int) {
	t.Helper()
	if got, e := Go(nodes, at, own, n, object); !slices.Equal(got, want) || e != api.OK {
		t.Fatalf("Go(%s, %d, %q, %d, %v) = %d, %d, not %d", brief(nodes), at, own, n, object, got, e, want)
	}
}

// goesAsPlain: Go says what the chapter's words do of a member and an element.
func goesAsPlain(t *testing.T, nodes []api.Node, at int, own string, n int) {
	t.Helper()
	for _, object := range []bool{true, false} {
		sameGo(t, nodes, at, own, n, object, goesTo(nodes[at], own, n, object)...)
	}
}

func goesNowhere(t *testing.T, nodes []api.Node, at int, own string, n int, object bool, want api.Errno) {
	t.Helper()
	if got, e := Go(nodes, at, own, n, object); len(got) != 0 || e != want {
		t.Fatalf("Go(%s, %d, %q, %d, %v) = %d, %d, not %d", brief(nodes), at, own, n, object, got, e, want)
	}
}

// P23.1

func TestBuildExamples(t *testing.T) {
	sameTrie(t, nil, []api.Node{{}})
	l := parsed(t, "$.a.b", "$.a", "$[0].b", "$.a.b")
	want := []api.Node{nodeOf(nil, a, 1, place(0), 3), nodeOf(ends(1), b, 2), nodeOf(ends(0, 3)), nodeOf(nil, b, 4), nodeOf(ends(2))}
	sameTrie(t, l, want)
	samePaths(t, want, l)
	l = parsed(t, "$", "$")
	sameTrie(t, l, []api.Node{nodeOf(ends(0, 1))})
	samePaths(t, []api.Node{nodeOf(ends(0, 1))}, l)
	samePaths(t, []api.Node{{}}, nil)
	refused(t, []steps{{{Kind: 7}}}, api.ErrShape)
	for i := range 257 {
		l := make([]steps, 257)
		l[i] = steps{{Kind: 7}}
		refused(t, l, api.ErrRange)
	}
}

func TestBuildOfNoPathsAndNoSteps(t *testing.T) {
	sameTrie(t, []steps{}, []api.Node{{}})
	for _, none := range []steps{nil, {}} {
		sameTrie(t, []steps{none}, []api.Node{nodeOf(ends(0))})
		sameTrie(t, []steps{none, none, none}, []api.Node{nodeOf(ends(0, 1, 2))})
		sameTrie(t, []steps{none, {a}}, []api.Node{nodeOf(ends(0), a, 1), nodeOf(ends(1))})
		sameTrie(t, []steps{{a}, none}, []api.Node{nodeOf(ends(1), a, 1), nodeOf(ends(0))})
		sameTrie(t, []steps{{a, b}, none, {all}, none}, []api.Node{nodeOf(ends(1, 3), a, 1, all, 3), nodeOf(nil, b, 2), nodeOf(ends(0)), nodeOf(ends(2))})
	}
}

func TestBuildOfTheSamePathTwice(t *testing.T) {
	for _, s := range good {
		sameTrie(t, []steps{{s}, {s}}, []api.Node{nodeOf(nil, s, 1), nodeOf(ends(0, 1))})
		sameTrie(t, []steps{{s, s}, {a}, {s, s}, {s, s}}, builtOf([]steps{{s, s}, {a}, {s, s}, {s, s}}))
		sameTrie(t, []steps{{s, b}, {c, s}, {s, b}}, builtOf([]steps{{s, b}, {c, s}, {s, b}}))
	}
	sameTrie(t, []steps{{a, b}, {c}, {a, b}, {c}, {a, b}}, []api.Node{nodeOf(nil, a, 1, c, 3), nodeOf(nil, b, 2), nodeOf(ends(0, 2, 4)), nodeOf(ends(1, 3))})
}

func TestBuildOfPathsThatPart(t *testing.T) {
	long := steps{a, place(0), all, b, name(""), place(greatest), all, a}
	for n := range len(long) + 1 {
		for _, other := range good {
			if n < len(long) && other == long[n] {
				continue
			}
			for _, rest := range []steps{nil, {a}, long[min(n+1, len(long)):], long} {
				q := slices.Concat(long[:n], steps{other}, rest)
				nodes := builds(t, []steps{long, q})
				if len(nodes) != 1+len(long)+len(q)-n {
					t.Fatalf("%s: %d nodes", brief(q), len(nodes))
				}
				builds(t, []steps{q, long})
				builds(t, []steps{q, long, q[:n], q, long[n:]})
			}
		}
	}
}

func TestBuildOfBeginnings(t *testing.T) {
	long := steps{a, place(0), all, b, name(""), a}
	for n := range len(long) {
		short := long[:n]
		ahead, behind := builds(t, []steps{short, long}), builds(t, []steps{long, short})
		if len(ahead) != 1+len(long) || len(behind) != len(ahead) || !slices.Equal(ahead[n].Ends, ends(0)) || !slices.Equal(behind[n].Ends, ends(1)) {
			t.Fatal(n, brief(ahead), brief(behind))
		}
		for m := range len(long) {
			builds(t, []steps{short, long[:m], long, short})
			builds(t, []steps{long[:m], long, short, long[n:]})
		}
	}
}

// Steps that take the same are others all the same: they are held against each other as they stand.
func TestBuildOfStepsThatTakeTheSame(t *testing.T) {
	sameTrie(t, []steps{{a, b}, {all, b}, {a, c}, {all}}, []api.Node{nodeOf(nil, a, 1, all, 3), nodeOf(nil, b, 2, c, 5), nodeOf(ends(0)), nodeOf(ends(3), b, 4), nodeOf(ends(1)), nodeOf(ends(2))})
	sameTrie(t, []steps{{all}, {place(0)}, {all, all}}, []api.Node{nodeOf(nil, all, 1, place(0), 2), nodeOf(ends(0), all, 3), nodeOf(ends(1)), nodeOf(ends(2))})
	for i, s := range good {
		for j, x := range good {
			want := []api.Node{nodeOf(nil, s, 1, x, 2), nodeOf(ends(0)), nodeOf(ends(1))}
			if i == j {
				want = []api.Node{nodeOf(nil, s, 1), nodeOf(ends(0, 1))}
			}
			sameTrie(t, []steps{{s}, {x}}, want)
		}
	}
	// All steps together, in either order.
	var l []steps
	for _, s := range good {
		l = append(l, steps{s}, steps{s, s})
	}
	builds(t, l)
	slices.Reverse(l)
	builds(t, l)
}

func TestBuildOfManyPaths(t *testing.T) {
	var apart, same, nested []steps
	for i := range 257 {
		apart = append(apart, steps{name("n" + strconv.Itoa(i))})
		same = append(same, steps{a, b})
		nested = append(nested, slices.Repeat(steps{all}, i%40))
	}
	for n := range 257 {
		if n > 3 && n < 250 && n%50 > 0 {
			continue
		}
		for _, l := range [][]steps{apart[:n], same[:n], nested[:n], make([]steps, n)} {
			nodes := builds(t, l)
			samePaths(t, nodes, l)
		}
	}
	nodes, _ := Build(apart[:256])
	if len(nodes) != 257 || len(nodes[0].To) != 256 || nodes[0].To[255] != 256 {
		t.Error(brief(nodes))
	}
	nodes, _ = Build(same[:256])
	if len(nodes) != 3 || len(nodes[2].Ends) != 256 {
		t.Error(brief(nodes))
	}
	refused(t, apart, api.ErrRange)
	refused(t, same, api.ErrRange)
	refused(t, nested, api.ErrRange)
	for _, n := range []int{257, 258, 512, 513, 65536, 65792, 1 << 20} {
		refused(t, make([]steps, n), api.ErrRange)
	}
}

func TestBuildOfWhatIsNotWellShaped(t *testing.T) {
	for _, s := range bad {
		for _, p := range []steps{{s}, {s, a}, {a, s}, {a, s, b}, append(slices.Clone(good), s), append(steps{s}, good...)} {
			for n := range 5 {
				for i := range n + 1 {
					l := slices.Insert(paths(1, a, b, all)[:n:n], i, p)
					refused(t, l, api.ErrShape)
				}
			}
			// Among as many as there may be, and one more: then that is told.
			for _, i := range []int{0, 1, 100, 254, 255} {
				l := make([]steps, 256)
				l[i] = p
				refused(t, l, api.ErrShape)
				refused(t, append(l, nil), api.ErrRange)
				refused(t, append(l, p), api.ErrRange)
			}
			refused(t, append(make([]steps, 256), p), api.ErrRange)
		}
	}
	for _, s := range good {
		builds(t, []steps{{s}, {a, s}, {s, a}, append(slices.Clone(good), s)})
	}
}

func TestBuildInOrder(t *testing.T) {
	l := parsed(t, "$.c.a", "$.b", "$.c", "$[7].x", "$.a", "$.c.b", "$.*", "$.b.a", "$[0]", "$.c.a.a", "$", "$[7]", "$.b.a")
	sameTrie(t, l, []api.Node{
		nodeOf(ends(10), c, 1, b, 3, place(7), 4, a, 6, all, 8, place(0), 10),
		nodeOf(ends(2), a, 2, b, 7), nodeOf(ends(0), a, 11), nodeOf(ends(1), a, 9), nodeOf(ends(11), name("x"), 5), nodeOf(ends(3)), nodeOf(ends(4)), nodeOf(ends(5)), nodeOf(ends(6)), nodeOf(ends(7, 12)), nodeOf(ends(8)), nodeOf(ends(9)),
	})
	for _, l := range rows(3, paths(2, a, place(0), all)) {
		builds(t, l)
	}
	for _, l := range rows(4, paths(2, a, all)) {
		builds(t, l)
	}
	for _, l := range rows(2, paths(3, a, b, place(1))) {
		builds(t, l)
	}
	var r rule = 231
	nodes := 0
	for range 1500 {
		nodes += len(builds(t, r.list()))
	}
	if nodes < 20000 {
		t.Errorf("%d: the rule tells too little", nodes)
	}
}

func TestBuildOfLongPaths(t *testing.T) {
	const n = 200000
	long := make(steps, n)
	for i := range long {
		long[i] = []api.Step{name(strconv.Itoa(i)), place(i), all}[i%3]
	}
	l := []steps{long, long[:n/2], append(slices.Clone(long[:n/2]), a), long[1:], long}
	nodes, e := Build(l)
	if e != api.OK || len(nodes) != 1+n+1+n-1 || !Formed(nodes) {
		t.Fatal(len(nodes), e)
	}
	for i := range n {
		want := nodeOf(nil, long[i], i+1)
		switch i {
		case 0:
			want = nodeOf(nil, long[0], 1, long[1], n+2)
		case n / 2:
			want = nodeOf(ends(1), long[i], i+1, a, n+1)
		}
		if show(nodes[i:i+1]) != show([]api.Node{want}) {
			t.Fatal(i, brief(nodes[i]))
		}
	}
	samePaths(t, nodes, l)
	// Names that differ at their ends alone.
	var wide []steps
	for i := range 256 {
		wide = append(wide, steps{name(strings.Repeat("long", 5000) + strconv.Itoa(i))})
	}
	nodes, e = Build(wide)
	if e != api.OK || len(nodes) != 257 || !Formed(nodes) {
		t.Fatal(len(nodes), e)
	}
	samePaths(t, nodes, wide)
	for i := range 256 {
		sameGo(t, nodes, 0, wide[i][0].Name, 0, true, i+1)
	}
}

// P23.2

func TestFormedExamples(t *testing.T) {
	misshapen(t, nil)
	misshapen(t, []api.Node{})
	misshapen(t, []api.Node{nodeOf(ends(1))})
	misshapen(t, []api.Node{{}, {}})
	misshapen(t, []api.Node{nodeOf(nil, a, 0)})
	misshapen(t, []api.Node{{}, nodeOf(nil, a, 1)})
	misshapen(t, []api.Node{nodeOf(nil, b, 1), nodeOf(nil, a, 1)})
	misshapen(t, []api.Node{nodeOf(nil, a, 1, a, 2), {}, {}})
	shaped(t, []api.Node{nodeOf(nil, a, 1), {}})
	samePaths(t, []api.Node{nodeOf(nil, a, 1), {}}, nil)
}

func TestFormedOfAsManyToAsSteps(t *testing.T) {
	few := []api.Step{a, b, c, all}
	for n := range 5 {
		for m := range 6 {
			for last := range 2 {
				// The node with so many of each is the first one, or the one behind it.
				nodes := make([]api.Node, last+1+m)
				if last > 0 {
					nodes[0] = nodeOf(ends(0), a, 1)
				}
				n1 := &nodes[last]
				n1.Steps = few[:min(n, 4)]
				for i := range m {
					n1.To = append(n1.To, last+1+i)
				}
				if got := asPlain(t, nodes); got != (n == m) {
					t.Fatal(n, m, got)
				}
			}
		}
	}
	misshapen(t, []api.Node{{Steps: steps{a}}})
	misshapen(t, []api.Node{{Steps: steps{a}}, {}})
	misshapen(t, []api.Node{{To: []int{1}}, {}})
	misshapen(t, []api.Node{{Steps: steps{a}, To: []int{1, 2}}, {}, {}})
	misshapen(t, []api.Node{{Steps: steps{a, b}, To: []int{1}}, {}})
	misshapen(t, []api.Node{{Steps: steps{a, b}, To: []int{1}}, {}, {}})
	// As many of all nodes together aren't enough.
	misshapen(t, []api.Node{{Steps: steps{a, b}, To: []int{1}}, {To: []int{2}}, {}})
	misshapen(t, []api.Node{{Steps: steps{a}, To: []int{1, 2}}, {Steps: steps{a}}, {}})
}

func TestFormedOfSteps(t *testing.T) {
	for _, s := range good {
		shaped(t, []api.Node{nodeOf(nil, s, 1), {}})
		shaped(t, []api.Node{nodeOf(ends(0), s, 1), nodeOf(ends(1), s, 2), nodeOf(ends(2))})
	}
	for _, s := range bad {
		misshapen(t, []api.Node{nodeOf(nil, s, 1), {}})
		misshapen(t, []api.Node{nodeOf(nil, a, 1), nodeOf(nil, s, 2), {}})
		for i := range 4 {
			n := nodeOf(ends(0), a, 1, b, 2, place(7), 3, all, 4)
			n.Steps[i] = s
			misshapen(t, []api.Node{n, {}, {}, {}, {}})
			misshapen(t, []api.Node{{Steps: n.Steps, To: []int{4, 3, 2, 1}}, {}, {}, {}, {}})
		}
	}
}

func TestFormedOfStepsThatAreTheSame(t *testing.T) {
	for i, s := range good {
		for j, x := range good {
			if got := asPlain(t, []api.Node{nodeOf(nil, s, 1, x, 2), {}, {}}); got != (i != j) {
				t.Fatal(brief(s), brief(x), got)
			}
			asPlain(t, []api.Node{nodeOf(nil, s, 1, b, 3, x, 2), {}, {}, {}})
			asPlain(t, []api.Node{nodeOf(nil, a, 1), nodeOf(nil, s, 2, x, 3), {}, {}})
			// Of two nodes they may be.
			shaped(t, []api.Node{nodeOf(nil, s, 1), nodeOf(nil, x, 2), {}})
		}
	}
	for _, row := range paths(4, a, b, all, place(0), name("0"), api.Step{Kind: 4}) {
		n := api.Node{Steps: row}
		for i := range row {
			n.To = append(n.To, i+1)
		}
		asPlain(t, append([]api.Node{n}, make([]api.Node, len(row))...))
	}
	// A wide node, in which the two lie anywhere.
	n := api.Node{}
	for i := range 3000 {
		n.Steps = append(n.Steps, []api.Step{name("n" + strconv.Itoa(i)), place(i)}[i%2])
		n.To = append(n.To, i+1)
	}
	nodes := append([]api.Node{n}, make([]api.Node, 3000)...)
	shaped(t, nodes)
	for _, i := range []int{0, 1, 8, 9, 1500, 2998, 2999} {
		for _, j := range []int{0, 1, 7, 8, 255, 256, 2999} {
			if i == j {
				continue
			}
			was := n.Steps[j]
			n.Steps[j] = n.Steps[i]
			misshapen(t, nodes)
			n.Steps[j] = was
		}
	}
	shaped(t, nodes)
}

func TestFormedOfTo(t *testing.T) {
	for _, to := range []int{math.MinInt, -1 << 32, -2, -1, 0, 3, 4, 1 << 31, 1 << 32, 1<<32 + 1, math.MaxInt} {
		misshapen(t, []api.Node{nodeOf(nil, a, to), {}, {}})
		misshapen(t, []api.Node{nodeOf(nil, a, to, b, 1), {}, {}})
		misshapen(t, []api.Node{nodeOf(nil, b, 1, a, to), {}, {}})
		misshapen(t, []api.Node{nodeOf(nil, b, 1, a, 2), nodeOf(nil, a, to), {}})
		misshapen(t, []api.Node{nodeOf(nil, a, 1), nodeOf(nil, a, to), {}})
		misshapen(t, []api.Node{nodeOf(nil, a, 1, b, 2, c, to), {}, {}})
	}
	misshapen(t, []api.Node{nodeOf(nil, a, 1), nodeOf(nil, a, 1)})                    // itself
	misshapen(t, []api.Node{nodeOf(nil, a, 1), nodeOf(nil, a, 2), nodeOf(nil, a, 2)}) // itself, and another one to it
	misshapen(t, []api.Node{{}, nodeOf(nil, a, 2), nodeOf(nil, a, 1)})                // a ring beside the node 0
	misshapen(t, []api.Node{nodeOf(nil, a, 2), nodeOf(nil, a, 3), nodeOf(nil, a, 1), {}})
	misshapen(t, []api.Node{nodeOf(nil, a, 1, b, 1), {}})                    // in two To of one node
	misshapen(t, []api.Node{nodeOf(nil, a, 1, b, 2), nodeOf(nil, a, 2), {}}) // of two nodes
	misshapen(t, []api.Node{nodeOf(nil, a, 1, b, 1), {}, {}})                // as many To as there are nodes to come to
	misshapen(t, []api.Node{{}, {}})
	misshapen(t, []api.Node{nodeOf(nil, a, 1), {}, {}}) // in no To: the last one, a middle one, the first behind the node 0
	misshapen(t, []api.Node{nodeOf(nil, a, 1, b, 3), {}, {}, {}})
	misshapen(t, []api.Node{nodeOf(nil, a, 2), {}, {}})
	misshapen(t, []api.Node{{}, nodeOf(nil, a, 2), {}})
	// To need not rise, and need not lead to the next nodes.
	shaped(t, []api.Node{nodeOf(nil, a, 3, b, 1, c, 2), {}, {}, {}})
	shaped(t, []api.Node{nodeOf(ends(2), a, 3, b, 1), nodeOf(nil, all, 2, a, 4), {}, nodeOf(ends(1)), nodeOf(ends(0))})
}

// All ways in which up to four nodes lead to one another by up to two steps each.
func TestFormedOfAllLinks(t *testing.T) {
	is, not := 0, 0
	check := func(nodes int, most int, numbers ...int) {
		var lists [][]int
		for n := range most + 1 {
			lists = append(lists, listsOf(n, numbers)...)
		}
		for _, row := range listsOf(nodes, lists) {
			list := make([]api.Node, nodes)
			for i, to := range row {
				list[i] = api.Node{Steps: steps{a, b, all}[:len(to)], To: to}
			}
			if asPlain(t, list) {
				is++
			} else {
				not++
			}
		}
	}
	check(1, 2, -1, 0, 1, 2)
	check(2, 2, -1, 0, 1, 2, 3)
	check(3, 2, -1, 0, 1, 2, 3)
	check(3, 3, 1, 2)
	check(4, 2, 1, 2, 3)
	// Of three and four nodes: each leads to those behind it in just so many ways.
	if is != 1+1+3+3+9 || not < 10000 {
		t.Error(is, not)
	}
}

func TestFormedOfEnds(t *testing.T) {
	shaped(t, []api.Node{nodeOf(ends(0, 1, 2, 3))})
	shaped(t, []api.Node{nodeOf(ends(1, 3), a, 1), nodeOf(ends(0, 2))})
	for _, l := range [][]int{{1, 0}, {0, 2, 1}, {1, 2, 0}, {2, 1, 0}, {0, 0}, {0, 1, 1}, {0, 0, 1}, {1}, {0, 2}, {1, 2}, {0, 1, 3}, {-1}, {-1, 0}, {0, -1}, {0, 1, -1}, {-2, -1, 0}, {256}, {255}, {0, 256}, {math.MaxInt}, {math.MinInt}, {0, math.MaxInt}, {1 << 32}, {1 << 8}} {
		misshapen(t, []api.Node{nodeOf(l)})
		misshapen(t, []api.Node{nodeOf(l, a, 1), {}})
		misshapen(t, []api.Node{nodeOf(nil, a, 1), nodeOf(l)})
	}
	// Twice in two nodes; rising in each, with one left out of all.
	misshapen(t, []api.Node{nodeOf(ends(0), a, 1), nodeOf(ends(0))})
	misshapen(t, []api.Node{nodeOf(ends(0, 1), a, 1), nodeOf(ends(1, 2))})
	misshapen(t, []api.Node{nodeOf(ends(0, 1), a, 1), nodeOf(ends(1))})
	misshapen(t, []api.Node{nodeOf(ends(0), a, 1), nodeOf(ends(2))})
	misshapen(t, []api.Node{nodeOf(ends(3), a, 1), nodeOf(ends(0, 1))})
	misshapen(t, []api.Node{nodeOf(ends(2), a, 1), nodeOf(ends(1, 0))})
	// From node to node they may fall.
	shaped(t, []api.Node{nodeOf(ends(2), a, 1), nodeOf(ends(1), a, 2), nodeOf(ends(0))})
}

// All Ends of up to three numbers in one node or two, and of up to two in three of them.
func TestFormedOfAllEnds(t *testing.T) {
	is, not := 0, 0
	check := func(nodes int, most int, numbers ...int) {
		var lists [][]int
		for n := range most + 1 {
			lists = append(lists, listsOf(n, numbers)...)
		}
		for _, row := range listsOf(nodes, lists) {
			list := make([]api.Node, nodes)
			for i, l := range row {
				list[i] = nodeOf(l)
				if i < nodes-1 {
					list[i] = nodeOf(l, []api.Step{a, all}[i%2], i+1)
				}
			}
			if asPlain(t, list) {
				is++
			} else {
				not++
			}
		}
	}
	check(1, 4, -1, 0, 1, 2, 3, 4)
	check(2, 3, -1, 0, 1, 2, 3)
	check(3, 2, 0, 1, 2, 3)
	if is < 100 || not < 10000 {
		t.Error(is, not)
	}
}

func TestFormedOfManyEnds(t *testing.T) {
	var numbers []int
	for k := range 300 {
		numbers = append(numbers, k)
	}
	for _, n := range []int{0, 1, 2, 63, 64, 65, 127, 128, 129, 254, 255, 256, 257, 258, 300} {
		each := []api.Node{{}}
		for k := range n {
			each[0].Steps, each[0].To = append(each[0].Steps, place(k)), append(each[0].To, k+1)
			each = append(each, nodeOf(ends(n-1-k)))
		}
		for _, nodes := range [][]api.Node{
			each,
			{nodeOf(numbers[:n])},
			{nodeOf(numbers[n/2:n], a, 1), nodeOf(numbers[:n/2])},
			{nodeOf(numbers[:n/3], a, 1), nodeOf(numbers[n/3:n/2], all, 2), nodeOf(numbers[n/2 : n])},
		} {
			if got := asPlain(t, nodes); got != (n <= 256) {
				t.Fatal(n, got)
			}
		}
		if n > 1 {
			misshapen(t, []api.Node{nodeOf(numbers[1:n])})
			misshapen(t, []api.Node{nodeOf(slices.Concat(numbers[:n/2], numbers[n/2+1:n], ends(n)))})
		}
	}
	misshapen(t, []api.Node{nodeOf(numbers[:256], a, 1), nodeOf(ends(256))})
	misshapen(t, []api.Node{nodeOf(ends(256), a, 1), nodeOf(numbers[:256])})
	misshapen(t, []api.Node{nodeOf(numbers[:256], a, 1), nodeOf(ends(255))})
	misshapen(t, []api.Node{nodeOf(make([]int, 100000))})
}

func TestFormedOfTries(t *testing.T) {
	is, not := 0, 0
	for _, nodes := range tries() {
		shaped(t, nodes)
		if len(nodes) > 25 {
			continue
		}
		for _, other := range spoilt(nodes) {
			if asPlain(t, other) {
				is++
			} else {
				not++
			}
		}
	}
	if is < 1000 || not < 10000 {
		t.Error(is, not)
	}
}

func TestFormedOfManyNodes(t *testing.T) {
	const n = 300000
	chain, star := make([]api.Node, n), make([]api.Node, n)
	for i := range n - 1 {
		chain[i] = nodeOf(nil, all, i+1)
		star[0].Steps, star[0].To = append(star[0].Steps, place(i)), append(star[0].To, n-1-i)
	}
	chain[n-1].Ends, star[n-1].Ends = ends(0), ends(0)
	samePaths(t, chain, []steps{slices.Repeat(steps{all}, n-1)})
	samePaths(t, star, []steps{{place(0)}})
	sameGo(t, chain, n-2, "", 0, true, n-1)
	sameGo(t, chain, n-1, "", 0, true)
	sameGo(t, star, 0, "", n-2, false, 1)
	sameGo(t, star, 0, "", n-1, false)
	chain[n-2].To[0] = 0
	misshapen(t, chain)
	star[0].Steps[n-2] = place(0)
	misshapen(t, star)
}

func TestPathsByTheirNumbers(t *testing.T) {
	samePaths(t, []api.Node{nodeOf(ends(1), b, 2, all, 1), nodeOf(ends(0, 3)), nodeOf(ends(2))}, []steps{{all}, nil, {b}, {all}})
	samePaths(t, []api.Node{nodeOf(nil, a, 1, b, 3), nodeOf(nil, a, 2), nodeOf(ends(1)), nodeOf(nil, place(7), 4), nodeOf(ends(0, 2))}, []steps{{b, place(7)}, {a, a}, {b, place(7)}})
	samePaths(t, []api.Node{nodeOf(ends(0, 1, 2))}, []steps{nil, nil, nil})
	for _, s := range good {
		samePaths(t, []api.Node{nodeOf(nil, s, 1), nodeOf(ends(1), s, 2), nodeOf(ends(0))}, []steps{{s, s}, {s}})
	}
	count := 0
	for _, nodes := range tries() {
		want := pathsOf(nodes)
		samePaths(t, nodes, want)
		count += len(want)
	}
	if count < 1000 {
		t.Error(count)
	}
}

// P23.3

func TestGoExamples(t *testing.T) {
	nodes, e := Build(parsed(t, "$.a.x", "$.*.y", "$[*].z"))
	if e != api.OK || len(nodes) != 6 || show(nodes[:1]) != show([]api.Node{nodeOf(nil, a, 1, all, 3)}) {
		t.Fatal(brief(nodes), e)
	}
	sameGo(t, nodes, 3, "z", 0, true, 5)
	sameGo(t, nodes, 0, "a", 0, true, 1, 3)
	sameGo(t, nodes, 0, "b", 0, true, 3)
	sameGo(t, nodes, 0, "", 7, false, 3)
	sameGo(t, nodes, 1, "a", 0, true)
	for _, object := range []bool{true, false} {
		goesNowhere(t, nodes, 6, "a", 0, object, api.ErrRange)
	}
}

func TestGoByEachKind(t *testing.T) {
	nodes := []api.Node{nodeOf(nil, a, 1, place(7), 2, all, 3, name("7"), 4, place(0), 5, name(""), 6, name("\u00e4"), 7), nodeOf(nil, a, 8), nodeOf(nil, place(7), 9), nodeOf(nil, all, 10), {}, {}, {}, {}, {}, {}, nodeOf(ends(0))}
	for _, x := range []struct {
		at     int
		own    string
		n      int
		object bool
		want   []int
	}{
		{0, "a", 0, true, ends(1, 3)}, {0, "a", 7, true, ends(1, 3)}, {0, "7", 7, true, ends(3, 4)}, {0, "", 7, true, ends(3, 6)}, {0, "\u00e4", 0, true, ends(3, 7)}, {0, "A", 7, true, ends(3)}, {0, "aa", 0, true, ends(3)}, {0, "a\u0308", 0, true, ends(3)}, {0, "\xff", 0, true, ends(3)}, {0, "0", -1, true, ends(3)}, {0, "*", 0, true, ends(3)},
		{0, "a", 7, false, ends(2, 3)}, {0, "7", 0, false, ends(3, 5)}, {0, "", 1, false, ends(3)}, {0, "a", 8, false, ends(3)}, {0, "a", -7, false, ends(3)}, {0, "", math.MaxInt, false, ends(3)}, {0, "", math.MinInt, false, ends(3)}, {0, "", 7 + 1<<32, false, ends(3)},
		{1, "a", 0, true, ends(8)}, {1, "b", 0, true, nil}, {1, "a", 0, false, nil}, {2, "", 7, false, ends(9)}, {2, "", 7, true, nil}, {2, "7", 8, false, nil}, {3, "", 0, true, ends(10)}, {3, "", 0, false, ends(10)}, {3, "\xff", -1, true, ends(10)},
	} {
		sameGo(t, nodes, x.at, x.own, x.n, x.object, x.want...)
	}
	// Nodes without steps.
	for at := 4; at <= 10; at++ {
		for _, own := range []string{"a", "7", ""} {
			sameGo(t, nodes, at, own, 7, true)
			sameGo(t, nodes, at, own, 7, false)
		}
	}
	sameGo(t, []api.Node{{}}, 0, "", 0, true)
	sameGo(t, []api.Node{nodeOf(ends(0))}, 0, "", 0, false)
}

// Steps stand in any order, and lead in any: what is told rises.
func TestGoRises(t *testing.T) {
	for _, order := range listsOf(3, []int{1, 2, 3}) {
		for _, row := range listsOf(3, []api.Step{a, place(7), all}) {
			nodes := []api.Node{{Steps: row, To: order, Ends: ends(0)}, {}, {}, {}}
			if asPlain(t, nodes) && len(goesTo(nodes[0], "a", 7, true)) != 2 {
				t.Fatal(brief(nodes))
			}
			behind := append([]api.Node{nodeOf(nil, b, 1)}, kept(nodes)...)
			for i := range behind[1].To {
				behind[1].To[i]++
			}
			asPlain(t, behind)
		}
	}
	sameGo(t, []api.Node{nodeOf(nil, all, 2, a, 1), {}, {}}, 0, "a", 0, true, 1, 2)
	sameGo(t, []api.Node{nodeOf(nil, a, 2, all, 1), {}, {}}, 0, "a", 0, true, 1, 2)
	sameGo(t, []api.Node{nodeOf(nil, place(7), 3, all, 1, a, 2), {}, {}, {}}, 0, "a", 7, false, 1, 3)
}

func TestGoFromNoNode(t *testing.T) {
	for _, nodes := range tries()[:40] {
		for _, at := range []int{math.MinInt, -1 << 32, -len(nodes), -2, -1, len(nodes), len(nodes) + 1, 1 << 32, math.MaxInt} {
			for _, object := range []bool{true, false} {
				goesNowhere(t, nodes, at, "a", 7, object, api.ErrRange)
				goesNowhere(t, append(kept(nodes), api.Node{}), at, "a", 7, object, api.ErrShape)
				goesNowhere(t, nil, at, "a", 7, object, api.ErrShape)
			}
		}
	}
}

func TestGoInTries(t *testing.T) {
	led := 0
	for _, nodes := range tries() {
		for i, n := range nodes {
			if i > 60 {
				break
			}
			for j, s := range append(steps{a, place(0), place(7), all}, n.Steps...) {
				goesAsPlain(t, nodes, i, s.Name, s.Place)
				if j > 3 {
					led += len(goesTo(n, s.Name, s.Place, true))
				}
			}
		}
	}
	if led < 1000 {
		t.Error(led)
	}
}

// P23.4

func TestWhatIsBuiltIsATrieOfThePaths(t *testing.T) {
	back := func(l []steps) {
		t.Helper()
		nodes, e := Build(l)
		if e != api.OK || !Formed(nodes) || !isTrie(nodes) {
			t.Fatalf("Build(%s) = %s, %d", brief(l), brief(nodes), e)
		}
		samePaths(t, nodes, l)
		count := 1
		for _, p := range l {
			count += len(p)
		}
		if len(nodes) > count {
			t.Fatalf("%s: %d nodes", brief(l), len(nodes))
		}
		// Of its paths the same trie is built.
		again, _ := Paths(nodes)
		sameTrie(t, again, nodes)
	}
	for _, l := range rows(3, paths(2, a, place(0), all)) {
		back(l)
	}
	var r rule = 234
	for range 1000 {
		back(r.list())
	}
	// Paths of any trie are built to one that has the same, and no more nodes.
	for _, nodes := range tries() {
		l, _ := Paths(nodes)
		back(l)
		if built, _ := Build(l); len(built) > len(nodes) {
			t.Fatal(brief(nodes), brief(built))
		}
	}
}

func TestHowManyNodesThereAre(t *testing.T) {
	// No two paths begin alike: one node more than there are steps.
	for n := range 100 {
		var l []steps
		count := 1
		for i := range n {
			l = append(l, append(steps{name("n" + strconv.Itoa(i))}, slices.Repeat(steps{all}, i%7)...))
			count += 1 + i%7
		}
		if nodes, _ := Build(l); len(nodes) != count {
			t.Fatal(n, len(nodes), count)
		}
	}
	for _, l := range rows(3, paths(2, a, b, all)) {
		nodes, _ := Build(l)
		if want := len(beginnings(l)); len(nodes) != want {
			t.Fatal(brief(l), len(nodes), want)
		}
	}
}

func TestHowManyNodesTwoPathsHaveInCommon(t *testing.T) {
	met := [6]int{}
	check := func(l []steps) {
		t.Helper()
		nodes, _ := Build(l)
		ways := make([][]int, len(l))
		for k, p := range l {
			if ways[k] = nodesOn(nodes, k); len(ways[k]) != 1+len(p) {
				t.Fatalf("%s: the path %d has the nodes %d", brief(l), k, ways[k])
			}
		}
		for i := range l {
			for j := range i {
				both := 0
				for _, n := range ways[i] {
					if slices.Contains(ways[j], n) {
						both++
					}
				}
				want := 1 + common(l[i], l[j])
				if both != want || !slices.Equal(ways[i][:want], ways[j][:want]) {
					t.Fatalf("%s: the paths %d and %d have the nodes %d and %d", brief(l), i, j, ways[i], ways[j])
				}
				met[min(want, 5)]++
			}
		}
	}
	for _, l := range rows(2, paths(3, a, place(0), all)) {
		check(l)
	}
	var r rule = 235
	for range 300 {
		check(r.list())
	}
	if slices.Min(met[1:]) < 100 {
		t.Errorf("%d: the rule tells too little", met)
	}
}

func TestTheOrderOfPathsChangesNotHowManyNodesThereAre(t *testing.T) {
	check := func(l, other []steps) {
		t.Helper()
		one, _ := Build(l)
		two, e := Build(other)
		if len(one) != len(two) || e != api.OK {
			t.Fatalf("%s: %d and %d nodes", brief(l), len(one), len(two))
		}
	}
	for _, texts := range [][]string{
		{"$.a.b", "$.a", "$[0].b", "$.a.b"}, {"$", "$.a", "$.a.a", "$.a.a.a", "$.b"}, {"$.*.x", "$.a.x", "$[*].y", "$.a.y", "$.b.x"}, {"$[0][1][2]", "$[0][1]", "$[0]", "$[1]", "$[0][2]"},
	} {
		l := parsed(t, texts...)
		for _, o := range orders(l) {
			check(l, o)
			builds(t, o)
		}
	}
	var r rule = 236
	for range 500 {
		l := r.list()
		other := slices.Clone(l)
		slices.Reverse(other)
		check(l, other)
		for i := range other {
			j := r.below(i + 1)
			other[i], other[j] = other[j], other[i]
		}
		check(l, other)
	}
}

// Memory

// roomyPaths: the same paths in lists with room behind them, in which something stands.
func roomyPaths(l []steps) []steps {
	wide := append(slices.Clone(l), steps{name("room")}, steps{{Kind: 7}})
	for i, p := range l {
		wide[i] = append(slices.Clone(p), name("room"), api.Step{Kind: 7})[:len(p)]
	}
	return wide[:len(l)]
}

// pathsWithRoom: a text of them, and of what stands behind their lists.
func pathsWithRoom(l []steps) string {
	s := showPaths(l[:len(l)+2])
	for _, p := range l {
		s += showPath(p[:len(p)+2])
	}
	return s
}

// roomy: the same nodes in lists with room behind them, in which something stands.
func roomy(t []api.Node) []api.Node {
	wide := append(slices.Clone(t), nodeOf(ends(-3), name("room"), -5), api.Node{})
	for i, n := range t {
		wide[i] = api.Node{
			Steps: append(slices.Clone(n.Steps), name("room"), api.Step{Kind: 7})[:len(n.Steps)],
			To:    append(slices.Clone(n.To), -7, -8)[:len(n.To)],
			Ends:  append(slices.Clone(n.Ends), -9, -10)[:len(n.Ends)],
		}
	}
	return wide[:len(t)]
}

func withRoom(t []api.Node) string {
	wide := slices.Clone(t[:len(t)+2])
	for i, n := range t {
		wide[i] = api.Node{Steps: n.Steps[:len(n.Steps)+2], To: n.To[:len(n.To)+2], Ends: n.Ends[:len(n.Ends)+2]}
	}
	return show(wide)
}

// Writing over all of a list from a place on, and the room behind it.

func scribbleSteps(p steps, from int) {
	for p = p[from:cap(p)]; len(p) > 0; p = p[1:] {
		p[0] = api.Step{Kind: -5, Name: "scribbled", Place: -5}
	}
}

func scribbleNumbers(l []int, from int) {
	for l = l[from:cap(l)]; len(l) > 0; l = l[1:] {
		l[0] = -77
	}
}

func scribblePaths(l []steps) {
	for _, p := range l {
		scribbleSteps(p, 0)
	}
	for l = l[:cap(l)]; len(l) > 0; l = l[1:] {
		l[0] = steps{name("scribbled")}
	}
}

func scribble(t []api.Node) {
	for _, n := range t {
		scribbleSteps(n.Steps, 0)
		scribbleNumbers(n.To, 0)
		scribbleNumbers(n.Ends, 0)
	}
	for t = t[:cap(t)]; len(t) > 0; t = t[1:] {
		t[0] = nodeOf(ends(-7), name("scribbled"), -7)
	}
}

func TestWhatComesInStays(t *testing.T) {
	var r rule = 237
	lists := [][]steps{nil, {nil}, {{a}, {bad[0]}}, {{a}, {a}}, make([]steps, 257)}
	for range 100 {
		lists = append(lists, r.list())
	}
	for _, l := range lists {
		given := roomyPaths(l)
		before := pathsWithRoom(given)
		nodes, _ := Build(given)
		scribble(nodes)
		if pathsWithRoom(given) != before {
			t.Fatalf("Build(%s) changes what came in", brief(l))
		}
	}
	for _, nodes := range append(tries(), spoilt(tries()[5])...) {
		given := roomy(nodes)
		before := withRoom(given)
		Formed(given)
		l, _ := Paths(given)
		scribblePaths(l)
		for at := range min(len(given), 20) {
			for _, object := range []bool{true, false} {
				to, _ := Go(given, at, "a", 7, object)
				scribbleNumbers(to, 0)
			}
		}
		if withRoom(given) != before {
			t.Fatalf("%s is changed", brief(nodes))
		}
	}
}

func TestAnswersShareNothing(t *testing.T) {
	var r rule = 238
	for range 200 {
		l := r.list()
		given := roomyPaths(l)
		one, _ := Build(given)
		two, _ := Build(given)
		scribblePaths(given)
		want := show(builtOf(l))
		// What stands in the room behind one list stands in no other one.
		for _, n := range one {
			scribbleSteps(n.Steps, len(n.Steps))
			scribbleNumbers(n.To, len(n.To))
			scribbleNumbers(n.Ends, len(n.Ends))
		}
		if show(one) != want {
			t.Fatalf("Build(%s): a list has something in common with another one", brief(l))
		}
		scribble(one)
		if show(two) != want {
			t.Fatalf("Build(%s): two answers share a list", brief(l))
		}
	}
	for _, nodes := range tries() {
		given := roomy(nodes)
		one, _ := Paths(given)
		two, _ := Paths(given)
		to, _ := Go(given, 0, "a", 7, true)
		again, _ := Go(given, 0, "a", 7, true)
		want, going := showPaths(pathsOf(nodes)), goesTo(nodes[0], "a", 7, true)
		scribble(given)
		for _, p := range one {
			scribbleSteps(p, len(p))
		}
		scribbleNumbers(to, len(to))
		if showPaths(one) != want || !slices.Equal(to, going) {
			t.Fatalf("%s: a list has something in common with another one", brief(nodes))
		}
		scribblePaths(one)
		scribbleNumbers(to, 0)
		if showPaths(two) != want || !slices.Equal(again, going) {
			t.Fatalf("%s: two answers share a list", brief(nodes))
		}
	}
	// Paths of the same number of nodes, and of the same one, lie apart; so do lists that were one when they came in.
	same := steps{a, b}
	nodes, _ := Build([]steps{same, same, same})
	l, _ := Paths(nodes)
	scribbleSteps(l[0], 0)
	if showPaths(l[1:]) != showPaths([]steps{same, same}) {
		t.Error(brief(l))
	}
	p := steps{a}
	shared := []api.Node{{Steps: p, To: []int{1}}, {Steps: p, To: []int{2}}, nodeOf(ends(0, 1))}
	l, _ = Paths(shared)
	samePaths(t, shared, l)
	scribblePaths(l)
	if p[0] != a {
		t.Error(brief(shared))
	}
}

// lieApart: no two of the texts have a byte in common.
func lieApart(t *testing.T, texts []string) {
	t.Helper()
	for i, x := range texts {
		for _, y := range texts[:i] {
			from, at := uintptr(unsafe.Pointer(unsafe.StringData(y))), uintptr(unsafe.Pointer(unsafe.StringData(x)))
			if x != "" && y != "" && at < from+uintptr(len(y)) && from < at+uintptr(len(x)) {
				t.Fatalf("%q lies in %q", x, y)
			}
		}
	}
}

func TestAnswersHoldOnToNoText(t *testing.T) {
	l := parsed(t, "$.name.other", "$.name", `$["c d"].name`, "$.name.other.third", "$.name")
	var given, built, told []string
	for _, p := range l {
		for _, s := range p {
			given = append(given, s.Name)
		}
	}
	nodes, _ := Build(l)
	for _, n := range nodes {
		for _, s := range n.Steps {
			built = append(built, s.Name)
		}
	}
	lieApart(t, slices.Concat(given, built))
	ways, _ := Paths(nodes)
	for _, p := range ways {
		for _, s := range p {
			told = append(told, s.Name)
		}
	}
	if len(built) != 5 || len(told) != len(given) {
		t.Fatal(built, told)
	}
	lieApart(t, slices.Concat(built, told))
}

// Sameness

// asked: all that the calls answer.
func asked(l []steps, nodes []api.Node) string {
	built, e := Build(l)
	ways, f := Paths(nodes)
	to, g := Go(nodes, len(l)%3, "a", 7, len(l)%2 == 0)
	return show(built) + showPaths(ways) + show([]api.Node{{To: to, Ends: ends(int(e), int(f), int(g))}}) + strconv.FormatBool(Formed(nodes))
}

func TestTheSameAgainWhateverElseRuns(t *testing.T) {
	var r rule = 239
	var lists [][]steps
	var sets [][]api.Node
	var want []string
	for i, nodes := range tries() {
		l := r.list()
		if i%9 == 0 {
			l = append(l, steps{bad[i%len(bad)]})
		}
		if all := spoilt(nodes); i%3 == 0 && len(nodes) < 40 {
			nodes = all[r.below(len(all))]
		}
		lists, sets, want = append(lists, l), append(sets, nodes), append(want, asked(l, nodes))
	}
	var callers sync.WaitGroup
	for n := range 8 {
		callers.Go(func() {
			for i := range want {
				at := (i*(2*n+1) + n) % len(want)
				if got := asked(lists[at], sets[at]); got != want[at] {
					t.Errorf("%s, %s: %s, not %s", brief(lists[at]), brief(sets[at]), brief(got), brief(want[at]))
					return
				}
			}
		})
	}
	callers.Wait()
}
