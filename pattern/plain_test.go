package pattern

import (
	"fmt"
	"math"
	"slices"
	"strings"

	"quarry/api"
)

// The chapter's words, said once more and in another way, and entries and Learns of all kinds to hold a pattern against them.

const most = 1 << 62

type entries = []api.Learnt

// know: an entry.
func know(route, name string, place, hits int) api.Learnt {
	return api.Learnt{Route: route, Name: name, Place: place, Hits: hits}
}

func ofKey(route, name string) func(api.Learnt) bool {
	return func(x api.Learnt) bool { return x.Route == route && x.Name == name }
}

// plain is a pattern as a list: the entries stand in the order in which they came.
type plain struct {
	room int
	list entries
}

// plainOf: what the chapter's words say of New.
func plainOf(room int, l entries) (*plain, api.Errno) {
	if room < 0 || room > 4096 {
		return nil, api.ErrRange
	}
	for i, x := range l {
		if i >= room || x.Place < 0 || x.Hits < 0 || x.Hits > most || slices.ContainsFunc(l[:i], ofKey(x.Route, x.Name)) {
			return nil, api.ErrShape
		}
	}
	return &plain{room, slices.Clone(l)}, api.OK
}

func (p *plain) guess(route, name string) (int, bool) {
	for _, x := range p.list {
		if x.Route == route && x.Name == name {
			return x.Place, true
		}
	}
	return 0, false
}

func (p *plain) learn(route, name string, place int) api.Errno {
	i := slices.IndexFunc(p.list, ofKey(route, name))
	switch {
	case place < 0:
		return api.ErrRange
	case i >= 0 && p.list[i].Place != place:
		p.list[i].Place, p.list[i].Hits = place, 1
	case i >= 0 && p.list[i].Hits < most:
		p.list[i].Hits++
	case i >= 0 || p.room == 0:
	default:
		if len(p.list) == p.room {
			p.drop()
		}
		p.list = append(p.list, know(route, name, place, 1))
	}
	return api.OK
}

// drop: the one with the least Hits goes, of several such ones the first.
func (p *plain) drop() {
	least := 0
	for i, x := range p.list {
		if x.Hits < p.list[least].Hits {
			least = i
		}
	}
	p.list = slices.Delete(p.list, least, least+1)
}

// all: those with more Hits ahead, else as they stand.
func (p *plain) all() entries {
	l := slices.Clone(p.list)
	slices.SortStableFunc(l, func(x, y api.Learnt) int {
		switch {
		case x.Hits > y.Hits:
			return -1
		case x.Hits < y.Hits:
			return 1
		}
		return 0
	})
	return l
}

// copied: one that goes on by itself.
func (p *plain) copied() *plain { return &plain{p.room, slices.Clone(p.list)} }

// lesson is a Learn.
type lesson struct {
	route, name string
	place       int
}

// lessons: a Learn of each of some places, for each of some keys.
func lessons(keys []key, places ...int) []lesson {
	var l []lesson
	for _, k := range keys {
		for _, n := range places {
			l = append(l, lesson{k.route, k.name, n})
		}
	}
	return l
}

// keys: so many ones; those of every hundred are of one route, and each name is one of several routes.
func keys(n int) []key {
	var l []key
	for i := range n {
		l = append(l, key{fmt.Sprint("/", i/100), fmt.Sprint(i % 100)})
	}
	return l
}

// strange are keys that are alike in one thing or another.
var strange = []key{
	{"", ""}, {"", "a"}, {"a", ""}, {"a", "a"}, {"a", "b"}, {"b", "a"}, {"", "ab"}, {"ab", ""}, {"aa", ""}, {"", "aa"}, {"a", "aa"}, {"aa", "a"},
	{"a/", "b"}, {"a", "/b"}, {"a/b", ""}, {"", "a/b"}, {"/a", "b"}, {"/", "a/b"}, {"/a/b", ""}, {"A", "a"}, {"a", "A"},
	{"a\x00", "b"}, {"a", "\x00b"}, {"a\x00b", ""}, {"", "a\x00b"}, {"\x00", ""}, {"", "\x00"}, {"\x00", "\x00"}, {"\x00\x00", ""},
	{"a ", "b"}, {"a", " b"}, {"a,", "b"}, {"a", ",b"}, {`a"`, "b"}, {"a", `"b`}, {"1", "11"}, {"11", "1"}, {"111", ""}, {"0", "0"}, {"00", ""},
	{"\xff", ""}, {"", "\xff"}, {"\xff", "\xff"}, {"\xff\xff", ""}, {"\xc3", "\xa4"}, {"\u00e4", ""}, {"", "\u00e4"}, {"a\u0308", ""}, {"\U0001f600", "\ufffd"}, {"\xf0", "\xff"},
	{strings.Repeat("a", 5000), "b"}, {strings.Repeat("a", 5000), "c"}, {strings.Repeat("a", 5001), "b"}, {strings.Repeat("a", 4999), "ab"}, {"b", strings.Repeat("a", 5000)}, {"b", strings.Repeat("a", 4999)},
}

// Rooms that can't be meant, and ones that can.
var (
	noRooms = []int{-1, -2, -4096, math.MinInt, math.MinInt + 1, 4097, 4098, 8192, 1 << 16, 1 << 32, 1<<32 + 1, most, math.MaxInt}
	rooms   = []int{0, 1, 2, 3, 63, 64, 65, 1023, 2048, 4095, 4096}
)

// Places, and Hits, that can't be meant, and ones that can.
var (
	noPlaces = []int{-1, -2, -4096, math.MinInt32, -1 << 32, -most, math.MinInt, math.MinInt + 1}
	places   = []int{0, 1, 2, 4096, 4097, math.MaxInt32, 1 << 32, most, most + 1, math.MaxInt}
	noHits   = []int{-1, -2, math.MinInt32, -1 << 32, -most, math.MinInt, math.MinInt + 1, most + 1, most + 2, math.MaxInt}
	hits     = []int{0, 1, 2, 7, math.MaxInt32, 1 << 32, most - 1, most}
)

// rule: ordinary numbers from a fixed rule.
type rule uint64

func (r *rule) below(n int) int {
	*r = *r*6364136223846793005 + 1442695040888963407
	return int((uint64(*r) ^ uint64(*r)>>29) % uint64(n))
}

// one of some things.
func one[T any](r *rule, l []T) T { return l[r.below(len(l))] }

// entries: at most so many, of some keys.
func (r *rule) entries(n int, l []key) entries {
	var list entries
	for _, i := range r.order(len(l)) {
		if len(list) < n && r.below(4) > 0 {
			list = append(list, know(l[i].route, l[i].name, one(r, places), one(r, hits)))
		}
	}
	return list
}

// order: the numbers below n in some order.
func (r *rule) order(n int) []int {
	l := make([]int, n)
	for i := range l {
		at := r.below(i + 1)
		l[i], l[at] = l[at], i
	}
	return l
}

// lesson: a Learn of some keys, of which the first ones come more often; now and then a wrong one.
func (r *rule) lesson(l []key) lesson {
	k := l[r.below(1+r.below(len(l)))]
	place := []int{0, 0, 0, 1, r.below(5)}[r.below(5)]
	if r.below(40) == 0 {
		place = one(r, noPlaces)
	}
	return lesson{k.route, k.name, place}
}

// orders: all orders of some entries.
func orders(l entries) []entries {
	if len(l) == 0 {
		return []entries{nil}
	}
	var list []entries
	for i, x := range l {
		for _, rest := range orders(slices.Delete(slices.Clone(l), i, i+1)) {
			list = append(list, append(entries{x}, rest...))
		}
	}
	return list
}
