package path

import (
	"strings"
	"unicode/utf8"

	"quarry/api"
)

// mostPlace: the greatest place that a step may have.
const mostPlace = 999_999_999_999_999_999

// step is what a step asks for, of a type of its own for each kind.
type step interface {
	// plain: the step as it is told outside, all that its kind doesn't look at being zero.
	plain() api.Step
}

type (
	byName  string
	byPlace int
	each    struct{}
)

func (x byName) plain() api.Step  { return api.Step{Kind: api.ByName, Name: string(x)} }
func (x byPlace) plain() api.Step { return api.Step{Kind: api.ByPlace, Place: int(x)} }
func (x each) plain() api.Step    { return api.Step{Kind: api.Each} }

// of: what a step asks for, whatever stands where its kind doesn't look; nil, if its kind is none.
func of(s api.Step) step {
	switch s.Kind {
	case api.ByName:
		return byName(s.Name)
	case api.ByPlace:
		return byPlace(s.Place)
	case api.Each:
		return each{}
	}
	return nil
}

// kept: what the steps of a path ask for, in memory of its own.
func kept(p []api.Step) []step {
	steps := make([]step, len(p))
	for i, s := range p {
		s.Name = strings.Clone(s.Name)
		steps[i] = of(s)
	}
	return steps
}

// formed: is it a step as a path may have it?
func formed(s api.Step) bool {
	switch x := of(s).(type) {
	case byName:
		return x.plain() == s && utf8.ValidString(string(x))
	case byPlace:
		return x.plain() == s && 0 <= x && x <= mostPlace
	case each:
		return x.plain() == s
	}
	return false
}

// takes: does a step take the member of a name, if it is asked of an object, or else the element at a place?
func takes(x step, name string, place int, object bool) bool {
	switch x := x.(type) {
	case byName:
		return object && string(x) == name
	case byPlace:
		return !object && int(x) == place
	case each:
		return true
	}
	return false
}
