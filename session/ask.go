package session

import (
	"errors"

	"quarry/api"
	"quarry/pointer"
	"quarry/query"
)

// errMissed: where the member of a name stood when it was last met, it doesn't stand now; or it was never met.
var errMissed = errors.New("session: a guess that fails")

// follow: where steps lead in a document; false, if that is nowhere.
func (s *Session) follow(d *document, steps []step) (api.Span, bool) {
	at := trimmed(d.s, 0, len(d.s))
	for depth, next := range steps {
		p := d.part(at, depth+1)
		place, ok := s.place(p, next)
		if !ok {
			return api.Span{}, false
		}
		at = p.value(place)
	}
	return at, true
}

// place: at which place in a part of the document a step goes on; false, if it doesn't.
func (s *Session) place(p *part, next step) (int, bool) {
	switch p.kind {
	case '{':
		return s.member(p, next)
	case '[':
		n, ok := pointer.Place(next.name)
		return n, ok && n < p.elements()
	}
	return 0, false
}

// member: the same in an object. Where the member stands is learnt.
func (s *Session) member(p *part, next step) (int, bool) {
	place, err := s.guess(p, next)
	if errors.Is(err, errMissed) {
		first, ok := p.places()[next.name]
		if !ok {
			return 0, false
		}
		place = first
	}
	s.known.Learn(next.route, next.name, place)
	return place, true
}

// guess: the place at which the member stood when it was last met, if it stands there now; else errMissed.
func (s *Session) guess(p *part, next step) (int, error) {
	place, ok := s.known.Guess(next.route, next.name)
	if !ok || !p.holds(place, next.name) {
		return 0, errMissed
	}
	return place, nil
}

// tell: the hits of the pointers that go along a way, which leads to a span of a document.
func (s *Session) tell(hits []api.Hit, w *way, doc string, at api.Span) {
	for _, i := range w.ends {
		hits[i] = api.Hit{Found: true, Span: at}
	}
	if len(w.goOn) == 0 {
		return
	}
	// All ways that pointers go on from have the same number of steps, so that no two lead into one another: what is asked here for all of them together is no more than the document.
	inner, _, _ := query.Run(doc[at.From:at.To], s.depth, s.levels, w.behind)
	for k, hit := range inner {
		if hit.Found {
			hit.Span.From += at.From
			hit.Span.To += at.From
		}
		hits[w.goOn[k]] = hit
	}
}
