package console

import (
	"slices"
	"strconv"

	"forme/api"
	"forme/cells"
	"forme/claim"
	"forme/contain"
	"forme/layout"
	"forme/printer"
	"forme/prove"
	"forme/repair"
	"forme/zone"
)

const (
	zoneNumbers = 5
	mostReaders = 64
	mostTurns   = 16
)

func (s *state) show(a words) (string, api.Errno) {
	return boxes(layout.Lay(s.doc, a.reader(0), nil))
}

func (s *state) style(a words) (string, api.Errno) {
	prop := a.n[1]
	if prop < 1 || prop > api.Props {
		return "", api.ErrArg
	}
	style, e := contain.Style(s.doc, a.n[0], a.reader(2))
	return numbers(style[prop]), e
}

func (s *state) setZones(a words) (string, api.Errno) {
	if len(a.n)%zoneNumbers != 0 {
		return "", api.ErrArg
	}
	var l []api.Zone
	for n := range slices.Chunk(a.n, zoneNumbers) {
		l = append(l, api.Zone{Lang: n[0], Scale: api.Range{Lo: n[1], Hi: n[2]}, Width: api.Range{Lo: n[3], Hi: n[4]}})
	}
	count, e := zone.Count(l)
	if e != api.OK {
		return "", e
	}
	if count > mostReaders {
		return "", api.ErrLimit
	}
	s.zones, s.cells, s.mapped = l, api.Map{}, false
	return numbers(count), api.OK
}

func (s *state) build(words) (string, api.Errno) {
	m, e := cells.Build(s.doc, s.zones)
	if e != api.OK {
		return "", e
	}
	s.cells, s.mapped = m, true
	return numbers(len(m.Cells)), api.OK
}

func (s *state) at(a words) (string, api.Errno) {
	if !s.mapped {
		return "", api.ErrState
	}
	return boxes(cells.At(s.cells, a.reader(0)))
}

// claimed returns the claim of a line that asks the map.
func (s *state) claimed(a words) (api.Claim, api.Errno) {
	if !s.mapped {
		return api.Claim{}, api.ErrState
	}
	return claim.Parse(a.rest)
}

func (s *state) prove(a words) (string, api.Errno) {
	c, e := s.claimed(a)
	if e != api.OK {
		return "", e
	}
	l, least, refuted, e := prove.Prove(s.cells, c)
	if e != api.OK {
		return "", e
	}
	if refuted {
		return "refuted " + numbers(least.Width, least.Scale, least.Lang), api.OK
	}
	return "proved " + numbers(len(l)), api.OK
}

func (s *state) readers(a words) (string, api.Errno) {
	c, e := s.claimed(a)
	if e != api.OK {
		return "", e
	}
	l, e := prove.Readers(s.cells, c)
	if e != api.OK {
		return "", e
	}
	return several(l, zoneText), api.OK
}

func (s *state) knob(a words) (string, api.Errno) {
	k := api.Knob{Rule: a.n[0], Decl: a.n[1]}
	for n := range slices.Chunk(a.n[2:], 2) {
		if len(n) < 2 {
			return "", api.ErrArg
		}
		k.Values, k.Costs = append(k.Values, n[0]), append(k.Costs, n[1])
	}
	l := slices.Concat(s.knobs, []api.Knob{k})
	if _, e := repair.Turn(s.doc, l, slices.Repeat([]int{-1}, len(l))); e != api.OK {
		return "", api.ErrArg
	}
	s.knobs = l
	return done, api.OK
}

func (s *state) repair(a words) (string, api.Errno) {
	c, e := claim.Parse(a.rest)
	if e != api.OK {
		return "", e
	}
	turns := 1
	for _, k := range s.knobs {
		if turns *= len(k.Values) + 1; turns > mostTurns {
			return "", api.ErrLimit
		}
	}
	at, cost, found, e := repair.Find(s.doc, s.zones, s.knobs, []api.Claim{c})
	if e != api.OK {
		return "", e
	}
	if !found {
		return nothing, api.OK
	}
	text := ""
	for _, n := range at {
		text += strconv.Itoa(n) + " "
	}
	return text + ": " + strconv.Itoa(cost), api.OK
}

func (s *state) rules(words) (string, api.Errno) {
	var texts []string
	for _, r := range s.doc.Rules {
		t, e := printer.Print([]api.Rule{r})
		if e != api.OK {
			return "", e
		}
		texts = append(texts, t[:len(t)-1])
	}
	return several(texts, func(t string) string { return t }), api.OK
}
