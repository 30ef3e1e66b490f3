package console

import (
	"forme/api"
	"forme/edit"
	"forme/journal"
	"forme/sheet"
	"forme/update"
	"forme/versions"
)

// editor is who makes all edits.
const editor = 1

// make makes an edit, with a clock of its own, for the document, the journal and the map.
func (s *state) make(e api.Edit) api.Errno {
	e.Clock, e.Editor = s.edits+1, editor
	before := s.doc
	after, no := edit.Apply(before, e)
	if no != api.OK {
		return no
	}
	b, no := journal.Append(s.journal, e)
	if no != api.OK {
		return no
	}
	if s.mapped {
		if s.cells, _, no = update.Update(before, s.cells, e); no != api.OK {
			return no
		}
	}
	s.doc, s.journal, s.edits = after, b, s.edits+1
	s.last = lastEdit{e, before, true}
	return api.OK
}

// edited makes an edit for a command.
func (s *state) edited(e api.Edit) (string, api.Errno) {
	if no := s.make(e); no != api.OK {
		return "", no
	}
	return done, api.OK
}

func (s *state) insert(a words) (string, api.Errno) {
	n := api.Node{ID: a.n[0], Parent: a.n[1], Kind: a.n[2], Class: a.n[3], Text: a.rest}
	return s.edited(api.Edit{Kind: api.EditInsert, Node: n, Before: a.n[4]})
}

func (s *state) remove(a words) (string, api.Errno) {
	return s.edited(api.Edit{Kind: api.EditRemove, ID: a.n[0]})
}

func (s *state) move(a words) (string, api.Errno) {
	return s.edited(api.Edit{Kind: api.EditMove, ID: a.n[0], Parent: a.n[1], Before: a.n[2]})
}

func (s *state) text(a words) (string, api.Errno) {
	return s.edited(api.Edit{Kind: api.EditText, ID: a.n[0], Text: a.rest})
}

func (s *state) class(a words) (string, api.Errno) {
	return s.edited(api.Edit{Kind: api.EditClass, ID: a.n[0], N: a.n[1]})
}

func (s *state) rule(a words) (string, api.Errno) {
	l, no, _ := sheet.Parse(a.rest)
	if no != api.OK {
		return "", no
	}
	if len(l) != 1 {
		return "", api.ErrArg
	}
	return s.edited(api.Edit{Kind: api.EditRule, At: a.n[0], Rule: l[0]})
}

func (s *state) drop(a words) (string, api.Errno) {
	return s.edited(api.Edit{Kind: api.EditDrop, At: a.n[0]})
}

func (s *state) advance(a words) (string, api.Errno) {
	if a.n[1] < 0 || a.n[1] > 255 {
		return "", api.ErrArg
	}
	return s.edited(api.Edit{Kind: api.EditAdvance, At: a.n[0], Byte: byte(a.n[1]), N: a.n[2]})
}

func (s *state) undo(words) (string, api.Errno) {
	if !s.last.there {
		return "", api.ErrState
	}
	l, no := edit.Undo(s.last.before, s.last.edit)
	if no != api.OK {
		return "", no
	}
	for _, e := range l {
		if no := s.make(e); no != api.OK {
			return "", no
		}
	}
	s.last = lastEdit{}
	return numbers(len(l)), api.OK
}

func (s *state) journaled(words) (string, api.Errno) {
	return numbers(s.edits, len(s.journal)), api.OK
}

// cut goes back to what the first bytes of the journal tell.
func (s *state) cut(a words) (string, api.Errno) {
	if a.n[0] < 0 || a.n[0] > len(s.journal) {
		return "", api.ErrArg
	}
	b := s.journal[:a.n[0]]
	d, n, no := journal.Recover(firstDoc(), b)
	if no != api.OK {
		return "", no
	}
	l, _, no := journal.Load(b)
	if no != api.OK {
		return "", no
	}
	s.doc, s.journal, s.edits = d, b[:n:n], len(l)
	s.cells, s.mapped, s.last = api.Map{}, false, lastEdit{}
	return numbers(len(l)), api.OK
}

func (s *state) push(words) (string, api.Errno) {
	l, no := versions.Push(s.versions, s.doc)
	s.versions = l
	return done, no
}

func (s *state) hold(words) (string, api.Errno) {
	l, n, no := versions.Hold(s.versions)
	s.versions = l
	return numbers(n), no
}

func (s *state) let(a words) (string, api.Errno) {
	l, no := versions.Let(s.versions, a.n[0])
	s.versions = l
	return done, no
}

func (s *state) listVersions(words) (string, api.Errno) {
	return several(s.versions, versionText), api.OK
}
