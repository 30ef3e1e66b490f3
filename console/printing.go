package console

import (
	"slices"

	"forme/api"
	"forme/contract"
	"forme/curve"
	"forme/device"
	"forme/embed"
	"forme/impose"
	"forme/layout"
	"forme/program"
	"forme/refs"
)

func (s *state) contract(a words) (string, api.Errno) {
	parts, e := curve.Make(api.MinWidth, a.n[2:])
	c := api.Contract{Node: a.n[0], Most: a.n[1], Heights: parts}
	n := len(s.contracts)
	if e != api.OK || n == api.MaxPieces || n > 0 && s.contracts[n-1].Node >= c.Node || !contract.Valid(c) {
		return "", api.ErrArg
	}
	s.contracts = slices.Concat(s.contracts, []api.Contract{c})
	s.accounts = slices.Concat(s.accounts, []api.Account{{Node: c.Node}})
	return done, api.OK
}

func (s *state) offers(a words) (string, api.Errno) {
	l, e := layout.Offers(s.doc, a.reader(0), nil)
	if e != api.OK {
		return "", e
	}
	return several(l, heldText), api.OK
}

func (s *state) page(a words) (string, api.Errno) {
	l, _, e := embed.Page(s.doc, a.reader(0), s.contracts)
	return boxes(l, e)
}

func (s *state) answer(a words) (string, api.Errno) {
	id, r := a.n[0], a.reader(2)
	width, e := embed.Seen(s.doc, r, s.contracts, id)
	if e != api.OK {
		return "", e
	}
	i := slices.IndexFunc(s.contracts, func(c api.Contract) bool { return c.Node == id })
	if i < 0 {
		return "", api.ErrNone
	}
	x := api.Answer{Node: id, Width: width, Kind: api.AnswerHeight, H: a.n[1]}
	_, accounts, e := embed.Round(s.doc, r, s.contracts, s.accounts, []api.Answer{x})
	if e != api.OK {
		return "", e
	}
	s.accounts = accounts
	text := numbers(accounts[i].Charged, accounts[i].Changes)
	if accounts[i].Frozen {
		text += " frozen"
	}
	return text, api.OK
}

func (s *state) paper(a words) (string, api.Errno) {
	p := api.Paper{Width: a.n[0], Height: a.n[1], Columns: a.n[2], Gap: a.n[3], Scale: a.n[4], Lang: a.n[5]}
	l, e := refs.Print(s.doc, p)
	if e != api.OK {
		return "", e
	}
	s.pages, s.paged = l, true
	s.packets, s.device, s.sent = nil, api.Device{}, false
	return several(l, pageText), api.OK
}

func (s *state) booklet(words) (string, api.Errno) {
	if !s.paged {
		return "", api.ErrState
	}
	l, e := impose.Faces(len(s.pages))
	if e != api.OK {
		return "", e
	}
	return several(l, faceText), api.OK
}

func (s *state) send(a words) (string, api.Errno) {
	if !s.paged {
		return "", api.ErrState
	}
	ops, e := program.Compile(s.pages)
	if e != api.OK {
		return "", e
	}
	packets, root, e := program.Send(ops)
	if e != api.OK {
		return "", e
	}
	d, e := device.New(root, len(packets), a.n[0])
	if e != api.OK {
		return "", e
	}
	s.packets, s.device, s.sent = packets, d, true
	return numbers(len(packets)), api.OK
}

// step takes a step of the device.
func (s *state) step(x api.Step) (string, api.Errno) {
	if !s.sent {
		return "", api.ErrState
	}
	d, e := device.Step(s.device, x)
	if e != api.OK {
		return "", e
	}
	s.device = d
	return done, api.OK
}

func (s *state) feed(a words) (string, api.Errno) {
	if !s.sent {
		return "", api.ErrState
	}
	if a.n[0] < 0 || a.n[0] >= len(s.packets) {
		return "", api.ErrNone
	}
	return s.step(api.Step{Kind: api.StepGet, Packet: s.packets[a.n[0]]})
}

func (s *state) print(a words) (string, api.Errno) {
	return s.step(api.Step{Kind: api.StepPrint, At: a.n[0]})
}

func (s *state) down(words) (string, api.Errno) { return s.step(api.Step{Kind: api.StepDown}) }

func (s *state) up(words) (string, api.Errno) { return s.step(api.Step{Kind: api.StepUp}) }

func (s *state) wants(words) (string, api.Errno) {
	if !s.sent {
		return "", api.ErrState
	}
	n, waits, e := device.Wants(s.device)
	if !waits {
		return nothing, e
	}
	return numbers(n), e
}

func (s *state) printed(words) (string, api.Errno) {
	if !s.sent {
		return "", api.ErrState
	}
	return several(s.device.Paper, opText), api.OK
}
