package console

import (
	"slices"
	"strconv"
	"strings"

	"forme/api"
)

const (
	firstAdvance = 10
	firstByte    = 32
	lastByte     = 125

	done    = "ok"
	nothing = "none"
)

// state is all that commands work on. What it has is replaced, and never changed, so that a copy of it can be given up.
type state struct {
	doc       api.Doc
	journal   []byte
	edits     int
	last      lastEdit
	zones     []api.Zone
	cells     api.Map
	mapped    bool
	knobs     []api.Knob
	versions  []api.Version
	contracts []api.Contract
	accounts  []api.Account
	pages     []api.Page
	paged     bool
	packets   []api.Packet
	device    api.Device
	sent      bool
}

// lastEdit is the edit that can be undone, with the document before it.
type lastEdit struct {
	edit   api.Edit
	before api.Doc
	there  bool
}

func begin() state { return state{doc: firstDoc()} }

func firstDoc() api.Doc {
	var f api.Font
	for b := firstByte; b <= lastByte; b++ {
		f.Glyphs = append(f.Glyphs, api.Glyph{Byte: byte(b), Advance: firstAdvance})
	}
	return api.Doc{
		Nodes:  []api.Node{{ID: 1, Kind: api.KindBlock}},
		Fonts:  []api.Font{f},
		Breaks: slices.Repeat([]api.Breaks{{Before: 1, Behind: 1}}, api.Langs),
	}
}

// several returns the texts of some things.
func several[T any](l []T, text func(x T) string) string {
	if len(l) == 0 {
		return nothing
	}
	var texts []string
	for _, x := range l {
		texts = append(texts, text(x))
	}
	return strings.Join(texts, "; ")
}

// numbers returns numbers with blanks between them.
func numbers(l ...int) string {
	var texts []string
	for _, n := range l {
		texts = append(texts, strconv.Itoa(n))
	}
	return strings.Join(texts, " ")
}

func boxText(b api.Box) string {
	s := numbers(b.Node, b.X, b.Y, b.W, b.H)
	if b.Cut {
		s += " cut"
	}
	for _, x := range b.Lines {
		s += " [" + x.Text + " " + numbers(x.X, x.Y) + "]"
	}
	return s
}

func zoneText(z api.Zone) string {
	return numbers(z.Lang, z.Scale.Lo, z.Scale.Hi, z.Width.Lo, z.Width.Hi)
}

func heldText(h api.Held) string { return numbers(h.Node, h.H) }

func versionText(v api.Version) string { return numbers(v.Number, v.Holds) }

func pageText(p api.Page) string { return numbers(len(p.Slices)) }

func faceText(f api.Face) string { return numbers(f.Left, f.Right) }

func opText(o api.Op) string {
	s := numbers(o.Page, o.Y)
	for _, r := range o.Runs {
		s += " [" + r.Text + " " + numbers(r.X) + "]"
	}
	return s
}

// boxes returns the text of a page, or its error.
func boxes(l []api.Box, e api.Errno) (string, api.Errno) {
	if e != api.OK {
		return "", e
	}
	return several(l, boxText), api.OK
}
