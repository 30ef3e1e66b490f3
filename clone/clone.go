// Package clone copies what has slices, so that results share no memory with arguments. It is no layer.
package clone

import (
	"slices"

	"forme/api"
)

// Doc returns a copy of a document.
func Doc(d api.Doc) api.Doc {
	return api.Doc{Nodes: slices.Clone(d.Nodes), Rules: each(d.Rules, Rule), Fonts: each(d.Fonts, Font), Breaks: each(d.Breaks, breaks)}
}

// Rule returns a copy of a rule.
func Rule(r api.Rule) api.Rule {
	r.Tests, r.When, r.Decls = slices.Clone(r.Tests), slices.Clone(r.When), slices.Clone(r.Decls)
	for i := range r.Decls {
		r.Decls[i].Value = expr(r.Decls[i].Value)
	}
	return r
}

// Font returns a copy of a font.
func Font(f api.Font) api.Font {
	return api.Font{Glyphs: slices.Clone(f.Glyphs), Kerns: slices.Clone(f.Kerns)}
}

// Edit returns a copy of an edit.
func Edit(e api.Edit) api.Edit {
	e.Rule = Rule(e.Rule)
	return e
}

// Edits returns copies of edits.
func Edits(l []api.Edit) []api.Edit { return each(l, Edit) }

// Map returns a copy of a map.
func Map(m api.Map) api.Map {
	return api.Map{Zones: slices.Clone(m.Zones), Cells: each(m.Cells, func(c api.Cell) api.Cell {
		c.Shapes = each(c.Shapes, func(s api.Shape) api.Shape {
			s.Lines = slices.Clone(s.Lines)
			return s
		})
		return c
	})}
}

// Packet returns a copy of a packet.
func Packet(p api.Packet) api.Packet {
	p.Body, p.Path = slices.Clone(p.Body), slices.Clone(p.Path)
	return p
}

// Op returns a copy of an operation.
func Op(o api.Op) api.Op {
	o.Runs = slices.Clone(o.Runs)
	return o
}

// Device returns a copy of a device.
func Device(d api.Device) api.Device {
	d.Held, d.Paper = each(d.Held, Packet), each(d.Paper, Op)
	return d
}

// Versions returns copies of versions.
func Versions(l []api.Version) []api.Version {
	return each(l, func(v api.Version) api.Version {
		v.Doc = Doc(v.Doc)
		return v
	})
}

func expr(e api.Expr) api.Expr {
	e.Kids = each(e.Kids, expr)
	return e
}

func breaks(b api.Breaks) api.Breaks {
	b.Keep = slices.Clone(b.Keep)
	return b
}

func each[T any](l []T, of func(x T) T) []T {
	if l == nil {
		return nil
	}
	out := make([]T, len(l))
	for i, x := range l {
		out[i] = of(x)
	}
	return out
}
