package journal

import (
	"slices"
	"strings"
	"testing"

	"forme/api"
	"forme/codec"
	"forme/sample"
)

// ruled returns an edit with a rule of one expression.
func ruled(value api.Expr) api.Edit {
	r := api.Rule{Layer: 100, Tests: slices.Repeat([]api.Test{{Kind: 11, Class: 100, ID: 1000000}}, 8), When: slices.Repeat([]api.Term{{What: 7, N: 1000000}}, 8)}
	for range 39 {
		r.Decls = append(r.Decls, api.Decl{Prop: 32, Value: api.Expr{Op: api.OpNumber}})
	}
	r.Decls = append(r.Decls, api.Decl{Prop: 1, Value: value})
	return api.Edit{Clock: 1000000000, Editor: 100, Kind: api.EditRule, At: 200, Rule: r}
}

func TestExpressions(t *testing.T) {
	deep := api.Expr{Op: api.OpNumber, N: 1000000}
	for range 29 {
		deep = api.Expr{Op: api.OpTimes, N: -1000, Kids: []api.Expr{deep}}
	}
	var l []api.Expr
	for range 50 {
		l = append(l, api.Expr{Op: api.OpVar, N: 8})
	}
	for len(l) > 1 {
		l = append(l[2:], api.Expr{Op: api.OpMax, Kids: []api.Expr{l[0], l[1]}})
	}
	wide := api.Expr{Op: api.OpOver, N: 1000, Kids: l}
	tooDeep := api.Expr{Op: api.OpTimes, Kids: []api.Expr{deep}}
	tooWide := api.Expr{Op: api.OpTimes, Kids: []api.Expr{wide}}
	for i, x := range []struct {
		value api.Expr
		want  api.Errno
	}{{deep, 0}, {wide, 0}, {tooDeep, api.ErrArg}, {tooWide, api.ErrArg}} {
		e := ruled(x.value)
		ints, no := Put(e)
		if no != x.want {
			t.Errorf("case %d: %v", i, no)
		}
		got, no := Get(integers(e))
		if x.want == 0 && (no != 0 || !slices.Equal(integers(got), ints)) || x.want != 0 && (no != api.ErrForm || got.Kind != 0) {
			t.Errorf("case %d is read as %v", i, no)
		}
	}
	// The numbers of tests, terms, declarations and Kids, where they are more than there may be.
	plain := integers(ruled(api.Expr{Op: api.OpNumber}))
	for at, n := range map[int]int{16: 9, 49: 9, 66: 41, 70: 3} {
		if plain[at] != map[int]int{16: 8, 49: 8, 66: 40, 70: 0}[at] {
			t.Fatal(at, plain[at])
		}
		bad := slices.Clone(plain)
		bad[at] = n
		if _, no := Get(bad); no != api.ErrForm {
			t.Error(at, no)
		}
	}
}

func TestBytes(t *testing.T) {
	e := api.Edit{Clock: 1, Editor: 1, Kind: api.EditRemove, ID: 3}
	frame, no := Append(nil, e)
	if no != 0 || len(frame) != 31 {
		t.Fatal(len(frame), no)
	}
	if l, n, no := Load(slices.Repeat(frame, 500)); no != 0 || len(l) != 500 || n != 31*500 {
		t.Error(n, no)
	}
	if l, n, no := Load(slices.Repeat(frame, 501)); no != api.ErrLimit || l != nil || n != 0 {
		t.Error(n, no)
	}
	b, no := Append(slices.Repeat(frame, 499), e)
	if no != 0 || len(b) != 31*500 {
		t.Error(no)
	}
	empty := make([]byte, api.MaxBytes)
	if l, n, no := Load(empty); no != 0 || l != nil || n != 0 {
		t.Error(n, no)
	}
	if _, no := Append(empty, e); no != api.ErrState {
		t.Error(no)
	}
	root := sample.Doc("", sample.Root())
	for i, x := range []struct {
		d    api.Doc
		b    []byte
		want api.Errno
	}{{api.Doc{}, nil, api.ErrArg}, {root, append(empty, 0), api.ErrLimit}, {root, slices.Repeat(frame, 501), api.ErrLimit}, {root, empty, 0}} {
		d, n, no := Recover(x.d, x.b)
		if no != x.want || n != 0 || no != 0 && d.Nodes != nil {
			t.Errorf("case %d: %d, %v", i, n, no)
		}
	}
	// A journal that is filled up to its last byte, and one by one more.
	long := api.Edit{Clock: 1, Editor: 1, Kind: api.EditText, ID: 2, Text: strings.Repeat("z", 2000)}
	size, _ := Append(nil, long)
	full := slices.Repeat(size, api.MaxBytes/len(size))
	left := api.MaxBytes - len(full)
	for more, want := range map[int]api.Errno{0: 0, 1: api.ErrLimit} {
		if n := left + more; n > 100 {
			last := fitting(t, n)
			if b, no := Append(full, last); no != want || no == 0 && len(b) != api.MaxBytes {
				t.Error(more, len(b), no)
			}
		}
	}
}

// fitting returns an edit whose frame has so many bytes.
func fitting(t *testing.T, n int) api.Edit {
	t.Helper()
	e := api.Edit{Clock: 1, Editor: 1, Kind: api.EditText, ID: 2}
	for letters := range 2001 {
		for blanks := range 2 {
			e.Text = strings.Repeat(" ", blanks) + strings.Repeat("z", letters)
			if blanks+letters > 2000 {
				continue
			}
			l, _ := Put(e)
			if b, _ := codec.Frame(l); len(b) == n {
				return e
			}
		}
	}
	t.Fatal("no edit has", n, "bytes")
	return e
}

// sized returns an expression with so many nodes.
func sized(n int) api.Expr {
	switch {
	case n == 1:
		return api.Expr{Op: api.OpNumber}
	case n%2 == 0:
		return api.Expr{Op: api.OpTimes, Kids: []api.Expr{sized(n - 1)}}
	}
	return api.Expr{Op: api.OpSum, Kids: []api.Expr{sized(n / 2), sized(n - 1 - n/2)}}
}

// TestMostIntegers puts an edit with as many integers as there may be, and one with three more.
func TestMostIntegers(t *testing.T) {
	r := api.Rule{Tests: make([]api.Test, 2)}
	for range 39 {
		r.Decls = append(r.Decls, api.Decl{Prop: 1, Value: sized(33)})
	}
	for n, want := range map[int]api.Errno{24: 0, 25: api.ErrLimit} {
		e := api.Edit{Clock: 1, Editor: 1, Kind: api.EditRule, Rule: r}
		e.Rule.Decls = append(slices.Clone(r.Decls), api.Decl{Prop: 1, Value: sized(n)})
		l, no := Put(e)
		if no != want || no == 0 && len(l) != api.MaxInts {
			t.Error(n, len(l), no)
		}
	}
}
