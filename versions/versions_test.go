package versions

import (
	"reflect"
	"slices"
	"testing"

	"forme/api"
	"forme/clone"
	"forme/sample"
)

func doc(class int) api.Doc {
	d := sample.Doc("rule 0 * { pad: 1 + 2; }", sample.Root())
	d.Nodes[0].Class = class
	return d
}

func version(number, holds int) api.Version {
	return api.Version{Number: number, Holds: holds, Doc: doc(number % 100)}
}

// shape returns the numbers and holds of versions.
func shape(l []api.Version) [][2]int {
	var out [][2]int
	for _, v := range l {
		out = append(out, [2]int{v.Number, v.Holds})
	}
	return out
}

func TestExample(t *testing.T) {
	l, e := Push(nil, doc(1))
	if e != 0 || !slices.Equal(shape(l), [][2]int{{1, 0}}) {
		t.Fatal(shape(l), e)
	}
	l, n, e := Hold(l)
	if e != 0 || n != 1 || !slices.Equal(shape(l), [][2]int{{1, 1}}) {
		t.Fatal(shape(l), n, e)
	}
	l, _ = Push(l, doc(2))
	if !slices.Equal(shape(l), [][2]int{{1, 1}, {2, 0}}) {
		t.Fatal(shape(l))
	}
	if d, e := Doc(l, 1); e != 0 || !reflect.DeepEqual(d, doc(1)) {
		t.Error(d, e)
	}
	l, e = Let(l, 1)
	if e != 0 || !slices.Equal(shape(l), [][2]int{{2, 0}}) {
		t.Fatal(shape(l), e)
	}
	if m, e := Let(l, 2); e != api.ErrState || m != nil {
		t.Error(e)
	}
	if m, e := Let(l, 1); e != api.ErrNone || m != nil {
		t.Error(e)
	}
	if d, e := Doc(l, 1); e != api.ErrNone || d.Nodes != nil {
		t.Error(e)
	}
	l, _ = Push(l, doc(3))
	if !slices.Equal(shape(l), [][2]int{{3, 0}}) {
		t.Error(shape(l))
	}
}

func many(n int) []api.Version {
	var l []api.Version
	for i := range n {
		l = append(l, version(i+1, 1))
	}
	return l
}

func TestValid(t *testing.T) {
	for i, x := range []struct {
		l    []api.Version
		want bool
	}{
		{nil, true}, {[]api.Version{version(1, 0)}, true}, {[]api.Version{version(1, 1000), version(1000000, 0)}, true}, {many(50), true},
		{many(51), false}, {[]api.Version{version(0, 0)}, false}, {[]api.Version{version(1000001, 0)}, false}, {[]api.Version{version(1, -1)}, false},
		{[]api.Version{version(1, 1001)}, false}, {[]api.Version{version(1, 0), version(2, 1)}, false}, {[]api.Version{version(2, 1), version(2, 1)}, false},
		{[]api.Version{version(2, 1), version(1, 1)}, false}, {[]api.Version{{Number: 1}}, false},
	} {
		if Valid(x.l) != x.want {
			t.Errorf("case %d", i)
		}
		if x.want {
			continue
		}
		_, e := Push(x.l, doc(1))
		_, n, e2 := Hold(x.l)
		_, e3 := Let(x.l, 1)
		_, e4 := Doc(x.l, 1)
		if e != api.ErrArg || e2 != api.ErrArg || n != 0 || e3 != api.ErrArg || e4 != api.ErrArg {
			t.Errorf("case %d: %v, %v, %v, %v", i, e, e2, e3, e4)
		}
	}
}

func TestLimits(t *testing.T) {
	if _, e := Push(many(2), api.Doc{}); e != api.ErrArg {
		t.Error(e)
	}
	if l, e := Push(many(50), doc(1)); e != api.ErrLimit || l != nil {
		t.Error(e)
	}
	full := many(50)
	full[49].Holds = 0
	if l, e := Push(full, doc(1)); e != 0 || len(l) != 50 || l[49].Number != 51 {
		t.Error(e)
	}
	if _, e := Push([]api.Version{version(1000000, 0)}, doc(1)); e != api.ErrLimit {
		t.Error(e)
	}
	if l, e := Push([]api.Version{version(999999, 0)}, doc(1)); e != 0 || l[0].Number != 1000000 {
		t.Error(e)
	}
	if l, n, e := Hold(nil); e != api.ErrNone || l != nil || n != 0 {
		t.Error(e)
	}
	if l, n, e := Hold([]api.Version{version(1, 1000)}); e != api.ErrLimit || l != nil || n != 0 {
		t.Error(e)
	}
	if _, e := Let(nil, 1); e != api.ErrNone {
		t.Error(e)
	}
	if l, e := Let([]api.Version{version(1, 1)}, 1); e != 0 || !slices.Equal(shape(l), [][2]int{{1, 0}}) {
		t.Error(shape(l), e)
	}
}

// TestRuns keeps books of who holds what.
func TestRuns(t *testing.T) {
	for seed := range 100 {
		dice := sample.Roll(seed)
		var l []api.Version
		held, docs := map[int]int{}, map[int]api.Doc{}
		newest := 0
		for range 60 {
			before := clone.Versions(l)
			var next []api.Version
			var e api.Errno
			switch dice.N(4) {
			case 0:
				d := doc(dice.N(100))
				if next, e = Push(l, d); e == api.OK {
					newest++
					docs[newest] = clone.Doc(d)
					d.Rules[0].Decls[0].Value.Kids[0].N = 99
				}
			case 1, 2:
				var n int
				if next, n, e = Hold(l); e == api.OK {
					if n != newest {
						t.Fatal("an older version is held")
					}
					held[n]++
				}
			case 3:
				n := 1 + dice.N(newest+1)
				if next, e = Let(l, n); e == api.OK {
					held[n]--
				} else if held[n] > 0 {
					t.Fatal("a held version is not there")
				}
			}
			if !reflect.DeepEqual(l, before) {
				t.Fatal("the list before was changed")
			}
			if e == api.OK {
				l = next
			}
			kept(t, l, held, docs, newest)
		}
	}
}

// kept looks whether just the versions are there that are held, and the newest one.
func kept(t *testing.T, l []api.Version, held map[int]int, docs map[int]api.Doc, newest int) {
	t.Helper()
	if !Valid(l) {
		t.Fatal("no versions", shape(l))
	}
	var want [][2]int
	for n := 1; n <= newest; n++ {
		d, e := Doc(l, n)
		if held[n] == 0 && n != newest {
			if e != api.ErrNone {
				t.Fatal("version", n, "is still there")
			}
			continue
		}
		want = append(want, [2]int{n, held[n]})
		if e != api.OK || !reflect.DeepEqual(d, docs[n]) {
			t.Fatal("version", n, e)
		}
	}
	if !slices.Equal(shape(l), want) {
		t.Fatal(shape(l), want)
	}
}
