package journal

import (
	"bytes"
	"reflect"
	"slices"
	"testing"

	"forme/api"
	"forme/codec"
	"forme/edit"
	"forme/sample"
)

func random(dice *sample.Dice) api.Edit {
	e := api.Edit{Clock: 1 + dice.N(1000000000), Editor: 1 + dice.N(100), Kind: 1 + dice.N(8)}
	switch e.Kind {
	case api.EditInsert:
		e.Node, e.Before = sample.Node(2+dice.N(9), 1, api.KindText, dice.N(9), sample.Text(dice)), dice.N(2)*dice.N(9)
	case api.EditRemove:
		e.ID = 1 + dice.N(9)
	case api.EditMove:
		e.ID, e.Parent, e.Before = 1+dice.N(9), 1+dice.N(9), dice.N(9)
	case api.EditText:
		e.ID, e.Text = 1+dice.N(9), sample.Text(dice)
	case api.EditClass:
		e.ID, e.N = 1+dice.N(9), dice.N(101)
	case api.EditRule:
		e.At, e.Rule = dice.N(3), sample.Rules(sample.Rule(dice))[0]
	case api.EditDrop:
		e.At = dice.N(3)
	case api.EditAdvance:
		e.Byte, e.N = byte(32+dice.N(94)), dice.N(1001)
	}
	return e
}

func journal(t *testing.T, l []api.Edit) (b []byte, ends []int) {
	t.Helper()
	for _, e := range l {
		var no api.Errno
		if b, no = Append(b, e); no != api.OK {
			t.Fatal(no)
		}
		ends = append(ends, len(b))
	}
	return b, ends
}

func several(dice *sample.Dice, n int) []api.Edit {
	var l []api.Edit
	for range n {
		l = append(l, random(dice))
	}
	return l
}

func equal(a, b []api.Edit) bool { return len(a) == len(b) && (len(a) == 0 || reflect.DeepEqual(a, b)) }

func TestExample(t *testing.T) {
	e := api.Edit{Clock: 5, Editor: 2, Kind: api.EditClass, ID: 3, N: 4}
	l, no := Put(e)
	if no != 0 || !slices.Equal(l, []int{5, 2, 5, 3, 0, 0, 4, 0, 0, 0, 0, 0, 0, 0, 0, 0, 0, 0, 0}) {
		t.Error(l, no)
	}
	if b, no := Append(nil, e); no != 0 || len(b) != 31 {
		t.Error(len(b), no)
	}
	e = api.Edit{Clock: 1, Editor: 1, Kind: api.EditRule, At: 2, Rule: sample.Rules("rule 3 block.4 > text#5 when lang 1 { pad: $2 * -6; }")[0]}
	want := []int{1, 1, 6, 0, 0, 0, 0, 2, 0, 0, 0, 0, 0, 0, 0, 3, 2, 1, 4, 0, 0, 2, 0, 5, 1, 1, 5, 1, 1, 3, 7, -6, 1, 4, 2, 0}
	if l, no := Put(e); no != 0 || !slices.Equal(l, want) {
		t.Error(l, no)
	}
}

func TestInverse(t *testing.T) {
	for seed := range 500 {
		dice := sample.Roll(seed)
		e := random(dice)
		l, no := Put(e)
		if got, no2 := Get(l); no != 0 || no2 != 0 || !reflect.DeepEqual(got, e) {
			t.Fatalf("%v is read as %v, %v", e, got, no2)
		}
		for n := range l {
			if _, no := Get(l[:n]); no != api.ErrForm {
				t.Fatal("a beginning is read")
			}
			changed := slices.Clone(l)
			changed[n] += dice.N(5) - 2
			if got, no := Get(changed); no == 0 {
				if again, _ := Put(got); !slices.Equal(again, changed) {
					t.Fatalf("%v is read as %v", changed, got)
				}
			}
		}
		if got, no := Get(append(l, 0)); no != api.ErrForm || !reflect.DeepEqual(got, api.Edit{}) {
			t.Fatal("more is read")
		}
	}
}

func TestCuts(t *testing.T) {
	for seed := range 60 {
		dice := sample.Roll(seed)
		l, further := several(dice, 4), random(dice)
		b, ends := journal(t, l)
		d := sample.Random(dice)
		for n := range len(b) + 1 {
			whole := 0
			for whole < len(ends) && ends[whole] <= n {
				whole++
			}
			end := 0
			if whole > 0 {
				end = ends[whole-1]
			}
			wrong := byte(255)
			if n < len(b) {
				wrong = b[n] ^ 1
			}
			for _, cut := range [][]byte{b[:n], append(slices.Clone(b[:n]), wrong, 255, 255)} {
				got, size, no := Load(cut)
				if no != 0 || size != end || !equal(got, l[:whole]) {
					t.Fatalf("cut at %d: %d edits, %d, %v", n, len(got), size, no)
				}
				if _, no := Append(cut, further); (no == api.ErrState) != (end < len(cut)) {
					t.Fatal(no)
				}
			}
			if n%7 != 0 {
				continue
			}
			first, size, no := Recover(d, b[:n])
			want, _, _ := edit.All(d, l[:whole])
			if no != 0 || size != end || !reflect.DeepEqual(first, want) {
				t.Fatal("recovered", no)
			}
			more, _ := Append(b[:end], further)
			all, _, _ := Recover(d, more)
			want, _, _ = edit.All(want, []api.Edit{further})
			rest, _, _ := Recover(first, more[end:])
			if !reflect.DeepEqual(all, want) || !reflect.DeepEqual(rest, want) {
				t.Fatal("continued")
			}
		}
	}
}

func TestForms(t *testing.T) {
	good, _ := Put(api.Edit{Clock: 1, Editor: 1, Kind: api.EditRule, Rule: sample.Rules("rule 3 * > text { pad: 1; }")[0]})
	for at, v := range map[int]int{0: 0, 1: 101, 2: 9, 3: 1, 8: 256, 9: -1, 15: 101, 16: -1, 20: 2, 24: -1, 25: 9, 26: 41} {
		l := slices.Clone(good)
		l[at] = v
		if _, no := Get(l); no != api.ErrForm {
			t.Errorf("%d at %d: %v", v, at, no)
		}
	}
	deep := append(slices.Clone(good[:len(good)-3]), slices.Repeat([]int{api.OpTimes, 1, 1}, 100000)...)
	if _, no := Get(deep); no != api.ErrForm {
		t.Error(no)
	}
	if _, no := Get(nil); no != api.ErrForm {
		t.Error(no)
	}
	if _, no := Put(api.Edit{}); no != api.ErrArg {
		t.Error(no)
	}
	// A frame of integers that are no edit ends a journal.
	one, _ := journal(t, several(sample.Roll(1), 1))
	frame, _ := codec.Frame([]int{1, 2, 3})
	if l, n, no := Load(slices.Concat(one, frame, one)); len(l) != 1 || n != len(one) || no != 0 {
		t.Error(len(l), n, no)
	}
	if _, no := Append(slices.Concat(one, frame), random(sample.Roll(2))); no != api.ErrState {
		t.Error(no)
	}
}

func TestLimits(t *testing.T) {
	e := api.Edit{Clock: 1, Editor: 1, Kind: api.EditRemove, ID: 3}
	var wide api.Rule
	for range 40 {
		wide.Decls = append(wide.Decls, sample.Rules("rule 0 * { pad: 1 + (2 + 3) + (4 + 5) + (1 + (2 + 3) + (4 + 5)) + (1 + (2 + 3) + (4 + 5) + (1 + 1) + (2 + 3)) + (2 + 3) + (3 + 4); }")[0].Decls[0])
	}
	wide.Tests = []api.Test{{}}
	big := api.Edit{Clock: 1, Editor: 1, Kind: api.EditRule, Rule: wide}
	if _, no := Put(big); !edit.Valid(big) || no != api.ErrLimit {
		t.Error(no)
	}
	if _, no := Append(nil, big); no != api.ErrLimit {
		t.Error(no)
	}
	long := make([]byte, 200001)
	_, no1 := Append(long, api.Edit{})
	_, _, no2 := Load(long)
	_, _, no3 := Recover(sample.Doc("", sample.Root()), long)
	_, _, no4 := Recover(api.Doc{}, long)
	if no1 != api.ErrLimit || no2 != api.ErrLimit || no3 != api.ErrLimit || no4 != api.ErrArg {
		t.Error(no1, no2, no3, no4)
	}
	b, _ := journal(t, slices.Repeat([]api.Edit{e}, 500))
	if _, no := Append(b, e); no != api.ErrLimit {
		t.Error(no)
	}
	frame, _ := Append(nil, e)
	more := slices.Concat(b, frame)
	if l, _, no := Load(more); no != api.ErrLimit || l != nil {
		t.Error(no)
	}
	if _, no := Append(append(more, 1), e); no != api.ErrState {
		t.Error(no)
	}
	if _, no := Append(b, api.Edit{}); no != api.ErrArg {
		t.Error(no)
	}
	// Texts that are long fill a journal before there are 500 edits.
	wordy := api.Edit{Clock: 1, Editor: 1, Kind: api.EditText, ID: 2, Text: string(bytes.Repeat([]byte("z"), 2000))}
	var full []byte
	no := api.OK
	for no == api.OK {
		var next []byte
		if next, no = Append(full, wordy); no == api.OK {
			full = next
		}
	}
	if no != api.ErrLimit || len(full) > 200000 || len(full) < 190000 {
		t.Error(len(full), no)
	}
}
