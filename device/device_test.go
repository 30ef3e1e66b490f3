package device

import (
	"reflect"
	"slices"
	"strconv"
	"testing"

	"forme/api"
	"forme/clone"
	"forme/codec"
	"forme/digest"
	"forme/program"
	"forme/sample"
)

func operations(n int) []api.Op {
	var l []api.Op
	for i := range n {
		l = append(l, api.Op{Page: 1 + i/3, Y: i, H: 2, Runs: []api.Run{{X: i, Text: "r" + strconv.Itoa(i)}}})
	}
	return l
}

// sent returns the packets of a program of some rows, and a device for it.
func sent(t *testing.T, n, room int) ([]api.Packet, api.Device) {
	t.Helper()
	l, root, e := program.Send(operations(n))
	d, e2 := New(root, n, room)
	if e != 0 || e2 != 0 || !Valid(d) {
		t.Fatal(e, e2)
	}
	return l, d
}

func get(p api.Packet) api.Step { return api.Step{Kind: api.StepGet, Packet: p} }

func printing(at int) api.Step { return api.Step{Kind: api.StepPrint, At: at} }

var (
	down = api.Step{Kind: api.StepDown}
	up   = api.Step{Kind: api.StepUp}
)

// after returns a device after steps without errors.
func after(t *testing.T, d api.Device, l ...api.Step) api.Device {
	t.Helper()
	for i, s := range l {
		next, e := Step(d, s)
		if e != api.OK || !Valid(next) {
			t.Fatal("step", i, e)
		}
		d = next
	}
	return d
}

func wants(t *testing.T, d api.Device, want int, waits bool) {
	t.Helper()
	if n, ok, e := Wants(d); n != want || ok != waits || e != 0 {
		t.Errorf("wants %d, %v, %v", n, ok, e)
	}
}

func TestExample(t *testing.T) {
	l, d := sent(t, 2, 1)
	wants(t, d, 0, true)
	d = after(t, d, get(l[0]))
	wants(t, d, 0, false)
	if next, e := Step(d, get(l[1])); e != api.ErrLimit || next.Count != 0 {
		t.Error(e)
	}
	failed := after(t, d, printing(2))
	if len(failed.Paper) != 1 || failed.Intent != 0 || failed.Next != 0 || failed.Up || len(failed.Held) != 0 {
		t.Error(failed)
	}
	wants(t, failed, 0, false)
	again := after(t, failed, up)
	wants(t, again, 1, true)
	if again.Next != 1 || again.Intent != -1 || !again.Up {
		t.Error(again)
	}
}

func TestMoments(t *testing.T) {
	l, d := sent(t, 3, 2)
	d = after(t, d, get(l[1]), get(l[0]))
	for at, want := range []struct{ paper, intent, next, held int }{{0, -1, 0, 0}, {0, 0, 0, 0}, {1, 0, 0, 0}, {1, -1, 1, 1}} {
		x := after(t, d, printing(at))
		if len(x.Paper) != want.paper || x.Intent != want.intent || x.Next != want.next || len(x.Held) != want.held || x.Up != (at == 3) {
			t.Errorf("moment %d: %v", at, x)
		}
		if at < 3 {
			x = after(t, x, up)
		}
		if x.Next != want.paper || len(x.Paper) != want.paper || x.Intent != -1 {
			t.Errorf("moment %d, later: %v", at, x)
		}
		if want.paper == 1 && !reflect.DeepEqual(x.Paper, operations(1)) {
			t.Error(x.Paper)
		}
	}
}

func TestErrors(t *testing.T) {
	l, d := sent(t, 4, 2)
	off := after(t, d, down)
	wrong := clone.Packet(l[0])
	wrong.Body[0] ^= 1
	late := clone.Packet(l[3])
	late.Path[0]++
	// A right packet whose bytes are none of an operation.
	sums := []uint64{digest.Sum([]byte{9}), digest.Sum([]byte{8})}
	root, _ := digest.Root(sums)
	path, _ := digest.Path(sums, 0)
	senseless, _ := New(root, 2, 2)
	for i, x := range []struct {
		d    api.Device
		s    api.Step
		want api.Errno
	}{
		{d, api.Step{}, api.ErrArg}, {d, api.Step{Kind: 5}, api.ErrArg}, {d, api.Step{Kind: api.StepGet, At: 1, Packet: l[0]}, api.ErrArg}, {d, printing(-1), api.ErrArg}, {d, printing(4), api.ErrArg},
		{d, api.Step{Kind: api.StepPrint, Packet: api.Packet{Seq: 1}}, api.ErrArg}, {d, api.Step{Kind: api.StepDown, Packet: api.Packet{Body: []byte{1}}}, api.ErrArg},
		{off, api.Step{Kind: api.StepUp, Packet: api.Packet{Path: []uint64{1}}}, api.ErrArg}, {d, api.Step{Kind: api.StepDown, At: 1}, api.ErrArg}, {off, api.Step{Kind: api.StepUp, At: 1}, api.ErrArg},
		{api.Device{}, down, api.ErrArg}, {off, get(l[0]), api.ErrState}, {off, get(wrong), api.ErrState}, {off, printing(3), api.ErrState}, {off, down, api.ErrState}, {d, up, api.ErrState},
		{d, get(wrong), api.ErrProof}, {d, get(late), api.ErrProof}, {d, get(api.Packet{}), api.ErrProof}, {d, get(api.Packet{Body: make([]byte, 200001)}), api.ErrProof},
		{senseless, get(api.Packet{Body: []byte{9}, Path: path}), api.ErrForm}, {d, get(l[2]), api.ErrLimit}, {d, printing(3), api.ErrNone}, {after(t, d, get(l[1])), printing(0), api.ErrNone},
	} {
		if next, e := Step(x.d, x.s); e != x.want || !reflect.DeepEqual(next, api.Device{}) {
			t.Errorf("case %d: %v", i, e)
		}
	}
	for _, n := range [][2]int{{0, 1}, {10001, 1}, {1, 0}, {1, 65}} {
		if d, e := New(7, n[0], n[1]); e != api.ErrArg || d.Count != 0 || d.Intent != 0 {
			t.Error(n, e)
		}
	}
	if d, e := New(7, 10000, 64); e != 0 || !Valid(d) {
		t.Error(e)
	}
}

func TestValid(t *testing.T) {
	l, d := sent(t, 4, 2)
	d = after(t, d, get(l[0]), printing(3), get(l[2]), get(l[1]))
	off := after(t, d, printing(2))
	for i, x := range []struct {
		d      api.Device
		change func(d *api.Device)
		want   bool
	}{
		{d, func(d *api.Device) {}, true}, {d, func(d *api.Device) { d.Held = d.Held[1:] }, true}, {d, func(d *api.Device) { d.Count = 0 }, false}, {d, func(d *api.Device) { d.Count = 3 }, false},
		{d, func(d *api.Device) { d.Room = 1 }, false}, {d, func(d *api.Device) { d.Room = 64 }, true}, {d, func(d *api.Device) { d.Room = 65 }, false}, {d, func(d *api.Device) { d.Next = 0 }, false},
		{d, func(d *api.Device) { d.Next, d.Paper = -1, nil }, false}, {d, func(d *api.Device) { d.Paper = nil }, false}, {d, func(d *api.Device) { d.Paper[0].Page = 0 }, false},
		{d, func(d *api.Device) { d.Held[0], d.Held[1] = d.Held[1], d.Held[0] }, false}, {d, func(d *api.Device) { d.Held[1] = d.Held[0] }, false}, {d, func(d *api.Device) { d.Held[0] = l[0] }, false},
		{d, func(d *api.Device) { d.Held[0].Path[0]++ }, false}, {d, func(d *api.Device) { d.Root++ }, false}, {d, func(d *api.Device) { d.Up = false }, false}, {d, func(d *api.Device) { d.Intent = 1 }, false},
		{d, func(d *api.Device) { d.Intent = -2 }, false}, {off, func(d *api.Device) {}, true}, {off, func(d *api.Device) { d.Up = true }, false}, {off, func(d *api.Device) { d.Intent = -1 }, false},
		{off, func(d *api.Device) { d.Intent = 0 }, false}, {off, func(d *api.Device) { d.Paper = d.Paper[:1] }, true}, {off, func(d *api.Device) { d.Paper = append(d.Paper, d.Paper[0]) }, false},
		{off, func(d *api.Device) { d.Held = l[1:2] }, false}, {off, func(d *api.Device) { d.Root++ }, true}, {off, func(d *api.Device) { d.Count = 1 }, false},
		{off, func(d *api.Device) { d.Next, d.Intent, d.Paper = 4, 4, operations(4) }, false}, {off, func(d *api.Device) { d.Next, d.Intent, d.Paper = 4, -1, operations(4) }, true},
		{off, func(d *api.Device) { d.Next, d.Intent, d.Count, d.Paper = 5, -1, 4, operations(5) }, false},
		{off, func(d *api.Device) { d.Next, d.Intent, d.Paper = 2, -1, []api.Op{{Page: 2}, {Page: 1}} }, true},
	} {
		y := clone.Device(x.d)
		x.change(&y)
		if Valid(y) != x.want {
			t.Errorf("case %d: %v", i, y)
		}
		_, e := Step(y, up)
		_, _, e2 := Run(y, nil)
		_, _, e3 := Wants(y)
		if !x.want && (e != api.ErrArg || e2 != api.ErrArg || e3 != api.ErrArg) {
			t.Errorf("case %d: %v, %v, %v", i, e, e2, e3)
		}
	}
	// A packet that is right, but none of an operation, cannot be held.
	b, _ := codec.Put([]int{1})
	root, _ := digest.Root([]uint64{digest.Sum(b)})
	bad, _ := New(root, 1, 1)
	bad.Held = []api.Packet{{Body: b}}
	if Valid(bad) {
		t.Error("a senseless packet is held")
	}
}

func TestRun(t *testing.T) {
	l, d := sent(t, 4, 2)
	got, errors, e := Run(d, []api.Step{get(l[1]), printing(3), get(l[0]), {}, get(l[1]), printing(1), up, get(l[0]), printing(3)})
	if want := []api.Errno{0, api.ErrNone, 0, api.ErrArg, 0, 0, 0, 0, 0}; e != 0 || !slices.Equal(errors, want) || got.Next != 1 {
		t.Error(got, errors, e)
	}
	if got, errors, e := Run(d, make([]api.Step, 201)); e != api.ErrLimit || errors != nil || got.Count != 0 {
		t.Error(e)
	}
	if got, errors, e := Run(d, make([]api.Step, 200)); e != 0 || len(errors) != 200 || !reflect.DeepEqual(got, d) {
		t.Error(e)
	}
	p := clone.Packet(l[0])
	held := after(t, d, get(p))
	p.Body[0], p.Path[0] = 99, 99
	printed := after(t, held, printing(3))
	printed.Paper[0].Runs[0].Text = "zz"
	if !reflect.DeepEqual(held.Held[0], l[0]) || len(held.Paper) != 0 {
		t.Error("devices share memory")
	}
}

// random returns a step; some packets are wrong.
func random(dice *sample.Dice, l []api.Packet) api.Step {
	switch dice.N(8) {
	case 0:
		return down
	case 1, 2:
		return up
	case 3, 4:
		return printing(min(dice.N(6), 3))
	}
	p := clone.Packet(l[dice.N(len(l))])
	switch dice.N(6) {
	case 0:
		p.Body[dice.N(len(p.Body))]++
	case 1:
		p.Seq++
	}
	return get(p)
}

func TestPower(t *testing.T) {
	whole := 0
	for seed := range 300 {
		dice := sample.Roll(seed)
		n := 1 + dice.N(9)
		l, d := sent(t, n, 1+dice.N(4))
		ops := operations(n)
		var steps []api.Step
		var errors []api.Errno
		start := d
		for range 60 {
			s := random(dice, l)
			steps = append(steps, s)
			next, e := Step(d, s)
			errors = append(errors, e)
			if e != api.OK {
				continue
			}
			if grown := len(next.Paper) - len(d.Paper); !Valid(next) || grown < 0 || grown > 0 && s.Kind != api.StepPrint || next.Up && len(next.Paper) != next.Next || len(next.Held) > next.Room {
				t.Fatal("step", s, next)
			}
			d = next
			if len(d.Paper) > n || len(d.Paper) > 0 && !reflect.DeepEqual(d.Paper, ops[:len(d.Paper)]) {
				t.Fatal("the paper", d.Paper)
			}
		}
		if got, own, _ := Run(start, steps); !reflect.DeepEqual(got, d) || !slices.Equal(own, errors) {
			t.Fatal("the run", own, errors)
		}
		if len(d.Paper) == n {
			whole++
		}
		toTheEnd(t, d, l, ops)
	}
	if whole == 300 {
		t.Error("all programs are printed already")
	}
}

// toTheEnd looks whether a device can go on to the end.
func toTheEnd(t *testing.T, d api.Device, l []api.Packet, ops []api.Op) {
	t.Helper()
	if !d.Up {
		d = after(t, d, up)
	}
	for d.Next < d.Count {
		for {
			n, waits, _ := Wants(d)
			if !waits {
				break
			}
			d = after(t, d, get(l[n]))
		}
		d = after(t, d, printing(3))
	}
	if !reflect.DeepEqual(d.Paper, ops) {
		t.Fatal(d.Paper)
	}
	wants(t, d, 0, false)
}

func TestOrder(t *testing.T) {
	for seed := range 100 {
		dice := sample.Roll(seed)
		l, d := sent(t, 8, 5)
		d = after(t, d, get(l[0]), printing(3))
		want := after(t, d, get(l[1]), get(l[3]), get(l[4]))
		got := d
		for range 40 {
			got = after(t, got, get(l[[4]int{0, 1, 3, 4}[dice.N(4)]]))
		}
		if !reflect.DeepEqual(got, want) {
			t.Fatal(got.Held)
		}
	}
}
