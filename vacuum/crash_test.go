package vacuum_test

import (
	"math"
	"slices"
	"testing"

	"garner/api"
	"garner/vacuum"
	"garner/volume"
)

// calls are a job's, one behind the other, with needles that are Put meanwhile.
func calls() []func(x *bench) {
	return []func(x *bench){
		func(x *bench) { x.begin() },
		func(x *bench) { x.step(0) },
		func(x *bench) { x.step(1) },
		func(x *bench) { x.has(living(50, 1, 9)) },
		func(x *bench) { x.step(3) },
		func(x *bench) { x.has(dead(1, 9)) },
		func(x *bench) { x.step(math.MaxInt) },
		func(x *bench) { x.has(dead(50, 9)) },
		func(x *bench) { x.has(living(51, 1, 0)) },
	}
}

// TestP13_6 is a Crash of each draw behind each call ahead of Commit: the volume is as it was, Clear takes what the job left, and another job may come.
func TestP13_6(t *testing.T) {
	for n := range len(calls()) + 1 {
		for _, draw := range draws() {
			x := filled(t)
			for _, call := range calls()[:n] {
				call(x)
			}
			was := answers(x.v, x.file)
			crash(draw, x)
			if !slices.Equal(answers(x.v, x.file), was) {
				t.Errorf("%d calls, the draw %d: the volume has changed", n, draw)
			}
			if has := n > 0; has {
				j, e := vacuum.Begin(x.d, 7)
				isNoJob(t, "what is left of the shadow", j, e, api.ErrHas)
			}
			if draw%2 == 0 {
				x.clear()
				x.has(living(70, 1, 2))
			}
			x.clear()
			x.begin()
			x.step(2)
			x.done()
			crash(draw, x)
		}
	}
}

// TestP13_6Behind is a Crash of each draw behind Commit, and behind what is Put then: the volume is as it was left.
func TestP13_6Behind(t *testing.T) {
	for n := 1; n <= len(calls()); n++ {
		for _, draw := range draws() {
			x := filled(t)
			for _, call := range calls()[:n] {
				call(x)
			}
			x.done()
			was := answers(x.v, x.file)
			crash(draw, x)
			if !slices.Equal(answers(x.v, x.file), was) {
				t.Errorf("%d calls, the draw %d: the volume has changed", n, draw)
			}
			x.clear()
			x.has(living(70, 1, 2))
			crash(draw+1, x)
		}
	}
}

// TestP13_6Full is a Crash behind a Commit that failed.
func TestP13_6Full(t *testing.T) {
	b := filled(t).file
	for _, draw := range draws() {
		for more := 8; more < 300; more += 20 {
			x := over(t, len(b)+more, 7, b)
			x.begin()
			x.step(more % 3)
			is(t, "Commit without room", x.commit(), api.ErrFull)
			crash(draw, x)
			x.clear()
			x.begin()
		}
	}
}

// anything is a call of a volume, of its job, or of Clear, or a change of its file, drawn; as on paper.
func (x *bench) anything(draws *drawn) {
	x.t.Helper()
	key, cookie := uint64(draws.below(12)), uint32(draws.below(3))
	switch draws.below(16) {
	case 0:
		x.clear()
	case 1, 2:
		x.maybe()
	case 3, 4, 5:
		x.step(draws.below(6) - 1)
	case 6:
		x.step(steps()[draws.below(len(steps()))])
	case 7:
		x.commit()
	case 8:
		x.spoil(draws)
	case 9, 10, 11:
		x.put(dead(key, cookie))
	default:
		x.put(living(key, cookie, []int{0, 1, 4, 5, 20, 100, 1000}[draws.below(7)]))
	}
	isVolume(x.t, "behind a call", x.v, x.file)
}

// maybe is Begin, which may find a shadow or no room.
func (x *bench) maybe() {
	x.t.Helper()
	want := api.OK
	switch {
	case x.shadow != nil:
		want = api.ErrHas
	case x.room-x.d.Used() < 8:
		want = api.ErrFull
	default:
		x.begin()
		return
	}
	c := x.d.Copy()
	j, e := vacuum.Begin(x.d, x.id)
	isNoJob(x.t, "Begin", j, e, want)
	alike(x.t, "a Begin that was refused", x.d, c)
}

// spoil damages a needle; or, where no job goes on, changes any byte behind the head or lays what is torn, and the volume is opened anew.
func (x *bench) spoil(draws *drawn) {
	x.t.Helper()
	l, _ := records(x.file, 8)
	if len(l) == 0 {
		return
	}
	p := l[draws.below(len(l))]
	by := byte(1 + draws.below(255))
	switch draws.below(4) {
	case 0:
		if x.ended {
			x.rot(p.At+draws.below(p.N), by)
			x.open()
		}
	case 1:
		if x.ended && x.room-x.d.Used() >= 9 {
			x.more(row(9, 6))
			x.open()
		}
	default:
		x.rot(p.At+24+draws.below(p.N-24), by)
	}
}

// TestP13_6Drawn is scripts of all calls, with Crashes between them, on disks of small and great room, with two volumes on each: behind each call both are as on paper.
func TestP13_6Drawn(t *testing.T) {
	for start := range 120 {
		script := drawn(start)
		room := []int{200, 1500, 6000, 1 << 20}[start%4]
		d := made(t, room)
		one, two := on(t, d, room, 7, headOf(7)), on(t, d, room, 0, headOf(0))
		for step := range 120 {
			x, y := one, two
			if script.below(3) == 0 {
				x, y = two, one
			}
			if script.below(12) == 0 {
				crash(script.below(2000)-5, x, y)
			} else {
				x.anything(&script)
			}
			y.agrees("the other one")
			if t.Failed() {
				t.Fatalf("start %d, step %d", start, step)
			}
		}
	}
}

// TestP13_5Drawn is scripts of all calls with Crashes between them and no rot, held against what was Put with OK alone.
func TestP13_5Drawn(t *testing.T) {
	for start := range 80 {
		script := drawn(start + 1000)
		d := made(t, []int{900, 3000, 1 << 20}[start%3])
		v, e := volume.Create(d, 7)
		is(t, "Create", e, api.OK)
		kept := map[uint64]api.Needle{}
		var j *vacuum.Job
		for step := range 200 {
			n := living(uint64(script.below(30)), uint32(script.below(3)), script.below(60))
			if script.below(3) == 0 {
				n = dead(n.Key, n.Cookie)
			}
			if v.Put(n) == api.OK {
				kept[n.Key] = n
			}
			switch script.below(7) {
			case 0:
				if next, e := vacuum.Begin(d, 7); e == api.OK {
					j = next
				}
			case 1:
				if next, e := j.Commit(); e == api.OK {
					v = next
				}
			case 2:
				d.Crash(script.below(3000))
				j = nil
				vacuum.Clear(d, 7)
				v, _ = volume.Open(d, 7)
			default:
				j.Step(script.below(9))
			}
			holds(t, v, kept)
			if t.Failed() {
				t.Fatalf("start %d, step %d", start, step)
			}
		}
	}
}

// holds asks a volume for the needles that were Put, and for no other ones.
func holds(t *testing.T, v *volume.Vol, kept map[uint64]api.Needle) {
	t.Helper()
	if l := v.Needles(); len(l) != len(kept) {
		t.Errorf("%d Needles, not %d", len(l), len(kept))
	}
	for key := range uint64(32) {
		n, ok := kept[key]
		b, e := v.Get(key, n.Cookie)
		switch {
		case !ok:
			is(t, "what was not Put", e, api.ErrNone)
		case n.Dead:
			is(t, "a mark", e, api.ErrDead)
		case e != api.OK || string(b) != string(n.Data):
			t.Errorf("Get of %d is %d bytes, error %d, not %d", key, len(b), e, len(n.Data))
		}
	}
}

// TestW9GoesOn is a job that goes on behind a Crash, or behind a Clear by others: it ends with an error, or with all that was Put; nothing is lost.
func TestW9GoesOn(t *testing.T) {
	for n := 1; n <= len(calls()); n++ {
		for i, draw := range append(draws(), -1) {
			for steps := range 3 {
				x := filled(t)
				for _, call := range calls()[:n] {
					call(x)
				}
				was := answers(x.v, x.file)
				x.d.Crash(draw)
				if i == len(draws()) {
					vacuum.Clear(x.d, 7)
				}
				for range steps {
					x.j.Step(steps)
				}
				v, e := x.j.Commit()
				if (v == nil) != (e != api.OK) {
					t.Errorf("Commit is a volume %t, error %d", v != nil, e)
				}
				if i == len(draws()) {
					is(t, "Commit behind Clear", e, api.ErrNone)
				}
				if slices.Contains(x.d.List(), shadowed(7)) {
					t.Error("a shadow is left")
				}
				isEnded(t, "behind Commit", x.j)
				again, e := volume.Open(x.d, 7)
				is(t, "Open", e, api.OK)
				if !slices.Equal(answers(again, x.file), was) || v != nil && !slices.Equal(answers(v, x.file), was) {
					t.Errorf("%d calls, the draw %d, %d Steps: the volume has changed", n, draw, steps)
				}
			}
		}
	}
}
