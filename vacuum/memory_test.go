package vacuum_test

import (
	"math"
	"slices"
	"testing"

	"garner/api"
	"garner/disk"
	"garner/vacuum"
	"garner/volume"
)

// TestP13_7Nil is a job that is none, and one that was not begun.
func TestP13_7Nil(t *testing.T) {
	var none *vacuum.Job
	isEnded(t, "no job", none)
	isEnded(t, "a job that was not begun", &vacuum.Job{})
	var d *disk.Disk
	j, e := vacuum.Begin(d, 7)
	isNoJob(t, "no disk", j, e, api.ErrArg)
	isEnded(t, "what a Begin answered that was refused", j)
	if vacuum.Clear(d, 7) {
		t.Error("Clear of no disk is true")
	}
	j, e = vacuum.Begin(&disk.Disk{}, 7)
	isNoJob(t, "a zero disk", j, e, api.ErrNone)
}

// TestP13_7Disk is a disk whose other files and whose room stay as they are, jobs that are committed and jobs that are cleared away.
func TestP13_7Disk(t *testing.T) {
	d := made(t, 1<<16)
	for i, name := range []string{"v00000008.dat", "v00000008.dat.new", "v00000007.dat~", "v00000007.dat.new.new", "v00000007.new", "p00000007", "\xff", ".new"} {
		lay(t, d, name, row(30+i, uint64(i)), i)
	}
	c := d.Copy()
	x := on(t, d, 1<<16, 7, filed(7, some()...))
	for n := range 5 {
		x.begin()
		x.step(n)
		x.put(living(uint64(n+50), 1, n))
		if n%2 == 0 {
			x.done()
		} else {
			x.clear()
		}
	}
	is(t, "Remove", d.Remove(named(7)), api.OK)
	alike(t, "the other files", d, c)
}

// TestW8 is a job that is copied as a value between its calls, and only the copy used from then on.
func TestW8(t *testing.T) {
	for first := range 4 {
		for second := range 4 {
			x := filled(t)
			x.begin()
			j := *x.j
			x.j = &j
			x.step(first)
			x.has(living(50, 1, 9))
			k := *x.j
			x.j = &k
			x.step(second)
			x.has(dead(50, 1))
			l := *x.j
			x.j = &l
			x.done()
			m := *x.j
			isEnded(t, "a copy of a job that was committed", &m)
		}
	}
}

// TestW2 is two disks to which the same is done: they tell the same, whatever is done to a third one between.
func TestW2(t *testing.T) {
	for start := range 30 {
		script := drawn(start)
		disks := []*disk.Disk{made(t, 4000), made(t, 4000), made(t, 4000)}
		vols := make([]*volume.Vol, 3)
		jobs := make([]*vacuum.Job, 3)
		for i, d := range disks {
			vols[i], _ = volume.Create(d, 7)
		}
		for step := range 150 {
			n := living(uint64(script.below(20)), 1, script.below(90))
			if script.below(3) == 0 {
				n = dead(n.Key, 2)
			}
			kind, number := script.below(6), script.below(5)
			for i, d := range disks {
				if i == 2 {
					n.Key, number = n.Key+1, number+1
				}
				vols[i].Put(n)
				switch kind {
				case 0:
					if j, e := vacuum.Begin(d, 7); e == api.OK {
						jobs[i] = j
					}
				case 1:
					if v, e := jobs[i].Commit(); e == api.OK {
						vols[i] = v
					}
				default:
					jobs[i].Step(number)
				}
			}
			alike(t, "twins", disks[0], disks[1])
			if !slices.Equal(vols[0].Places(), vols[1].Places()) || t.Failed() {
				t.Fatalf("start %d, step %d", start, step)
			}
		}
	}
}

// TestP13_7Jobs is two jobs of two volumes on one disk, and two of one volume of which the first was cleared away: none changes what is another's.
func TestP13_7Jobs(t *testing.T) {
	d := made(t, 1<<16)
	x, y := on(t, d, 1<<16, 7, filed(7, some()...)), on(t, d, 1<<16, 8, filed(8, some()[3:]...))
	x.begin()
	y.begin()
	for n := range 4 {
		x.step(1)
		y.agrees("beside a Step")
		y.step(n)
		x.agrees("beside a Step")
	}
	x.done()
	y.agrees("beside a Commit")
	y.done()
	x.agrees("beside a Commit")

	x = filled(t)
	x.begin()
	x.step(2)
	old := x.j
	x.clear()
	x.begin()
	x.step(4)
	if ok, e := old.Step(math.MaxInt); ok || e == api.OK {
		t.Errorf("a Step of a job that was cleared away is %t, error %d", ok, e)
	}
	x.agrees("a Step of a job that was cleared away")
	x.step(1)
	x.done()
}

// TestW9 is files that others change in any way between the calls: none panics, and all end.
func TestW9(t *testing.T) {
	for start := range 300 {
		script := drawn(start + 3000)
		d := made(t, 1<<14)
		lay(t, d, named(7), filed(7, some()...), 8)
		var j *vacuum.Job
		for range 40 {
			name := []string{named(7), shadowed(7)}[script.below(2)]
			size, _ := d.Size(name)
			switch script.below(14) {
			case 0:
				d.Cut(name, script.below(size+1))
			case 1:
				d.Remove(name)
			case 2:
				d.Append(name, row(script.below(50), 1))
			case 3:
				d.Append(name, headOf(7))
			case 4:
				d.Append(name, laid(living(uint64(script.below(9)), 1, script.below(30))))
			case 5:
				d.Rot(name, script.below(size+1), byte(script.below(256)))
			case 6:
				d.Rename(shadowed(7), named(7))
			case 7:
				d.Crash(script.below(1000))
			case 8:
				vacuum.Clear(d, 7)
			case 9, 10:
				if next, e := vacuum.Begin(d, 7); (next == nil) != (e != api.OK) {
					t.Errorf("Begin is a job %t, error %d", next != nil, e)
				} else if next != nil {
					j = next
				}
			case 11:
				if v, e := j.Commit(); (v == nil) != (e != api.OK) {
					t.Errorf("Commit is a volume %t, error %d", v != nil, e)
				}
			default:
				if ok, e := j.Step(script.below(5) - 1); ok && e != api.OK {
					t.Errorf("Step is true, error %d", e)
				}
			}
		}
	}
}
