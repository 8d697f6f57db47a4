package disk_test

import (
	"math"
	"testing"

	"understudy/api"
	"understudy/disk"
)

// Promise P3.4.

func TestExampleOfCrash(t *testing.T) {
	d := made(t, 9, "a")
	x, y, z := marked(1, 2), marked(3, 4), marked(5, 6)
	done(t, d.Write("a", 3, x), d.Sync("a"), d.Write("a", 3, y), d.Write("a", 3, z))
	has(t, d.Crash(2), "a", 3, z, true)
	has(t, d.Crash(1), "a", 3, y, true)
	has(t, d.Crash(), "a", 3, x, true)
}

func TestPickOfOneSector(t *testing.T) {
	d := made(t, 9, "a")
	done(t, d.Write("a", 0, full(9)), d.Sync("a"), d.Write("a", 0, full(1)), d.Write("a", 0, full(2)), d.Write("a", 0, full(3)))
	for pick, want := range map[int]byte{0: 9, 1: 1, 2: 2, 3: 3, 4: 9, 5: 1, 7: 3, 8: 9, -1: 9, -2: 9, -3: 9, -5: 9, math.MinInt: 9, math.MaxInt: 3, math.MaxInt - 1: 2, math.MaxInt - 3: 9} {
		has(t, d.Crash(pick), "a", 0, full(want), true)
		has(t, d.Crash(pick, 1, 1, 1), "a", 0, full(want), true)
	}
	has(t, d.Crash(), "a", 0, full(9), true)
	has(t, d.Crash([]int{}...), "a", 0, full(9), true)
	has(t, d, "a", 0, full(3), false)
}

// TestPicksGoByNamesThenNumbers: each sector that does not last takes one, no other one does.
func TestPicksGoByNamesThenNumbers(t *testing.T) {
	d := made(t, 99, "c", "b", "a", "a.b")
	done(t, d.Write("b", 1, full(50)), d.Write("b", 11, full(51)), d.Sync("b"))
	places := []struct {
		name   string
		sector int
	}{{"a", 0}, {"a", 9}, {"a", 10}, {"a.b", 2}, {"b", 3}, {"b", 11}, {"c", 0}, {"c", lastSector}}
	for i := range places { // the last one first
		p := places[len(places)-1-i]
		done(t, d.Write(p.name, p.sector, full(byte(len(places)-i))))
	}
	for i, p := range places {
		picks := make([]int, i+1)
		picks[i] = 1
		c := d.Crash(picks...)
		for j, q := range places {
			want := full(0)
			if q.name == "b" && q.sector == 11 {
				want = full(51)
			}
			if i == j {
				want = full(byte(i + 1))
			}
			has(t, c, q.name, q.sector, want, true)
		}
		has(t, c, "b", 1, full(50), true)
		if c.Room() != d.Room() || listed(c) != listed(d) || c.Count(p.name) != d.Count(p.name) {
			t.Error("a sector that counted still does", i)
		}
	}
}

func TestPicksBehindRename(t *testing.T) {
	d := made(t, 9, "a", "b")
	done(t, d.Write("a", 0, full(1)), d.Write("b", 0, full(2)), d.Rename("a", "c"))
	c := d.Crash(1)
	has(t, c, "b", 0, full(2), true)
	has(t, c, "c", 0, full(0), true)
}

func TestCrashHasPower(t *testing.T) {
	d := fused(t, 0)
	is(t, d.Write("a", 0, full(2)), api.ErrDead)
	c := d.Crash(2)
	if c.Dead() || c.Changes() != 0 || c.Room() != d.Room() {
		t.Error(c.Dead(), c.Changes(), c.Room())
	}
	has(t, c, "a", 0, full(2), true)
	for range 50 {
		done(t, c.Write("a", 0, full(3)), c.Sync("a"))
	}
	if c.Changes() != 100 {
		t.Error(c.Changes())
	}
	has(t, d, "a", 0, full(2), false)
	if !d.Dead() {
		t.Error("the disk stays as it is")
	}
	has(t, d.Crash(1), "a", 0, full(1), true)
}

func TestCrashHasNoFuse(t *testing.T) {
	d := fused(t, 3)
	c := d.Crash()
	for range 9 {
		done(t, c.Sync("a"))
	}
	d.Fuse(0)
	done(t, d.Crash().Sync("a"))
	is(t, d.Sync("a"), api.ErrDead)
}

func TestCrashKeepsCapacityAndFiles(t *testing.T) {
	d := made(t, 2, "a", "b")
	done(t, d.Write("a", 0, full(1)), d.Write("a", 4, full(1)))
	c := d.Crash()
	if listed(c) != "a2 b0" || c.Room() != 0 || c.Count("a") != 5 {
		t.Error(listed(c), c.Room(), c.Count("a"))
	}
	is(t, c.Write("b", 0, full(1)), api.ErrFull)
	done(t, c.Write("a", 4, full(1)))
}

// TestCrashGoesOnApart, and the disk stays as it is.
func TestCrashGoesOnApart(t *testing.T) {
	d := made(t, 9, "a", "b")
	done(t, d.Write("a", 0, full(1)), d.Sync("a"), d.Write("a", 0, full(2)))
	was := d.Copy()
	picks := []int{1, 1}
	c := d.Crash(picks...)
	done(t, c.Write("a", 0, full(3)), c.Write("b", 0, full(4)), c.Remove("b"), c.Make("z"))
	if !d.Same(was) || d.Changes() != was.Changes() {
		t.Error("the disk stays as it is")
	}
	if picks[0] != 1 || picks[1] != 1 {
		t.Error("picks stay the caller's", picks)
	}
	kept := c.Copy()
	done(t, d.Write("a", 0, full(5)), d.Sync("a"), d.Remove("b"))
	if !c.Same(kept) {
		t.Error("what it was made of changes it")
	}
}

func TestSpoil(t *testing.T) {
	d := made(t, 3, "a")
	done(t, d.Write("a", 0, full(1)), d.Sync("a"), d.Write("a", 0, full(2)), d.Write("a", 0, full(3)), d.Write("a", 1, full(4)))
	changes := d.Changes()
	s := marked(7, 8)
	done(t, d.Spoil("a", 0, s))
	s[0] = 9
	has(t, d, "a", 0, marked(7, 8), true)
	has(t, d, "a", 1, full(4), false)
	for pick := range 4 {
		has(t, d.Crash(0, pick), "a", 0, marked(7, 8), true)
	}
	has(t, d.Crash(1), "a", 1, full(4), true)
	if d.Changes() != changes {
		t.Error("it is no change", d.Changes()-changes)
	}
	done(t, d.Spoil("a", lastSector, full(5)))
	has(t, d, "a", lastSector, full(5), true)
	has(t, d.Crash(), "a", lastSector, full(5), true)
	if d.Room() != 0 || d.Count("a") != api.MaxSectors {
		t.Error(d.Room(), d.Count("a"))
	}
	done(t, d.Write("a", 0, full(6)))
	has(t, d, "a", 0, full(6), false)
	has(t, d.Crash(), "a", 0, marked(7, 8), true)
}

func TestSpoilRefused(t *testing.T) {
	d := made(t, 1, "a", "b")
	done(t, d.Write("a", 0, full(1)))
	for _, x := range []struct {
		name   string
		sector int
		want   api.Errno
	}{{"", 0, api.ErrArg}, {"A", 0, api.ErrArg}, {"a", -1, api.ErrArg}, {"a", api.MaxSectors, api.ErrArg}, {"a", math.MaxInt, api.ErrArg}, {"c", -1, api.ErrArg}, {"c", 1, api.ErrNone}, {"a", 1, api.ErrFull}, {"b", 0, api.ErrFull}} {
		refused(t, d, x.want, func() api.Errno { return d.Spoil(x.name, x.sector, full(2)) })
	}
	done(t, d.Spoil("a", 0, full(2)))
}

func TestSpoilMeetsNoFuse(t *testing.T) {
	d := fused(t, 0)
	done(t, d.Spoil("a", 0, full(7)), d.Spoil("a", 1, full(8)))
	if d.Dead() {
		t.Error("the power is gone")
	}
	is(t, d.Sync("a"), api.ErrDead)
	done(t, d.Spoil("a", 0, full(9)), d.Spoil("b", 0, full(9)))
	has(t, d, "a", 0, full(9), true)
	if !d.Dead() {
		t.Error("the power is back")
	}
}

func TestCopy(t *testing.T) {
	d := fused(t, 3)
	done(t, d.Sync("b"))
	c := d.Copy()
	if !c.Same(d) || c.Changes() != d.Changes() || c.Dead() || c.Room() != d.Room() {
		t.Error("a copy differs")
	}
	for _, x := range []*disk.Disk{c, d} { // a fuse for each
		done(t, x.Sync("b"), x.Write("a", 0, full(2)))
		is(t, x.Write("a", 0, full(3)), api.ErrDead)
	}
	if e := d.Copy().Sync("a"); e != api.ErrDead || !d.Copy().Dead() || d.Copy().Changes() != d.Changes() {
		t.Error("a copy of a disk without power has power", e)
	}
	for pick, want := range []byte{0, 1, 2, 3} {
		has(t, c.Crash(pick), "a", 0, full(want), true)
	}
}

// TestCopyGoesOnApart: nothing that is done to the one shows in the other one.
func TestCopyGoesOnApart(t *testing.T) {
	for i := range changes(nil) {
		for _, turned := range []bool{false, true} {
			d := made(t, 9, "a", "b")
			done(t, d.Write("a", 0, full(1)), d.Write("a", 0, full(2)), d.Write("a", 0, full(3)), d.Write("a", 1, full(1)))
			c, want := d.Copy(), d.Copy()
			if turned {
				c, d = d, c
			}
			done(t, changes(c)[i](), d.Write("b", 3, full(3)), d.Remove("b"), d.Make("b"))
			if !d.Same(want) {
				t.Errorf("change %d of a copy", i)
			}
		}
	}
}

// TestCopyKeepsItsWrites: writes of both, behind the copy, are not mixed.
func TestCopyKeepsItsWrites(t *testing.T) {
	for n := range 9 {
		d := made(t, 9, "a")
		for i := range n {
			done(t, d.Write("a", 0, full(byte(i+1))))
		}
		c := d.Copy()
		done(t, d.Write("a", 0, full(100)), c.Write("a", 0, full(200)), d.Write("a", 0, full(101)))
		has(t, d.Crash(n+1), "a", 0, full(100), true)
		has(t, c.Crash(n+1), "a", 0, full(200), true)
		has(t, d, "a", 0, full(101), false)
	}
}

func TestSame(t *testing.T) {
	base := func() *disk.Disk {
		d := made(t, 9, "a", "b")
		done(t, d.Write("a", 0, full(1)), d.Sync("a"), d.Write("a", 0, full(2)), d.Write("a", 0, full(3)), d.Write("b", 1, full(0)), d.Sync("b"))
		return d
	}
	for i, change := range []func(d *disk.Disk){
		func(d *disk.Disk) { d.Make("c") },
		func(d *disk.Disk) { d.Remove("b") },
		func(d *disk.Disk) { d.Rename("b", "c") },
		func(d *disk.Disk) { d.Rename("a", "b") },
		func(d *disk.Disk) { d.Write("a", 0, full(3)) },
		func(d *disk.Disk) { d.Write("a", 1, full(0)) },
		func(d *disk.Disk) { d.Write("b", 1, full(0)) },
		func(d *disk.Disk) { d.Spoil("b", 0, full(0)) },
		func(d *disk.Disk) { d.Spoil("b", 1, marked(0, 1)) },
		func(d *disk.Disk) { d.Spoil("b", 1, marked(1, 0)) },
		func(d *disk.Disk) { d.Spoil("a", 0, full(3)) },
		func(d *disk.Disk) { d.Sync("a") },
		func(d *disk.Disk) { d.Remove("b"); d.Make("b") },
		func(d *disk.Disk) { d.Remove("b"); d.Make("b"); d.Spoil("b", 2, full(0)) },
		func(d *disk.Disk) { d.Remove("b"); d.Make("b"); d.Write("b", 1, full(0)) },
	} {
		d, o := base(), base()
		if !d.Same(o) || !o.Same(d) || !d.Same(d) {
			t.Fatal("what is the same is not")
		}
		change(o)
		if d.Same(o) || o.Same(d) {
			t.Errorf("change %d is not seen", i)
		}
	}
}

func TestSameOfOtherDisks(t *testing.T) {
	a, b := made(t, 9, "a"), made(t, 8, "a")
	if a.Same(b) || b.Same(a) {
		t.Error("another capacity")
	}
	var zero disk.Disk
	nils := []*disk.Disk{nil, &zero, new(disk.Disk)}
	for _, d := range nils {
		if d.Same(a) || a.Same(d) || made(t, 1).Same(d) || d.Same(made(t, 1)) {
			t.Error("nil, and a disk")
		}
		for _, o := range nils {
			if !d.Same(o) {
				t.Error("two nil ones")
			}
		}
	}
}

// TestSameOfTheRest: fuse, power, changes, and what writes ahead of the last one wrote make no odds.
func TestSameOfTheRest(t *testing.T) {
	d, o := made(t, 9, "a"), made(t, 9, "x", "a")
	done(t, o.Remove("x"))
	done(t, d.Write("a", 0, full(1)), d.Write("a", 0, full(2)), o.Write("a", 0, full(9)), o.Write("a", 0, full(2)))
	o.Fuse(0)
	is(t, o.Sync("a"), api.ErrDead)
	if !d.Same(o) || !o.Same(d) {
		t.Error("they differ")
	}
	// The same that lasts, and as many writes, but another last one.
	done(t, d.Write("a", 0, full(3)))
	p := d.Copy()
	done(t, d.Write("a", 0, full(4)), p.Write("a", 0, full(5)))
	if d.Same(p) || p.Same(d) {
		t.Error("what the sector has")
	}
	// The same bytes, and as many writes, but another one lasts.
	q, r := made(t, 9, "a"), made(t, 9, "a")
	done(t, q.Spoil("a", 0, full(1)), r.Spoil("a", 0, full(2)), q.Write("a", 0, full(3)), r.Write("a", 0, full(3)))
	if q.Same(r) || r.Same(q) {
		t.Error("what lasts")
	}
}
