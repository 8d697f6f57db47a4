package disk_test

import (
	"math"
	"testing"

	"understudy/api"
	"understudy/disk"
)

// Promise P3.2, of the fuse, and P3.3, of Fuse, Dead, Changes.

// changes are one of each kind, of a disk with the files a and b.
func changes(d *disk.Disk) []func() api.Errno {
	return []func() api.Errno{
		func() api.Errno { return d.Make("c") },
		func() api.Errno { return d.Write("a", 1, full(2)) },
		func() api.Errno { return d.Sync("a") },
		func() api.Errno { return d.Remove("b") },
		func() api.Errno { return d.Rename("a", "b") },
	}
}

func fused(t *testing.T, n int) *disk.Disk {
	t.Helper()
	d := made(t, 9, "a", "b")
	done(t, d.Write("a", 0, full(1)))
	d.Fuse(n)
	return d
}

func TestFuseIsMet(t *testing.T) {
	const write = 1
	for i := range changes(nil) {
		d := fused(t, 0)
		was := d.Copy()
		is(t, changes(d)[i](), api.ErrDead)
		if !d.Dead() || d.Changes() != was.Changes()+1 {
			t.Errorf("change %d: %t, %d", i, d.Dead(), d.Changes())
		}
		if i != write {
			if !d.Same(was) {
				t.Errorf("change %d is done in part", i)
			}
			continue
		}
		has(t, d, "a", 1, full(2), false)
		has(t, d.Crash(0, 1), "a", 1, full(2), true)
		has(t, d.Crash(), "a", 1, full(0), true)
		if d.Room() != was.Room()-1 || d.Count("a") != 2 {
			t.Error("the write that met the fuse's end counts", d.Room(), d.Count("a"))
		}
	}
}

func TestFuseOfSome(t *testing.T) {
	for n := range 9 {
		d := fused(t, n)
		before := d.Changes()
		for i := range n {
			is(t, d.Write("a", 0, full(byte(10+i))), api.OK)
			if d.Dead() {
				t.Fatalf("fuse %d: dead behind %d", n, i+1)
			}
		}
		is(t, d.Write("a", 0, full(99)), api.ErrDead)
		has(t, d, "a", 0, full(99), false)
		if !d.Dead() || d.Changes() != before+n+1 {
			t.Errorf("fuse %d: %t, %d", n, d.Dead(), d.Changes()-before)
		}
	}
}

func TestWithoutPower(t *testing.T) {
	d := fused(t, 0)
	is(t, d.Sync("a"), api.ErrDead)
	for i, change := range changes(d) {
		refused(t, d, api.ErrDead, change)
		for _, n := range []int{-1, 0, 5} {
			d.Fuse(n)
			refused(t, d, api.ErrDead, changes(d)[i])
		}
	}
	refused(t, d, api.ErrDead, func() api.Errno { return d.Rename("a", "a") })
	// What comes first of several is told without power, too.
	refused(t, d, api.ErrArg, func() api.Errno { return d.Make("A") })
	refused(t, d, api.ErrExists, func() api.Errno { return d.Make("a") })
	refused(t, d, api.ErrArg, func() api.Errno { return d.Write("a", -1, full(1)) })
	refused(t, d, api.ErrNone, func() api.Errno { return d.Write("z", 0, full(1)) })
	refused(t, d, api.ErrArg, func() api.Errno { return d.Sync("A") })
	refused(t, d, api.ErrNone, func() api.Errno { return d.Sync("z") })
	refused(t, d, api.ErrArg, func() api.Errno { return d.Remove("A") })
	refused(t, d, api.ErrNone, func() api.Errno { return d.Remove("z") })
	refused(t, d, api.ErrArg, func() api.Errno { return d.Rename("a", "A") })
	refused(t, d, api.ErrNone, func() api.Errno { return d.Rename("z", "a") })
	// Looks go on.
	has(t, d, "a", 0, full(1), false)
	if !d.Has("b") || d.Count("a") != 1 || d.Room() != 8 {
		t.Error(d.Has("b"), d.Count("a"), d.Room())
	}
}

func TestFullWithoutPower(t *testing.T) {
	d := made(t, 1, "a")
	done(t, d.Write("a", 0, full(1)))
	d.Fuse(0)
	refused(t, d, api.ErrFull, func() api.Errno { return d.Write("a", 1, full(2)) })
	is(t, d.Write("a", 0, full(3)), api.ErrDead)
	has(t, d, "a", 0, full(3), false)
	refused(t, d, api.ErrFull, func() api.Errno { return d.Write("a", 1, full(2)) })
	refused(t, d, api.ErrDead, func() api.Errno { return d.Write("a", 0, full(2)) })
}

func TestRefusedCallsMeetNoFuse(t *testing.T) {
	d := fused(t, 1)
	before := d.Changes()
	d.Make("a")
	d.Make("A")
	d.Write("a", -1, full(1))
	d.Write("z", 0, full(1))
	d.Sync("z")
	d.Remove("z")
	d.Rename("z", "a")
	d.Rename("a", "")
	d.Read("a", 0)
	d.Spoil("a", 5, full(1))
	d.Copy()
	d.Crash()
	if d.Dead() || d.Changes() != before {
		t.Error(d.Dead(), d.Changes()-before)
	}
	done(t, d.Rename("a", "a"))
	is(t, d.Rename("a", "a"), api.ErrDead)
}

func TestFuseIsLaidAnew(t *testing.T) {
	d := fused(t, 2)
	done(t, d.Sync("a"))
	d.Fuse(2)
	done(t, d.Sync("a"), d.Sync("a"))
	d.Fuse(-1)
	for range 100 {
		done(t, d.Sync("a"))
	}
	d.Fuse(0)
	d.Fuse(1)
	done(t, d.Sync("a"))
	d.Fuse(math.MinInt)
	done(t, d.Sync("a"), d.Sync("a"))
	d.Fuse(math.MaxInt)
	done(t, d.Sync("a"), d.Sync("a"))
	d.Fuse(0)
	is(t, d.Sync("a"), api.ErrDead)
}

func TestNoFuseAtFirst(t *testing.T) {
	d := made(t, 9, "a")
	for range 1000 {
		done(t, d.Write("a", 0, full(1)), d.Sync("a"))
	}
	if d.Dead() || d.Changes() != 2001 {
		t.Error(d.Dead(), d.Changes())
	}
}

func TestChanges(t *testing.T) {
	d := made(t, 9)
	for i, change := range []func() api.Errno{
		func() api.Errno { return d.Make("a") },
		func() api.Errno { return d.Write("a", 0, full(1)) },
		func() api.Errno { return d.Write("a", 0, full(1)) },
		func() api.Errno { return d.Sync("a") },
		func() api.Errno { return d.Sync("a") },
		func() api.Errno { return d.Rename("a", "b") },
		func() api.Errno { return d.Rename("b", "b") },
		func() api.Errno { return d.Remove("b") },
	} {
		done(t, change())
		if d.Changes() != i+1 {
			t.Errorf("behind change %d: %d", i, d.Changes())
		}
	}
	d.Fuse(0)
	is(t, d.Make("a"), api.ErrDead)
	is(t, d.Make("a"), api.ErrDead)
	if d.Changes() != 9 {
		t.Error("one that met the fuse's end is one, others are none", d.Changes())
	}
}

func TestExampleOfTheFuse(t *testing.T) {
	d := made(t, 9, "a")
	d.Fuse(1)
	is(t, d.Rename("a", "b"), api.OK)
	is(t, d.Write("b", 0, marked(7, 8)), api.ErrDead)
	has(t, d, "b", 0, marked(7, 8), false)
	is(t, d.Sync("b"), api.ErrDead)
	has(t, d, "b", 0, marked(7, 8), false)
}
