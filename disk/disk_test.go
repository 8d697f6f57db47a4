package disk_test

import (
	"math"
	"strings"
	"testing"

	"understudy/api"
	"understudy/disk"
)

// full is a sector of one byte.
func full(b byte) (s api.Sector) {
	for i := range s {
		s[i] = b
	}
	return s
}

// marked is a sector that differs from a full one at its ends alone.
func marked(first, last byte) (s api.Sector) {
	s[0], s[api.SectorSize-1] = first, last
	return s
}

func made(t *testing.T, capacity int, names ...string) *disk.Disk {
	t.Helper()
	d, e := disk.New(capacity)
	if e != api.OK {
		t.Fatal(e)
	}
	for _, name := range names {
		done(t, d.Make(name))
	}
	return d
}

func done(t *testing.T, l ...api.Errno) {
	t.Helper()
	for i, e := range l {
		if e != api.OK {
			t.Errorf("call %d: %v", i, e)
		}
	}
}

func is(t *testing.T, got, want api.Errno) {
	t.Helper()
	if got != want {
		t.Errorf("%d, want %d", got, want)
	}
}

// has wants what a sector has, and whether it lasts.
func has(t *testing.T, d *disk.Disk, name string, sector int, want api.Sector, lasts bool) {
	t.Helper()
	s, e := d.Read(name, sector)
	if s != want || e != api.OK {
		t.Errorf("Read(%s, %d): %d .. %d, %d", name, sector, s[0], s[api.SectorSize-1], e)
	}
	if l, e := d.Lasts(name, sector); l != lasts || e != api.OK {
		t.Errorf("Lasts(%s, %d): %t, %d", name, sector, l, e)
	}
}

// refused wants that the call answers that, and changes nothing.
func refused(t *testing.T, d *disk.Disk, want api.Errno, call func() api.Errno) {
	t.Helper()
	was, changes, dead := d.Copy(), d.Changes(), d.Dead()
	is(t, call(), want)
	if !d.Same(was) || d.Changes() != changes || d.Dead() != dead {
		t.Errorf("what is refused changes something")
	}
}

const (
	longestName = "abcdefghijklmnopqrstuvwxyz.-0189"
	lastSector  = api.MaxSectors - 1
)

// Promise P3.1.

func TestNew(t *testing.T) {
	for _, n := range []int{1, 2, 512, api.MaxDisk - 1, api.MaxDisk} {
		d, e := disk.New(n)
		if d == nil || e != api.OK {
			t.Fatalf("New(%d): %d", n, e)
		}
		for name := range d.Files() {
			t.Errorf("New(%d) has %s", n, name)
		}
		if d.Room() != n || d.Changes() != 0 || d.Dead() {
			t.Errorf("New(%d): %d, %d, %t", n, d.Room(), d.Changes(), d.Dead())
		}
	}
	for _, n := range []int{0, -1, api.MaxDisk + 1, math.MaxInt, math.MinInt, math.MinInt32} {
		if d, e := disk.New(n); d != nil || e != api.ErrArg {
			t.Errorf("New(%d): %v, %d", n, d, e)
		}
	}
}

func TestMayName(t *testing.T) {
	for _, name := range []string{"a", "z", "0", "9", ".", "-", "..", "--", "-a", "data", "log.3", "a-z.0-9", longestName, strings.Repeat("-", 31)} {
		if !disk.MayName(name) {
			t.Errorf("%q may be", name)
		}
	}
	for _, name := range []string{"", longestName + "a", strings.Repeat("a", 33), strings.Repeat("a", 1<<20), "A", "Z", "aB", " ", "a ", " a", "a/b", "a_b", "\x00", "a\x00", "`", "{", "ä", "\xff", "a\n", "/", ":", ",", "+", "５"} {
		if disk.MayName(name) {
			t.Errorf("%q may not be", name)
		}
	}
	for b := range 256 {
		want := strings.IndexByte("abcdefghijklmnopqrstuvwxyz0123456789.-", byte(b)) >= 0
		for _, name := range []string{string([]byte{byte(b)}), string([]byte{'a', byte(b)}), string([]byte{byte(b), 'a'})} {
			if disk.MayName(name) != want {
				t.Errorf("%q: %t", name, !want)
			}
		}
	}
}

// Promise P3.2.

func TestMake(t *testing.T) {
	d := made(t, 3, "b")
	if !d.Has("b") || d.Count("b") != 0 || d.Room() != 3 {
		t.Error(d.Has("b"), d.Count("b"), d.Room())
	}
	has(t, d, "b", 0, full(0), true)
	refused(t, d, api.ErrExists, func() api.Errno { return d.Make("b") })
	for _, name := range []string{"", "B", longestName + "x"} {
		refused(t, d, api.ErrArg, func() api.Errno { return d.Make(name) })
	}
	done(t, d.Make(longestName), d.Write("b", 0, full(1)), d.Remove("b"), d.Make("b"))
	has(t, d, "b", 0, full(0), true)
	if d.Count("b") != 0 || d.Room() != 3 {
		t.Error("a file made anew has nothing of the one that was", d.Count("b"), d.Room())
	}
}

func TestMakeTooMany(t *testing.T) {
	d := made(t, 1)
	for i := range api.MaxFiles {
		done(t, d.Make(longestName[:1+i]))
	}
	refused(t, d, api.ErrFull, func() api.Errno { return d.Make("x") })
	refused(t, d, api.ErrExists, func() api.Errno { return d.Make("a") })
	refused(t, d, api.ErrArg, func() api.Errno { return d.Make("X") })
	done(t, d.Rename("a", "x"), d.Rename("ab", "abc"), d.Make("ab"))
	refused(t, d, api.ErrFull, func() api.Errno { return d.Make("y") })
	done(t, d.Remove("x"), d.Make("y"))
	d.Fuse(0)
	is(t, d.Make("z"), api.ErrFull)
	if d.Dead() {
		t.Error("what is refused meets no fuse")
	}
}

func TestWrite(t *testing.T) {
	d := made(t, 9, "a", "b")
	s := marked(1, 2)
	done(t, d.Write("a", 0, s), d.Write("a", lastSector, marked(3, 4)))
	s[0] = 9
	has(t, d, "a", 0, marked(1, 2), false)
	has(t, d, "a", lastSector, marked(3, 4), false)
	has(t, d, "a", 1, full(0), true)
	has(t, d, "b", 0, full(0), true)
	done(t, d.Write("a", 0, marked(5, 6)))
	has(t, d, "a", 0, marked(5, 6), false)
	if d.Room() != 7 {
		t.Error("a sector counts once", d.Room())
	}
	done(t, d.Write("b", 0, full(0)))
	has(t, d, "b", 0, full(0), false)
	if d.Room() != 6 || d.Count("b") != 1 {
		t.Error("a sector that was written counts, whatever it has", d.Room())
	}
	for _, sector := range []int{-1, api.MaxSectors, math.MinInt, math.MaxInt, 1 << 32} {
		refused(t, d, api.ErrArg, func() api.Errno { return d.Write("a", sector, s) })
	}
	refused(t, d, api.ErrArg, func() api.Errno { return d.Write("", 0, s) })
	refused(t, d, api.ErrArg, func() api.Errno { return d.Write("c", -1, s) })
	refused(t, d, api.ErrArg, func() api.Errno { return d.Write("C", 0, s) })
	refused(t, d, api.ErrNone, func() api.Errno { return d.Write("c", 0, s) })
}

func TestWriteOnAFullDisk(t *testing.T) {
	d := made(t, 2, "a", "b")
	done(t, d.Write("a", 7, full(1)), d.Write("b", 7, full(2)))
	if d.Room() != 0 {
		t.Error(d.Room())
	}
	refused(t, d, api.ErrFull, func() api.Errno { return d.Write("a", 6, full(3)) })
	refused(t, d, api.ErrFull, func() api.Errno { return d.Write("b", 8, full(3)) })
	refused(t, d, api.ErrArg, func() api.Errno { return d.Write("b", -1, full(3)) })
	refused(t, d, api.ErrNone, func() api.Errno { return d.Write("c", 8, full(3)) })
	done(t, d.Write("a", 7, full(4)), d.Sync("a"), d.Write("a", 7, full(5)), d.Make("c"))
	refused(t, d, api.ErrFull, func() api.Errno { return d.Write("c", 0, full(6)) })
	done(t, d.Remove("a"), d.Write("c", 0, full(6)))
	refused(t, d, api.ErrFull, func() api.Errno { return d.Write("c", 1, full(6)) })
	done(t, d.Rename("b", "c"))
	if d.Room() != 1 {
		t.Error("sectors of a file that is gone count no more", d.Room())
	}
	done(t, d.Write("c", 0, full(6)))
}

func TestSync(t *testing.T) {
	d := made(t, 9, "a", "b")
	done(t, d.Write("a", 0, full(1)), d.Write("a", 0, full(2)), d.Write("a", 4, full(3)), d.Write("b", 0, full(4)), d.Sync("a"))
	has(t, d, "a", 0, full(2), true)
	has(t, d, "a", 4, full(3), true)
	has(t, d, "b", 0, full(4), false)
	c := d.Crash()
	has(t, c, "a", 0, full(2), true)
	has(t, c, "a", 4, full(3), true)
	has(t, c, "b", 0, full(0), true)
	done(t, d.Sync("a"), d.Write("a", 0, full(5)))
	has(t, d, "a", 0, full(5), false)
	has(t, d.Crash(), "a", 0, full(2), true)
	refused(t, d, api.ErrArg, func() api.Errno { return d.Sync("") })
	refused(t, d, api.ErrArg, func() api.Errno { return d.Sync("A") })
	refused(t, d, api.ErrNone, func() api.Errno { return d.Sync("c") })
}

func TestRemove(t *testing.T) {
	d := made(t, 9, "a", "b")
	done(t, d.Write("a", 0, full(1)), d.Sync("a"), d.Write("a", 1, full(2)), d.Write("b", 0, full(3)), d.Remove("a"))
	if d.Has("a") || !d.Has("b") || d.Room() != 8 || d.Count("a") != 0 {
		t.Error(d.Has("a"), d.Has("b"), d.Room(), d.Count("a"))
	}
	if d.Crash(1, 1).Has("a") {
		t.Error("it does not last that it is gone")
	}
	refused(t, d, api.ErrNone, func() api.Errno { return d.Remove("a") })
	refused(t, d, api.ErrArg, func() api.Errno { return d.Remove("") })
	refused(t, d, api.ErrArg, func() api.Errno { return d.Remove("A") })
	refused(t, d, api.ErrNone, func() api.Errno { return d.Sync("a") })
}

func TestRename(t *testing.T) {
	d := made(t, 9, "a", "b")
	done(t, d.Write("a", 0, full(1)), d.Sync("a"), d.Write("a", 0, full(2)), d.Write("a", 1, full(3)), d.Write("b", 5, full(4)), d.Sync("b"))
	done(t, d.Rename("a", "c"))
	if d.Has("a") || !d.Has("c") || d.Room() != 6 || d.Count("c") != 2 {
		t.Error(d.Has("a"), d.Has("c"), d.Room(), d.Count("c"))
	}
	has(t, d, "c", 0, full(2), false)
	has(t, d.Crash(), "c", 0, full(1), true)
	done(t, d.Rename("c", "b"))
	if d.Has("c") || !d.Has("b") || d.Room() != 7 || d.Count("b") != 2 {
		t.Error(d.Has("c"), d.Has("b"), d.Room(), d.Count("b"))
	}
	has(t, d, "b", 1, full(3), false)
	has(t, d, "b", 5, full(0), true)
	if c := d.Crash(); c.Has("a") || c.Has("c") || !c.Has("b") {
		t.Error("it does not last that it has another name")
	}
}

func TestRenameToItself(t *testing.T) {
	d := made(t, 9, "a", "b")
	done(t, d.Write("a", 0, full(1)), d.Sync("a"), d.Write("a", 0, full(2)))
	was := d.Copy()
	done(t, d.Rename("a", "a"))
	if !d.Same(was) || d.Changes() != was.Changes()+1 {
		t.Error("to itself nothing changes", d.Changes())
	}
	has(t, d, "a", 0, full(2), false)
	has(t, d.Crash(), "a", 0, full(1), true)
}

func TestRenameRefused(t *testing.T) {
	d := made(t, 9, "a")
	for _, x := range []struct {
		name, to string
		want     api.Errno
	}{{"", "b", api.ErrArg}, {"a", "", api.ErrArg}, {"A", "b", api.ErrArg}, {"a", "B", api.ErrArg}, {"c", "B", api.ErrArg}, {"C", "b", api.ErrArg}, {"c", "b", api.ErrNone}, {"c", "a", api.ErrNone}, {"c", "c", api.ErrNone}, {"a", longestName + "x", api.ErrArg}} {
		refused(t, d, x.want, func() api.Errno { return d.Rename(x.name, x.to) })
	}
	done(t, d.Rename("a", longestName))
}
