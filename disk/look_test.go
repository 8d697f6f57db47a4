package disk_test

import (
	"math"
	"strconv"
	"strings"
	"testing"

	"understudy/api"
	"understudy/disk"
)

// Promise P3.3.

// listed is the files, and their counts, as a text.
func listed(d *disk.Disk) string {
	var l []string
	for name, n := range d.Files() {
		l = append(l, name+strconv.Itoa(n))
	}
	return strings.Join(l, " ")
}

func TestRead(t *testing.T) {
	d := made(t, 9, "a")
	done(t, d.Write("a", 3, marked(1, 2)))
	for _, x := range []struct {
		name   string
		sector int
		want   api.Errno
	}{{"a", -1, api.ErrArg}, {"a", api.MaxSectors, api.ErrArg}, {"a", math.MinInt, api.ErrArg}, {"a", math.MaxInt, api.ErrArg}, {"", 0, api.ErrArg}, {"A", 0, api.ErrArg}, {"c", -1, api.ErrArg}, {"C", 0, api.ErrArg}, {longestName + "a", 0, api.ErrArg}, {"c", 0, api.ErrNone}, {"c", lastSector, api.ErrNone}, {longestName, 0, api.ErrNone}} {
		if s, e := d.Read(x.name, x.sector); s != (api.Sector{}) || e != x.want {
			t.Errorf("Read(%s, %d): %d, %d", x.name, x.sector, s[0], e)
		}
		if l, e := d.Lasts(x.name, x.sector); l || e != x.want {
			t.Errorf("Lasts(%s, %d): %t, %d", x.name, x.sector, l, e)
		}
	}
	for _, sector := range []int{0, 2, 4, lastSector} {
		has(t, d, "a", sector, full(0), true)
	}
	has(t, d, "a", 3, marked(1, 2), false)
	done(t, d.Sync("a"))
	has(t, d, "a", 3, marked(1, 2), true)
	done(t, d.Write("a", 3, marked(1, 2)))
	has(t, d, "a", 3, marked(1, 2), false)
	if d.Room() != 8 {
		t.Error("a sector that is read counts", d.Room())
	}
}

func TestHasAndCount(t *testing.T) {
	d := made(t, 9, "a", longestName)
	for name, want := range map[string]bool{"a": true, longestName: true, "b": false, "": false, "A": false, "a\x00": false, longestName + "a": false} {
		if d.Has(name) != want {
			t.Errorf("Has(%s): %t", name, !want)
		}
		if d.Count(name) != 0 {
			t.Errorf("Count(%s): %d", name, d.Count(name))
		}
	}
	for i, x := range []struct{ sector, want int }{{5, 6}, {0, 6}, {4, 6}, {6, 7}, {lastSector, api.MaxSectors}, {7, api.MaxSectors}} {
		done(t, d.Write("a", x.sector, full(byte(i))))
		if d.Count("a") != x.want {
			t.Errorf("Count behind Write of %d: %d", x.sector, d.Count("a"))
		}
	}
	done(t, d.Spoil(longestName, 8, full(1)))
	if d.Count(longestName) != 9 {
		t.Error("a sector that is spoiled counts", d.Count(longestName))
	}
	c := d.Crash()
	if c.Count("a") != api.MaxSectors || c.Room() != d.Room() {
		t.Error("a sector that counted still does", c.Count("a"), c.Room())
	}
}

func TestFilesByRisingNames(t *testing.T) {
	d := made(t, 99, "b", "ab", "a", "0", "-", ".", "a.b", "a-b", "z", "aa")
	for i, name := range []string{"ab", "z", "a-b"} {
		for sector := range i + 1 {
			done(t, d.Write(name, 7*sector, full(1)))
		}
	}
	for range 20 {
		if got, want := listed(d), "-0 .0 00 a0 a-b3 a.b0 aa0 ab1 b0 z2"; got != want {
			t.Fatal(got)
		}
	}
	if listed(made(t, 1)) != "" {
		t.Error("no files")
	}
}

func TestFilesIsLeftAndGoneThroughAgain(t *testing.T) {
	d := made(t, 9, "c", "a", "b")
	files := d.Files()
	for range 3 {
		for name := range files {
			if name == "b" {
				break
			}
			if name != "a" {
				t.Error(name)
			}
		}
		n := 0
		for range files {
			n++
		}
		if n != 3 {
			t.Error(n)
		}
	}
	outer := ""
	for name := range files {
		outer += name
		for inner := range files {
			outer += inner
		}
	}
	if outer != "aabcbabccabc" {
		t.Error(outer)
	}
	files(func(string, int) bool { return false })
	files(nil)
}

// TestFilesWhileTheDiskChanges: it is as the disk was as Files was called.
func TestFilesWhileTheDiskChanges(t *testing.T) {
	d := made(t, 9, "a", "b", "c")
	done(t, d.Write("b", 0, full(1)))
	files := d.Files()
	done(t, d.Write("b", 1, full(1)), d.Remove("c"), d.Make("aa"), d.Write("a", 0, full(1)))
	for range 2 {
		var l []string
		for name, n := range files {
			l = append(l, name+strconv.Itoa(n))
		}
		if got := strings.Join(l, " "); got != "a0 b1 c0" {
			t.Error(got)
		}
	}
	for name := range files {
		d.Remove(name)
		d.Make("new." + name)
	}
	if got := listed(d); got != "aa0 new.a0 new.b0 new.c0" {
		t.Error(got)
	}
}

func TestRoom(t *testing.T) {
	d := made(t, 3, "a", "b")
	for i, x := range []struct {
		call func() api.Errno
		want int
	}{
		{func() api.Errno { return d.Write("a", 0, full(1)) }, 2},
		{func() api.Errno { return d.Write("a", 0, full(1)) }, 2},
		{func() api.Errno { return d.Spoil("b", 9, full(1)) }, 1},
		{func() api.Errno { return d.Spoil("b", 9, full(1)) }, 1},
		{func() api.Errno { return d.Write("b", 9, full(1)) }, 1},
		{func() api.Errno { return d.Sync("b") }, 1},
		{func() api.Errno { return d.Write("b", 8, full(1)) }, 0},
		{func() api.Errno { return d.Rename("a", "b") }, 2},
		{func() api.Errno { return d.Remove("b") }, 3},
	} {
		done(t, x.call())
		if d.Room() != x.want {
			t.Errorf("behind call %d: %d", i, d.Room())
		}
	}
}

// Promises P3.3, P3.4, P0.6, of disks that are none.
func TestNilAndZero(t *testing.T) {
	var zero disk.Disk
	for _, d := range []*disk.Disk{nil, &zero, new(disk.Disk)} {
		for i, e := range []api.Errno{d.Make("a"), d.Make(""), d.Write("a", 0, full(1)), d.Write("", -1, full(1)), d.Sync("a"), d.Sync(""), d.Remove("a"), d.Remove(""), d.Rename("a", "b"), d.Rename("", ""), d.Spoil("a", 0, full(1)), d.Spoil("", -1, full(1))} {
			if e != api.ErrNil {
				t.Errorf("call %d: %d", i, e)
			}
		}
		if s, e := d.Read("a", 0); s != (api.Sector{}) || e != api.ErrNil {
			t.Error("Read", e)
		}
		if _, e := d.Read("", -1); e != api.ErrNil {
			t.Error("Read", e)
		}
		if l, e := d.Lasts("a", 0); l || e != api.ErrNil {
			t.Error("Lasts", l, e)
		}
		if _, e := d.Lasts("", -1); e != api.ErrNil {
			t.Error("Lasts", e)
		}
		d.Fuse(0)
		d.Fuse(-1)
		if d.Has("a") || d.Has("") || listed(d) != "" || d.Count("a") != 0 || d.Count("") != 0 || d.Room() != 0 || d.Dead() || d.Changes() != 0 {
			t.Error("a look")
		}
		if d.Crash() != nil || d.Crash(1, 2) != nil || d.Copy() != nil {
			t.Error("a disk of none")
		}
	}
}
