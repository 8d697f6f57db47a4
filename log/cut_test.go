package log_test

import (
	"bytes"
	"math"
	"slices"
	"strconv"
	"testing"

	"understudy/api"
	"understudy/disk"
	"understudy/log"
)

// Promise P7.4: Branch, Cut.

func fileOf(timeline uint64) string {
	return "log." + strconv.FormatUint(timeline, 10)
}

func TestExampleOfBranch(t *testing.T) {
	d, l := made(t, 99)
	laid(t, l, sized(100, 1))
	done(t, l.Flush(100), l.Branch(2))
	laid(t, l, note(3))
	done(t, l.Flush(127))
	want := bytesOf(t, 0, sized(100, 1), note(3))
	for range 2 {
		if b, e := l.Raw(0, 1000); e != api.OK || !bytes.Equal(b, want) {
			t.Error(len(b), e)
		}
		if !slices.Equal(l.Path(), path(1, 0, 2, 100)) {
			t.Error(l.Path())
		}
		l = opened(t, d.Crash())
	}
}

func TestBranch(t *testing.T) {
	d, l := made(t, 99)
	notes(t, l, 10)
	done(t, l.SetControl(api.Control{Path: path(1, 0), Redo: 54, Min: 7, Lost: true, Rank: 1}))
	changes := d.Changes()
	done(t, l.Branch(2))
	want := api.Control{Seq: 3, Path: path(1, 0, 2, 270), Redo: 54, Min: 7, Lost: true, Rank: 1}
	if !alike(l.Control(), want) || d.Changes() != changes+3 {
		t.Error(l.Control(), d.Changes()-changes)
	}
	at(t, l, 270, 270)
	has(t, d, "control", 1, wiredOf(want).sector())
	if listed(d) != "control 2, log.1 2, log.2 0, " {
		t.Error(listed(d))
	}
	ahead := d.Crash()
	laid(t, l, sized(247, 3), note(4))
	done(t, l.Flush(l.End()))
	b := all(t, l)
	tidy(t, d, 0, b[:270])
	has(t, d, "log.2", 0, piece(270, b[270:516]))
	has(t, d, "log.2", 1, piece(516, b[516:]))
	for k := range 2 {
		was, _ := ahead.Read("log.1", k)
		has(t, d, "log.1", k, was)
	}
	m := opened(t, d.Crash())
	if !alike(m.Control(), want) || !bytes.Equal(all(t, m), b) {
		t.Error(m.Control(), m.End())
	}
	m = opened(t, ahead)
	at(t, m, 270, 270)
	if !alike(m.Control(), want) {
		t.Error(m.Control())
	}
}

func TestBranchRefused(t *testing.T) {
	d, l := made(t, 99)
	notes(t, l, 3)
	done(t, l.Branch(7))
	for range 2 {
		for _, timeline := range []uint64{0, 1, 7, 1 << 31, 1 << 32, 1<<32 + 9, math.MaxUint64} {
			refused(t, d, l, api.ErrArg, func() api.Errno { return l.Branch(timeline) })
		}
		laid(t, l, note(1))
		refused(t, d, l, api.ErrState, func() api.Errno { return l.Branch(3) })
	}
	done(t, l.Flush(l.End()), l.Branch(1<<31-1), l.Branch(2))
	if !slices.Equal(l.Path(), path(1, 0, 7, 81, 1<<31-1, 135, 2, 135)) {
		t.Error(l.Path())
	}
}

func TestBranchUpToMaxForks(t *testing.T) {
	d, l := made(t, 99)
	for i := range uint64(api.MaxForks - 1) {
		notes(t, l, int(i%3))
		done(t, l.Branch(i+2))
	}
	notes(t, l, 1)
	if len(l.Path()) != api.MaxForks {
		t.Error(l.Path())
	}
	refused(t, d, l, api.ErrArg, func() api.Errno { return l.Branch(99) })
	laid(t, l, note(1))
	refused(t, d, l, api.ErrArg, func() api.Errno { return l.Branch(99) })
	done(t, l.Flush(l.End()))
	m := opened(t, d.Crash())
	if !slices.Equal(m.Path(), l.Path()) || !bytes.Equal(all(t, m), all(t, l)) {
		t.Error(m.Path())
	}
}

// TestBranchOfAFileThatIsThere: it goes first, with all that is in it.
func TestBranchOfAFileThatIsThere(t *testing.T) {
	d, l := made(t, 99)
	notes(t, l, 3)
	b := bytesOf(t, 81, note(50), note(51))
	done(t, d.Make("log.2"), d.Write("log.2", 0, piece(81, b)), d.Sync("log.2"))
	changes := d.Changes()
	done(t, l.Branch(2))
	if d.Changes() != changes+4 || listed(d) != "control 2, log.1 1, log.2 0, " {
		t.Error(d.Changes()-changes, listed(d))
	}
	at(t, opened(t, d.Crash()), 81, 81)
}

func TestBranchOfAFullDisk(t *testing.T) {
	d, l := made(t, 99)
	notes(t, l, 3)
	for i := range api.MaxFiles - 2 {
		done(t, d.Make("x"+strconv.Itoa(i)))
	}
	refused(t, d, l, api.ErrFull, func() api.Errno { return l.Branch(2) })
	refused(t, d, l, api.ErrArg, func() api.Errno { return l.Branch(1) })
	d.Fuse(0)
	refused(t, d, l, api.ErrFull, func() api.Errno { return l.Branch(2) })
	d = d.Crash()
	l = opened(t, d)
	done(t, d.Rename("x9", "log.2"), l.Branch(2)) // in the place of one that is there

	d, l = made(t, 2) // no room for another control
	notes(t, l, 3)
	refused(t, d, l, api.ErrFull, func() api.Errno { return l.Branch(2) })
	laid(t, l, note(1))
	refused(t, d, l, api.ErrState, func() api.Errno { return l.Branch(2) })
	d, l = made(t, 3) // there would be, were the file not empty
	notes(t, l, 3)
	done(t, d.Make("log.2"), d.Make("log.3"), d.Write("log.3", 7, api.Sector{}))
	refused(t, d, l, api.ErrFull, func() api.Errno { return l.Branch(2) })
	done(t, l.Branch(3))
	if d.Room() != 0 {
		t.Error(d.Room())
	}
	done(t, l.Branch(4)) // both controls count
}

// forked is a log of the path {1, 0}, {2, 270}, {3, 540}, that ends at 810, each fork with ten notes.
func forked(t *testing.T) (*disk.Disk, *log.Log) {
	t.Helper()
	d, l := made(t, 99)
	notes(t, l, 10)
	done(t, l.Branch(2))
	notes(t, l, 10)
	done(t, l.Branch(3))
	notes(t, l, 10)
	done(t, l.SetControl(api.Control{Path: l.Path(), Redo: 540, Min: 600, Rank: 1}))
	return d, l
}

func TestCut(t *testing.T) {
	for i, x := range []struct {
		at    uint64
		p     []api.Fork
		files string
		last  string
		from  uint64 // of the last one
	}{
		{810, path(1, 0, 2, 270, 3, 540), "control 2, log.1 2, log.2 2, log.3 2, ", "log.3", 540},
		{783, path(1, 0, 2, 270, 3, 540), "control 2, log.1 2, log.2 2, log.3 2, ", "log.3", 540},
		{540, path(1, 0, 2, 270, 3, 540), "control 2, log.1 2, log.2 2, log.3 2, ", "log.3", 540},
		{540, path(1, 0, 2, 270), "control 2, log.1 2, log.2 2, ", "log.2", 270},
		{513, path(1, 0, 2, 270), "control 2, log.1 2, log.2 2, ", "log.2", 270},
		{270, path(1, 0, 2, 270), "control 2, log.1 2, log.2 2, ", "log.2", 270},
		{270, path(1, 0), "control 2, log.1 2, ", "log.1", 0},
		{243, path(1, 0), "control 2, log.1 2, ", "log.1", 0},
		{0, path(1, 0), "control 2, log.1 2, ", "log.1", 0},
		{540, path(1, 0, 2, 270, 4, 540), "control 2, log.1 2, log.2 2, log.4 0, ", "log.4", 540},
		{432, path(1, 0, 2, 270, 4, 432), "control 2, log.1 2, log.2 2, log.4 0, ", "log.4", 432},
		{270, path(1, 0, 4, 270), "control 2, log.1 2, log.4 0, ", "log.4", 270},
		{135, path(1, 0, 4, 135), "control 2, log.1 2, log.4 0, ", "log.4", 135},
		{135, path(1, 0, 2, 135), "control 2, log.1 2, log.2 2, ", "log.2", 135},
		{135, path(1, 0, 4, 135, 3, 135, 5, 135), "control 2, log.1 2, log.3 2, log.4 0, log.5 0, ", "log.5", 135},
		{0, path(1, 0, 1<<31-1, 0), "control 2, log.1 2, log.2147483647 0, ", "log.2147483647", 0},
	} {
		d, l := forked(t)
		b := all(t, l)
		given := slices.Clone(x.p)
		if e := l.Cut(x.at, given); e != api.OK {
			t.Error(i, e)
			continue
		}
		given[0].From = 99
		want := api.Control{Seq: 5, Path: x.p, Redo: min(540, x.at), Min: 600, Lost: true, Rank: 1}
		for range 2 {
			at(t, l, x.at, x.at)
			if !alike(l.Control(), want) || !bytes.Equal(all(t, l), b[:x.at]) {
				t.Error(i, l.Control())
			}
			if listed(d) != x.files {
				t.Error(i, listed(d))
			}
			for k := range d.Count(x.last) {
				var s api.Sector
				if place := x.from + uint64(k*most); place < x.at {
					s = piece(place, b[place:min(place+most, x.at)])
				}
				has(t, d, x.last, k, s)
			}
			d = d.Crash()
			l = opened(t, d)
		}
		laid(t, l, sized(300, 4), note(9))
		done(t, l.Flush(l.End()))
		m := opened(t, d.Crash())
		if !bytes.Equal(all(t, m), append(b[:x.at:x.at], bytesOf(t, x.at, sized(300, 4), note(9))...)) || !slices.Equal(m.Path(), x.p) {
			t.Error(i, "what is behind")
		}
	}
}

func TestCutRefused(t *testing.T) {
	d, l := forked(t)
	own := l.Path()
	for i, x := range []struct {
		at uint64
		p  []api.Fork
	}{
		{540, nil},
		{540, path(2, 270)},
		{540, path(1, 0, 2, 270, 2, 540)},
		{540, path(1, 0, 2, 270, 1<<31, 540)},
		{810, longPath(17)},
		{811, own},
		{1 << 62, own},
		{math.MaxUint64, own},
		{539, own},
		{269, path(1, 0, 2, 270)},
		{0, path(1, 0, 4, 1)},
		{541, path(1, 0, 2, 270)},
		{271, path(1, 0)},
		{433, path(1, 0, 2, 270, 4, 432)},
		{541, path(1, 0, 2, 270, 4, 541)},
		{271, path(1, 0, 2, 271)},
		{540, path(1, 0, 3, 540)},
	} {
		was := slices.Clone(x.p)
		refused(t, d, l, api.ErrArg, func() api.Errno { return l.Cut(x.at, x.p) })
		if !slices.Equal(x.p, was) {
			t.Error("the path is changed", i)
		}
	}
	laid(t, l, note(1))
	refused(t, d, l, api.ErrArg, func() api.Errno { return l.Cut(811, own) })
	refused(t, d, l, api.ErrState, func() api.Errno { return l.Cut(810, own) })
	refused(t, d, l, api.ErrState, func() api.Errno { return l.Cut(0, path(1, 0)) })
	d.Fuse(0)
	refused(t, d, l, api.ErrState, func() api.Errno { return l.Cut(810, own) })
	refusedDead(t, l, func() api.Errno { return l.Flush(837) })
	refused(t, d, l, api.ErrState, func() api.Errno { return l.Cut(810, own) })
}

// TestCutRemoves each file of a timeline that the path does not have, and no other one.
func TestCutRemoves(t *testing.T) {
	d, l := forked(t)
	stay := []string{"data", "log", "log.", "log.0", "log.01", "log.x", "log.-1", "log.4.4", "log.2147483648", "log.18446744073709551618", "4", "xlog.4", "log.1-", "log4"}
	for _, name := range append(stay, "log.4", "log.2147483647", "log.10") {
		done(t, d.Make(name), d.Write(name, 3, api.Sector{5}), d.Sync(name))
	}
	done(t, l.Cut(270, path(1, 0, 10, 270)))
	for _, name := range append(stay, "log.1", "log.10", "control") {
		if !d.Has(name) {
			t.Error(name, "is gone")
		}
	}
	for _, name := range []string{"log.2", "log.3", "log.4", "log.2147483647"} {
		if d.Has(name) {
			t.Error(name, "is there")
		}
	}
	if d.Count("log.10") != 0 || d.Count("log.01") != 4 {
		t.Error("what was there of that name is there, or another one's is not")
	}
}

// TestCutInARecord: the log ends at that place, though no record does; opened, it ends with the last whole one.
func TestCutInARecord(t *testing.T) {
	d, l := forked(t)
	done(t, l.Cut(550, l.Path()))
	at(t, l, 550, 550)
	if _, _, e := l.Next(540); e != api.ErrNone {
		t.Error(e)
	}
	if b, e := l.Raw(513, 1000); e != api.OK || len(b) != 27 {
		t.Error(len(b), e)
	}
	m := opened(t, d.Crash())
	at(t, m, 540, 540)
	laid(t, l, note(1))
	if _, _, e := l.Next(550); e != api.OK {
		t.Error(e)
	}
}

func TestCutOfAFullDisk(t *testing.T) {
	d, l := made(t, 2)
	notes(t, l, 3)
	refused(t, d, l, api.ErrFull, func() api.Errno { return l.Cut(27, path(1, 0)) })
	refused(t, d, l, api.ErrArg, func() api.Errno { return l.Cut(82, path(1, 0)) })
	d, l = made(t, 99)
	notes(t, l, 3)
	for i := range api.MaxFiles - 3 {
		done(t, d.Make("x"+strconv.Itoa(i)))
	}
	refused(t, d, l, api.ErrFull, func() api.Errno { return l.Cut(27, path(1, 0, 2, 27, 3, 27)) })
	d.Fuse(0)
	refused(t, d, l, api.ErrFull, func() api.Errno { return l.Cut(27, path(1, 0, 2, 27, 3, 27)) })
	d = d.Crash()
	l = opened(t, d)
	done(t, l.Cut(27, path(1, 0, 2, 27)))
}

// TestCutInOrder: what is done of it where the power goes.
func TestCutInOrder(t *testing.T) {
	for n, files := range []string{
		"control 2, log.1 2, log.2 2, log.3 2, log.4 1, ", // the elder log.4 would go
		"control 2, log.1 2, log.2 2, log.3 2, ",          // another one would be made
		"control 2, log.1 2, log.2 2, log.3 2, log.4 0, ", // the control would be written
		"control 2, log.1 2, log.2 2, log.3 2, log.4 0, ", // and synced
		"control 2, log.1 2, log.2 2, log.3 2, log.4 0, ", // log.2 would go
		"control 2, log.1 2, log.3 2, log.4 0, ",          // log.3
		"control 2, log.1 2, log.4 0, ",                   // log.4 would be synced
	} {
		d, l := forked(t)
		done(t, d.Make("log.4"), d.Write("log.4", 0, api.Sector{1}), d.Sync("log.4"))
		d.Fuse(n)
		is(t, l.Cut(270, path(1, 0, 4, 270)), api.ErrDead)
		if listed(d) != files {
			t.Error(n, listed(d))
		}
		written := n > 3
		if l.Control().Lost != written || (len(l.Path()) == 2) != written {
			t.Error(n, l.Control())
		}
		if m := opened(t, d.Crash()); m.Control().Lost != written || (m.End() == 270) != written {
			t.Error(n, m.Control())
		}
		if m := opened(t, d.Crash(1)); m.Control().Lost != (n > 1) {
			t.Error(n, m.Control())
		}
	}
	d, l := forked(t)
	d.Fuse(5) // the control and its sync, log.3 goes, the last sector of log.2 has some bytes, its sync
	done(t, l.Cut(518, path(1, 0, 2, 270)))
	if d.Dead() {
		t.Error("more is done")
	}
}

// TestForgetsWhatWasCut: an elder file that has more than the path has of it is the last one again.
func TestForgetsWhatWasCut(t *testing.T) {
	for n := range 12 {
		for pick := range 3 {
			d, l := made(t, 99)
			notes(t, l, 30)
			done(t, l.Cut(270, path(1, 0, 7, 270)))
			notes(t, l, 2)
			d.Fuse(n)
			e := l.Cut(270, path(1, 0))
			m := opened(t, d.Crash(pick, pick, pick, pick))
			if end := m.End(); end != 270 && (end != 324 || len(m.Path()) != 2) {
				t.Error(n, pick, end, m.Path())
			}
			if e == api.OK && (m.End() != 270 || len(m.Path()) != 1) {
				t.Error(n, m.End(), m.Path())
			}
		}
	}
}
