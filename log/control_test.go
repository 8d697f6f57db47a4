package log_test

import (
	"bytes"
	"math"
	"slices"
	"testing"

	"understudy/api"
	"understudy/disk"
	"understudy/log"
)

// Promise P7.4: Control, SetControl, Path.

func TestSetControl(t *testing.T) {
	d, l := made(t, 99)
	notes(t, l, 3)
	for i, c := range []api.Control{
		{Path: path(1, 0), Redo: 81, Min: 5, Rank: 1},
		{Path: path(1, 0), Seq: 77, Lost: true},
		{Path: path(1, 0), Redo: 27, Min: math.MaxUint64, Rank: 1, Lost: true},
		{Path: path(1, 0), Seq: math.MaxUint64, Min: 1 << 40},
		{Path: path(1, 0), Seq: 6, Min: 1 << 40},
	} {
		changes := d.Changes()
		done(t, l.SetControl(c))
		elder := d.Crash()
		c.Seq = uint64(i + 2)
		if !alike(l.Control(), c) || !slices.Equal(l.Path(), c.Path) || d.Changes() != changes+2 {
			t.Error(i, l.Control(), d.Changes()-changes)
		}
		has(t, d, "control", int(c.Seq%2), wiredOf(c).sector())
		if m := opened(t, d.Crash()); !alike(m.Control(), c) {
			t.Error(i, m.Control())
		}
		if listed(elder) != "control 2, log.1 1, " {
			t.Error(listed(elder))
		}
	}
}

func TestSetControlRefused(t *testing.T) {
	d, l := made(t, 99)
	notes(t, l, 3)
	done(t, l.Branch(2))
	notes(t, l, 1)
	laid(t, l, note(9)) // it does not last
	own := path(1, 0, 2, 81)
	for i, c := range []api.Control{
		{},
		{Path: path(1, 0)},
		{Path: path(2, 81)},
		{Path: path(1, 0, 2, 80)},
		{Path: path(1, 0, 3, 81)},
		{Path: path(1, 0, 2, 81, 3, 81)},
		{Path: own, Redo: 109},
		{Path: own, Redo: 135},
		{Path: own, Redo: math.MaxUint64},
		{Path: own, Rank: -1},
		{Path: own, Rank: 2},
		{Path: own, Rank: 256},
		{Path: own, Rank: 257},
		{Path: own, Rank: math.MinInt},
	} {
		was := slices.Clone(c.Path)
		refused(t, d, l, api.ErrArg, func() api.Errno { return l.SetControl(c) })
		if !slices.Equal(c.Path, was) {
			t.Error("the path is changed", i)
		}
	}
	done(t, l.SetControl(api.Control{Path: own, Redo: 108, Rank: 1}))
	at(t, l, 135, 108)
	d.Fuse(0)
	is(t, l.SetControl(api.Control{Path: own, Redo: 109}), api.ErrArg)
	refusedDead(t, l, func() api.Errno { return l.SetControl(api.Control{Path: own, Redo: 1}) })
}

func TestSetControlOfAFullDisk(t *testing.T) {
	d, l := made(t, 2)
	notes(t, l, 1)
	refused(t, d, l, api.ErrFull, func() api.Errno { return l.SetControl(l.Control()) })
	refused(t, d, l, api.ErrArg, func() api.Errno { return l.SetControl(api.Control{}) })
	d.Fuse(0)
	refused(t, d, l, api.ErrFull, func() api.Errno { return l.SetControl(l.Control()) })
}

// TestControlsAreTheCallers: what is answered, and what was handed in.
func TestControlsAreTheCallers(t *testing.T) {
	_, l := made(t, 99)
	done(t, l.Branch(2))
	c, p := l.Control(), l.Path()
	done(t, l.SetControl(c))
	c.Path[0].From, p[1].Timeline = 9, 9
	c, p = l.Control(), l.Path()
	if !slices.Equal(c.Path, path(1, 0, 2, 0)) || !slices.Equal(p, c.Path) {
		t.Error(c, p)
	}
	p = append(p[:1], api.Fork{Timeline: 8, From: 8})
	if !slices.Equal(l.Path(), path(1, 0, 2, 0)) {
		t.Error(p)
	}
}

// found is the control that is found where the control's file has these two sectors, on a disk with a log of three notes; none, if it is corrupt.
func found(t *testing.T, sectors [2]api.Sector) (api.Control, bool) {
	t.Helper()
	d, l := made(t, 99)
	notes(t, l, 3)
	for k, s := range sectors {
		done(t, d.Spoil("control", k, s))
	}
	was := d.Copy()
	m, e := log.Open(d)
	for k, s := range sectors {
		has(t, d, "control", k, s)
	}
	if e == api.ErrCorrupt && m == nil && d.Same(was) {
		return api.Control{}, false
	}
	if e != api.OK {
		t.Error(e)
	}
	return m.Control(), true
}

func TestNewerControl(t *testing.T) {
	sectorOf := func(seq, min uint64) api.Sector {
		return wiredOf(api.Control{Seq: seq, Path: path(1, 0), Min: min}).sector()
	}
	var none api.Sector
	bad := turned(sectorOf(9, 9), 40)
	for i, x := range []struct {
		even, odd api.Sector
		seq       uint64
		ok        bool
	}{
		{none, none, 0, false},
		{bad, none, 0, false},
		{none, bad, 0, false},
		{bad, bad, 0, false},
		{none, sectorOf(1, 7), 1, true},
		{sectorOf(2, 7), none, 2, true},
		{sectorOf(0, 7), none, 0, true},
		{sectorOf(2, 7), sectorOf(1, 6), 2, true},
		{sectorOf(2, 7), sectorOf(3, 6), 3, true},
		{sectorOf(4, 7), sectorOf(3, 6), 4, true},
		{sectorOf(2, 7), sectorOf(255, 6), 255, true},
		{sectorOf(256, 7), sectorOf(255, 6), 256, true},
		{sectorOf(1<<63, 7), sectorOf(1, 6), 1 << 63, true},
		{sectorOf(1<<63, 7), sectorOf(1<<63-1, 6), 1 << 63, true},
		{sectorOf(2, 7), sectorOf(math.MaxUint64, 6), math.MaxUint64, true},
		{sectorOf(2, 7), turned(sectorOf(3, 6), 20), 2, true},
		{turned(sectorOf(2, 7), 20), sectorOf(1, 6), 1, true},
		{turned(sectorOf(4, 7), 20), sectorOf(3, 6), 3, true},
		{sectorOf(2, 7), bad, 2, true},
		// One that stands in the other one's place.
		{sectorOf(3, 7), none, 0, false},
		{none, sectorOf(4, 7), 0, false},
		{sectorOf(2, 7), sectorOf(4, 7), 2, true},
		{sectorOf(3, 7), sectorOf(3, 7), 3, true},
	} {
		c, ok := found(t, [2]api.Sector{x.even, x.odd})
		if ok != x.ok || c.Seq != x.seq {
			t.Errorf("%d: %d, %t", i, c.Seq, ok)
		}
	}
}

// TestNextSeq: behind one control alone the next one stands in the other sector.
func TestNextSeq(t *testing.T) {
	for seq := range uint64(4) {
		d, l := made(t, 99)
		c := l.Control()
		c.Seq, c.Min = seq+4, 3
		done(t, d.Spoil("control", 0, api.Sector{}), d.Spoil("control", 1, api.Sector{}), d.Spoil("control", int(seq%2), wiredOf(c).sector()))
		l = opened(t, d)
		c.Min = 8
		done(t, l.SetControl(c))
		c.Seq++
		has(t, d, "control", int(c.Seq%2), wiredOf(c).sector())
		if m := opened(t, d.Crash()); !alike(m.Control(), c) {
			t.Error(m.Control())
		}
	}
}

// TestGoodControls: which sectors are a control, and what they tell.
func TestGoodControls(t *testing.T) {
	base := wiredOf(api.Control{Seq: 5, Path: path(1, 0), Redo: 27, Min: 9, Rank: 1})
	with := func(change func(w *wired)) api.Sector {
		w := base
		change(&w)
		return w.sector()
	}
	withPath := func(p []api.Fork) api.Sector {
		return with(func(w *wired) { w.path, w.forks = p, byte(len(p)) })
	}
	var none api.Sector
	for i, x := range []struct {
		s  api.Sector
		ok bool
	}{
		{base.sector(), true},
		{with(func(w *wired) { w.lost = 1 }), true},
		{with(func(w *wired) { w.lost = 2 }), false},
		{with(func(w *wired) { w.lost = 255 }), false},
		{with(func(w *wired) { w.rank = 0 }), true},
		{with(func(w *wired) { w.rank = 2 }), false},
		{with(func(w *wired) { w.rank = 255 }), false},
		{with(func(w *wired) { w.magic = "understuds" }), false},
		{with(func(w *wired) { w.magic = "Understudy" }), false},
		{with(func(w *wired) { w.magic = "" }), false},
		{with(func(w *wired) { w.forks = 0 }), false},
		{with(func(w *wired) { w.forks = 2 }), false},
		{with(func(w *wired) { w.forks = 18 }), false},
		{with(func(w *wired) { w.forks = 255 }), false},
		{with(func(w *wired) { w.path = nil }), false},
		{withPath(nil), false},
		{withPath(path(2, 0)), false},
		{withPath(path(1, 1)), false},
		{withPath(path(1, 0, 1, 0)), false},
		{withPath(path(1, 0, 0, 0)), false},
		{withPath(path(1, 0, 1<<31, 0)), false},
		{withPath(longPath(17)), false},
		{withPath(longPath(18)), false},
		{withPath(path(1, 0, 2, 1<<62+1)), false},
	} {
		if _, ok := found(t, [2]api.Sector{none, x.s}); ok != x.ok {
			t.Error(i, ok)
		}
	}
	size := len(base.bytes())
	for i := range base.sector() { // whatever byte is another one: of it, of its sum, of the noughts behind
		if c, ok := found(t, [2]api.Sector{none, turned(base.sector(), i)}); ok {
			t.Errorf("byte %d of %d turned: %v", i, size, c)
		}
	}
}

// opensAs is a disk that has a control of that path, and the files of these sizes, of noughts: nothing in them is a record.
func opensAs(t *testing.T, c api.Control, sizes map[uint64]int) *disk.Disk {
	t.Helper()
	d := newDisk(t, 9999)
	done(t, d.Make("control"), d.Write("control", int(c.Seq%2), wiredOf(c).sector()), d.Sync("control"))
	for timeline, size := range sizes {
		from := c.Path[slices.IndexFunc(c.Path, func(f api.Fork) bool { return f.Timeline == timeline })].From
		name := fileOf(timeline)
		done(t, d.Make(name))
		for k := 0; k*most < size; k++ {
			done(t, d.Write(name, k, piece(from+uint64(k*most), make([]byte, min(most, size-k*most)))))
		}
		done(t, d.Sync(name))
	}
	return d
}

// TestFilesOfThePath: each must be there, and hold what is its own.
func TestFilesOfThePath(t *testing.T) {
	for i, x := range []struct {
		p     []api.Fork
		redo  uint64
		sizes map[uint64]int
		ok    bool
	}{
		{path(1, 0), 0, map[uint64]int{1: 0}, true},
		{path(1, 0), 0, map[uint64]int{}, false},
		{path(1, 0, 2, 500), 500, map[uint64]int{1: 500, 2: 0}, true},
		{path(1, 0, 2, 500), 500, map[uint64]int{1: 500}, false},
		{path(1, 0, 2, 500), 500, map[uint64]int{2: 0}, false},
		{path(1, 0, 2, 500), 500, map[uint64]int{1: 499, 2: 0}, false},
		{path(1, 0, 2, 500), 500, map[uint64]int{1: 501, 2: 0}, true},
		{path(1, 0, 2, 500), 500, map[uint64]int{1: 2000, 2: 0}, true},
		{path(1, 0, 2, 500), 501, map[uint64]int{1: 2000, 2: 0}, false},
		{path(1, 0, 2, 500), 501, map[uint64]int{1: 500, 2: 1}, true},
		{path(1, 0, 2, 500), 1000, map[uint64]int{1: 500, 2: 500}, true},
		{path(1, 0, 2, 500), 1000, map[uint64]int{1: 500, 2: 499}, false},
		{path(1, 0, 2, 492), 492, map[uint64]int{1: 492, 2: 0}, true},
		{path(1, 0, 2, 492), 492, map[uint64]int{1: 491, 2: 0}, false},
		{path(1, 0, 2, 0), 0, map[uint64]int{1: 0, 2: 0}, true},
		{path(1, 0, 2, 0), 0, map[uint64]int{2: 0}, false},
		{path(1, 0, 2, 0, 3, 30), 30, map[uint64]int{1: 0, 2: 30, 3: 0}, true},
		{path(1, 0, 2, 0, 3, 30), 30, map[uint64]int{1: 30, 2: 29, 3: 0}, false},
		{path(1, 0, 2, 30, 3, 30), 30, map[uint64]int{1: 30, 2: 0, 3: 0}, true},
		{path(1, 0, 2, 30, 3, 30), 30, map[uint64]int{1: 30, 3: 0}, false},
		{path(1, 0, 2, 30, 3, 31), 30, map[uint64]int{1: 30, 2: 0, 3: 0}, false},
		{path(1, 0, 2, 1<<62), 0, map[uint64]int{1: 500, 2: 0}, false},
	} {
		d := opensAs(t, api.Control{Seq: 5, Path: x.p, Redo: x.redo}, x.sizes)
		if !x.ok {
			corrupt(t, d)
			continue
		}
		l := opened(t, d)
		at(t, l, x.redo, x.redo)
		if !slices.Equal(l.Path(), x.p) {
			t.Error(i, l.Path())
		}
	}
}

// TestBytesEndWithASector that is not full, whatever stands behind it.
func TestBytesEndWithASector(t *testing.T) {
	for count, want := range map[int]uint64{0: 0, 1: 1, 245: 245, 246: 492} {
		for redo := range uint64(494) {
			d := opensAs(t, api.Control{Seq: 5, Path: path(1, 0), Redo: redo}, map[uint64]int{1: 492})
			done(t, d.Spoil("log.1", 0, piece(0, make([]byte, count))))
			if l, e := log.Open(d); (e == api.OK) != (redo <= want) || e != api.OK && e != api.ErrCorrupt || e == api.OK && l.End() != redo {
				t.Error(count, redo, e)
			}
		}
	}
}

// TestEndAheadOfTheLastFork: where an elder file is damaged, the log ends ahead of that, and its last file is emptied; it can be cut to what is whole.
func TestEndAheadOfTheLastFork(t *testing.T) {
	for _, room := range []int{0, 9} {
		d, l := made(t, 6+room)
		notes(t, l, 10)
		done(t, l.Branch(2))
		notes(t, l, 10)
		done(t, l.SetControl(l.Control()))
		b := all(t, l)
		done(t, d.Spoil("log.1", 0, turned(piece(0, b[:246]), 10+60)))
		l = opened(t, d)
		at(t, l, 54, 54)
		has(t, d, "log.2", 0, api.Sector{})
		has(t, d, "log.2", 1, api.Sector{})
		refused(t, d, l, api.ErrArg, func() api.Errno { return l.Branch(3) })
		refused(t, d, l, api.ErrArg, func() api.Errno { return l.Cut(54, l.Path()) })
		cut := d.Crash()
		m := opened(t, cut)
		done(t, m.Cut(54, path(1, 0)))
		tidy(t, cut, 0, b[:54])
		laid(t, l, note(77))
		refused(t, d, l, api.ErrState, func() api.Errno { return l.Cut(54, path(1, 0)) })
		done(t, l.Flush(81))
		at(t, l, 81, 81)
		laid(t, l, sized(300, 1))
		done(t, l.Flush(381))
		has(t, d, "log.2", 0, piece(270, bytesOf(t, 81, sized(300, 1))[189:]))
		done(t, l.Cut(54, path(1, 0)))
		notes(t, l, 3)
		m = opened(t, d.Crash())
		if !bytes.Equal(all(t, m), append(b[:54:54], bytesOf(t, 54, note(1), note(2), note(3))...)) {
			t.Error(m.End())
		}
	}
}
