package pool_test

import (
	"slices"
	"testing"

	"understudy/api"
	"understudy/disk"
	"understudy/page"
	"understudy/pool"
)

// Promise P8.4.

// checked is the two records of a checkpoint.
func checked(redo, next uint64, running ...uint64) []api.Record {
	return []api.Record{{Kind: api.RecCheck, Redo: redo, Next: next}, {Kind: api.RecRunning, Next: next, Subs: running}}
}

func TestCheck(t *testing.T) {
	d, p := begun(t, 8)
	l := p.Log()
	for _, n := range []int{9, 2, 5, 127, 0} {
		set(t, p, n, 300, byte(n+1))
	}
	paged(t, p, 1)
	end, c, changes := l.End(), l.Control(), d.Changes()
	done(t, p.Check(9, []uint64{3, 7}))
	told(t, l, end, checked(end, 9, 3, 7)...)
	if l.Lasts() != l.End() {
		t.Error("the log does not last")
	}
	dirty(t, p)
	if p.Frames() != 6 {
		t.Error("a page went")
	}
	for _, n := range []int{9, 2, 5, 127, 0} {
		if stands(t, d, n) != paged(t, p, n) {
			t.Error(n, "does not stand there")
		}
	}
	for k := range 512 {
		if lasts, _ := d.Lasts("data", k); !lasts {
			t.Error(k, "does not last")
		}
	}
	got := l.Control()
	if got.Seq != c.Seq+1 || got.Redo != end || got.Min != c.Min || got.Lost || got.Rank != 0 || !slices.Equal(got.Path, c.Path) {
		t.Error(got)
	}
	// 22 sectors of the log, and 5 pages; three syncs; a control.
	if n := d.Changes() - changes; n != int(l.End()+245)/246+20+3+1 {
		t.Error(n)
	}
	end = l.End()
	set(t, p, 5, 300, 1)
	if r := logged(t, l, end); len(r) != 1 || r[0].Kind != api.RecImage {
		t.Error("no image was due", short(r))
	}
}

// TestCheckKeeps: of the control it sets Redo alone.
func TestCheckKeeps(t *testing.T) {
	d, p := begun(t, 4)
	l := p.Log()
	done(t, l.SetControl(api.Control{Path: l.Path(), Min: 77, Lost: true, Rank: 1}))
	set(t, p, 1, 20, 1)
	done(t, l.Flush(l.End()), l.Branch(5), p.Check(4001, nil))
	c := l.Control()
	if c.Min != 77 || !c.Lost || c.Rank != 1 || c.Redo != 1053 || c.Seq != 4 || !slices.Equal(c.Path, []api.Fork{{Timeline: 1}, {Timeline: 5, From: 1053}}) {
		t.Error(c)
	}
	if !d.Has("log.5") || d.Count("log.5") != 1 {
		t.Error("its records do not stand in the current timeline's file")
	}
}

// TestCheckNothing: a checkpoint of nothing is one.
func TestCheckNothing(t *testing.T) {
	d, p := begun(t, 4)
	l := p.Log()
	for i := range 3 {
		end, changes := l.End(), d.Changes()
		done(t, p.Check(1, nil))
		told(t, l, end, checked(end, 1)...)
		if l.Control().Redo != end || end != uint64(60*i) || d.Changes() != changes+1+1+1+2 {
			t.Error(i, l.Control(), d.Changes()-changes)
		}
	}
}

func TestCheckNext(t *testing.T) {
	many := make([]uint64, 257)
	for i := range many {
		many[i] = uint64(i + 1)
	}
	for _, x := range []struct {
		next    uint64
		running []uint64
		want    api.Errno
	}{
		{0, nil, api.ErrArg},
		{1, nil, api.OK},
		{2, []uint64{1}, api.OK},
		{4000, []uint64{}, api.OK},
		{4001, nil, api.OK},
		{4001, []uint64{1, 4000}, api.OK},
		{4002, nil, api.ErrArg},
		{1<<64 - 1, nil, api.ErrArg},
		{1, []uint64{1}, api.ErrArg},
		{9, []uint64{0}, api.ErrArg},
		{9, []uint64{0, 1}, api.ErrArg},
		{9, []uint64{2, 1}, api.ErrArg},
		{9, []uint64{2, 2}, api.ErrArg},
		{9, []uint64{8}, api.OK},
		{9, []uint64{9}, api.ErrArg},
		{9, []uint64{1, 10}, api.ErrArg},
		{4001, []uint64{4001}, api.ErrArg},
		{4001, many[:256], api.OK},
		{4001, many, api.ErrArg},
		{257, many[:256], api.OK},
		{256, many[:256], api.ErrArg},
	} {
		d, p := begun(t, 4)
		set(t, p, 1, 20, 1)
		if x.want == api.OK {
			done(t, p.Check(x.next, x.running))
			told(t, p.Log(), 1053, checked(1053, x.next, x.running...)...)
			continue
		}
		refused(t, d, p, x.want, func() api.Errno { return p.Check(x.next, x.running) })
		set(t, p, 1, 20, 2)
		told(t, p.Log(), 1053, change(0, 1, 20, 2)) // no image is due
	}
}

func TestWrite(t *testing.T) {
	d, p := begun(t, 8)
	l := p.Log()
	for _, n := range []int{9, 2, 5} {
		set(t, p, n, 300, byte(n+1))
	}
	paged(t, p, 1)
	end, seq, changes := l.End(), l.Control().Seq, d.Changes()
	done(t, p.Write())
	if l.End() != end || l.Lasts() != end || l.Control().Seq != seq || p.Frames() != 4 {
		t.Error(l.End(), l.Lasts(), p.Frames())
	}
	if n := d.Changes() - changes; n != 13+1+12+1 {
		t.Error(n)
	}
	for _, n := range []int{9, 2, 5} {
		if stands(t, d, n) != paged(t, p, n) {
			t.Error(n, "does not stand there")
		}
	}
	for k := range 512 {
		if lasts, _ := d.Lasts("data", k); !lasts {
			t.Error(k, "does not last")
		}
	}
	if d.Count("data") != 40 || stands(t, d, 1) != (api.Page{}) {
		t.Error("one that is not dirty was written")
	}
	dirty(t, p)
	end = l.End()
	set(t, p, 5, 300, 1)
	told(t, l, end, change(0, 5, 300, 1)) // it is no checkpoint
	changes = d.Changes()
	done(t, l.Flush(l.End()), p.Write())
	if n := d.Changes() - changes; n != 2+4+1 {
		t.Error(n)
	}
}

// TestWriteNothing: of no dirty page, the file is synced.
func TestWriteNothing(t *testing.T) {
	d, p := begun(t, 4)
	set(t, p, 1, 300, 1)
	ask(t, p, 2, 3, 4, 5) // 1 went
	ask(t, p, 1)
	dirty(t, p)
	if lasts, _ := d.Lasts("data", 4); lasts {
		t.Error("it lasts already")
	}
	changes := d.Changes()
	done(t, p.Write())
	if lasts, _ := d.Lasts("data", 4); !lasts || d.Changes() != changes+1 {
		t.Error(d.Changes() - changes)
	}
}

// writes is the data's sectors that were written since the last sync.
func writes(t *testing.T, d *disk.Disk) (sectors []int) {
	t.Helper()
	for k := range 512 {
		if lasts, e := d.Lasts("data", k); !lasts || e != api.OK {
			sectors = append(sectors, k)
		}
	}
	return sectors
}

// TestWriteRises: one page behind the other, one sector behind the other, the file's sync last.
func TestWriteRises(t *testing.T) {
	all := []int{8, 9, 10, 11, 20, 21, 22, 23, 36, 37, 38, 39}
	for n := range 28 {
		d, p := begun(t, 8)
		for _, n := range []int{9, 2, 5} {
			set(t, p, n, 300, byte(n+1))
		}
		d.Fuse(n)
		e := p.Write()
		want, lasts := all[:max(min(n-13, 12), 0)], uint64(0)
		if n >= 14 {
			lasts = p.Log().End()
		}
		switch {
		case n == 27: // 13 sectors of the log and their sync, 12 sectors and their sync
			is(t, e, api.OK)
			dirty(t, p)
			want = nil
		default:
			is(t, e, api.ErrDead)
			dirty(t, p, 2, 5, 9)
		}
		if got := writes(t, d); !slices.Equal(got, want) || p.Log().Lasts() != lasts {
			t.Error(n, got, want)
		}
	}
}

// TestCheckInTurn: first the log lasts, then pages are written, then they last, then the control is written.
func TestCheckInTurn(t *testing.T) {
	for n := range 27 {
		d, p := begun(t, 8)
		set(t, p, 9, 300, 1)
		set(t, p, 2, 300, 1)
		l := p.Log()
		end := l.End()
		d.Fuse(n)
		e := p.Check(5, []uint64{4})
		told(t, l, end, checked(end, 5, 4)...)
		c := l.Control()
		switch lasts, w := l.Lasts() == l.End(), len(writes(t, d)); {
		case n < 10: // 9 sectors of the log, and their sync
			if w != 0 || lasts || c.Seq != 1 {
				t.Error(n, w, lasts)
			}
		case n < 19: // 8 of pages, and their sync
			if w != min(n-9, 8) || !lasts || c.Seq != 1 {
				t.Error(n, w, lasts)
			}
			dirty(t, p, 2, 9)
		case n < 21: // the control, and its sync
			if w != 0 || !lasts || c.Seq != 1 || c.Redo != 0 {
				t.Error(n, w, lasts)
			}
			dirty(t, p)
		default:
			is(t, e, api.OK)
			if c.Seq != 2 || c.Redo != end {
				t.Error(n, c)
			}
			continue
		}
		is(t, e, api.ErrDead)
	}
}

// TestNoPower: what needs the disk is refused, and changes nothing; what is in memory goes on.
func TestNoPower(t *testing.T) {
	d, p := begun(t, 4)
	for n := range 4 {
		set(t, p, n, 300, 9)
	}
	done(t, p.Check(3, nil))
	set(t, p, 0, 300, 8)
	d.Fuse(0)
	d.Sync("data")
	for _, call := range []func() api.Errno{
		p.Write,
		func() api.Errno { return p.Check(4, []uint64{3}) },
		func() api.Errno { _, e := p.Page(9); return e },
		func() api.Errno { return p.Put(9, filled(1)) },
		func() api.Errno { return p.Put(9, api.Page{}) },
		func() api.Errno { return p.Image(9) },
		func() api.Errno { return p.Lay(9, filled(1), 5) },
	} {
		ask(t, p, 0, 1, 2, 3) // 0, which is dirty, should go
		refused(t, d, p, api.ErrDead, call)
	}
	is(t, p.Check(0, nil), api.ErrArg)
	is(t, p.Put(128, filled(1)), api.ErrArg)
	set(t, p, 0, 300, 7)
	set(t, p, 2, 300, 7)
	dirty(t, p, 0, 2)
	ask(t, p, 0, 2, 3, 9) // 1, which is not dirty, goes
	if paged(t, p, 9) != (api.Page{}) || p.Frames() != 4 {
		t.Error(p.Frames())
	}
	done(t, p.Image(3), p.Lay(3, filled(1), 5))
	memory(t, d, p, 0, 2, 3, 9)
}

// TestNoPowerWrite: without a dirty page, too.
func TestNoPowerWrite(t *testing.T) {
	d, p := begun(t, 4)
	d.Fuse(0)
	refusedAt(t, d, p.Write)
	d, p = begun(t, 4)
	d.Fuse(0)
	d.Sync("data")
	refused(t, d, p, api.ErrDead, p.Write)
	refused(t, d, p, api.ErrDead, func() api.Errno { return p.Check(1, nil) })
}

// refusedAt wants that the power goes in the call.
func refusedAt(t *testing.T, d *disk.Disk, call func() api.Errno) {
	t.Helper()
	is(t, call(), api.ErrDead)
	if !d.Dead() {
		t.Error("the power is there")
	}
}

// TestDirtyAndFrames: as pages come and go.
func TestDirtyAndFrames(t *testing.T) {
	_, p := begun(t, 5)
	look := func(frames int, want ...int) {
		t.Helper()
		if p.Frames() != frames {
			t.Errorf("%d frames, want %d", p.Frames(), frames)
		}
		dirty(t, p, want...)
	}
	look(0)
	set(t, p, 100, 20, 1)
	look(1, 100)
	ask(t, p, 3)
	look(2, 100)
	done(t, p.Image(4))
	look(3, 4, 100)
	done(t, p.Lay(1, filled(1), 3))
	look(4, 1, 4, 100)
	_, e := p.Apply(change(0, 127, 20, 1), 9)
	done(t, e)
	look(5, 1, 4, 100, 127)
	ask(t, p, 9) // 100 goes
	look(5, 1, 4, 127)
	ask(t, p, 10) // 3 goes
	look(5, 1, 4, 127)
	done(t, p.Write())
	look(5)
	set(t, p, 4, 20, 1)
	_, e = p.Apply(image(0, 1, filled(2)), 3000)
	done(t, e)
	_, e = p.Apply(change(0, 127, 20, 3), 9) // its LSN is 9 already
	done(t, e)
	look(5, 1, 4)
	done(t, p.Log().Flush(p.Log().End()))
	look(5, 1, 4)
	set(t, p, 1, 20, 5)
	done(t, p.Check(1, nil))
	look(5)
	done(t, p.Image(4))
	look(5, 4)
	ask(t, p, 20, 21, 22, 23, 24)
	look(5)
}

// TestLog: it is the one that it was given.
func TestLog(t *testing.T) {
	d, l := made(t, 99)
	p := pooled(t, d, l, 4)
	if p.Log() != l {
		t.Error("it is another one")
	}
	set(t, p, 1, 20, 1)
	_, end, e := l.Append(api.Record{Kind: api.RecCommit, Xid: 1})
	done(t, e)
	set(t, p, 1, 20, 2) // behind what others append
	if x := paged(t, p, 1); page.LSN(x) != end+32 {
		t.Error(page.LSN(x))
	}
	var none *pool.Pool
	if none.Log() != nil {
		t.Error("of nil there is a log")
	}
}
