package pool_test

import (
	"testing"

	"understudy/api"
	"understudy/disk"
	"understudy/log"
	"understudy/page"
	"understudy/pool"
)

// A disk that is full, a log that is full: what they refuse changes nothing (P8.1 to P8.4).

// tight has a disk that is soon full.
func tight(t *testing.T, frames int) (*disk.Disk, *pool.Pool) {
	t.Helper()
	d, l := made(t, 60)
	return d, pooled(t, d, l, frames)
}

// need wants that the call is refused, and changes nothing, with less room than that, also without power; and is done with so much.
func need(t *testing.T, room int, build func(t *testing.T) (*disk.Disk, *pool.Pool), call func(p *pool.Pool) api.Errno) {
	t.Helper()
	for has := range room {
		d, p := build(t)
		fill(t, d, has)
		refused(t, d, p, api.ErrFull, func() api.Errno { return call(p) })
		d.Fuse(0)
		d.Sync("fill")
		refused(t, d, p, api.ErrFull, func() api.Errno { return call(p) })
		for n := range api.Pages {
			if _, e := p.Page(n); e != api.OK && e != api.ErrFull && e != api.ErrDead {
				t.Error(n, e)
			}
		}
	}
	d, p := build(t)
	fill(t, d, room)
	is(t, call(p), api.OK)
	if d.Room() != 0 {
		t.Error("so much was not needed", d.Room())
	}
}

// four has four pages in memory, of which the first one is dirty, and goes next.
func four(t *testing.T) (*disk.Disk, *pool.Pool) {
	t.Helper()
	d, p := tight(t, 4)
	set(t, p, 1, 300, 1)
	ask(t, p, 2, 3, 4)
	return d, p
}

func TestFullGoes(t *testing.T) {
	for name, call := range map[string]func(p *pool.Pool) api.Errno{
		"Page":  func(p *pool.Pool) api.Errno { _, e := p.Page(9); return e },
		"Put":   func(p *pool.Pool) api.Errno { return p.Put(9, filled(1)) },
		"same":  func(p *pool.Pool) api.Errno { return p.Put(9, api.Page{}) },
		"Image": func(p *pool.Pool) api.Errno { return p.Image(9) },
		"Lay":   func(p *pool.Pool) api.Errno { return p.Lay(9, filled(1), 5) },
		"image": func(p *pool.Pool) api.Errno { _, e := p.Apply(image(0, 9, filled(1)), 5); return e },
		"piece": func(p *pool.Pool) api.Errno { _, e := p.Apply(change(0, 9, 12, 1), 5); return e },
	} {
		t.Run(name, func(t *testing.T) {
			need(t, 5+4, four, call) // sectors of the log, and of the page
		})
	}
}

func TestFullOfSectorsThatCount(t *testing.T) {
	page9 := func(p *pool.Pool) api.Errno { _, e := p.Page(9); return e }
	for count := range 5 {
		need(t, 5+4-count, func(t *testing.T) (*disk.Disk, *pool.Pool) {
			d, p := four(t)
			for k := range count {
				done(t, d.Spoil("data", 4+[]int{3, 0, 2, 1}[k], api.Sector{}))
			}
			return d, p
		}, page9)
		need(t, 4-count, func(t *testing.T) (*disk.Disk, *pool.Pool) {
			d, p := four(t)
			for k := range count {
				done(t, d.Spoil("data", 4+[]int{1, 3, 0, 2}[k], api.Sector{}))
			}
			done(t, p.Log().Flush(p.Log().End()), p.Image(3)) // the image of 3 need not last as yet
			return d, p
		}, func(p *pool.Pool) api.Errno {
			ask(t, p, 2, 3, 4)
			return page9(p)
		})
	}
	// One that is not dirty needs nothing.
	d, p := tight(t, 4)
	ask(t, p, 1, 2, 3, 4)
	fill(t, d, 0)
	ask(t, p, 5, 6, 7)
	done(t, p.Lay(4, filled(1), 0), p.Put(5, filled(1)), p.Put(8, filled(1)), p.Put(9, filled(1)))
	if p.Frames() != 4 {
		t.Error(p.Frames())
	}
}

func TestFullWrite(t *testing.T) {
	build := func(t *testing.T) (*disk.Disk, *pool.Pool) {
		d, p := tight(t, 6)
		set(t, p, 1, 300, 1)
		done(t, p.Write())
		ask(t, p, 0)
		set(t, p, 1, 301, 1)
		set(t, p, 7, 301, 1)
		done(t, p.Lay(3, filled(1), 1))
		return d, p
	}
	// The log has 1053 bytes, of which five sectors are there; then 1085 more.
	need(t, 4+8, build, (*pool.Pool).Write)
	need(t, 4+8+1, build, func(p *pool.Pool) api.Errno { return p.Check(4, nil) }) // the other control, too
	lasting := func(t *testing.T) (*disk.Disk, *pool.Pool) {
		d, p := build(t)
		done(t, p.Log().Flush(p.Log().End()))
		return d, p
	}
	need(t, 8, lasting, (*pool.Pool).Write)
	need(t, 8+1, lasting, func(p *pool.Pool) api.Errno { return p.Check(4, nil) }) // 2138 bytes have a sector to themselves and the two records
	need(t, 8+1+2, lasting, func(p *pool.Pool) api.Errno { return p.Check(61, running(50)) })
	second := func(t *testing.T) (*disk.Disk, *pool.Pool) {
		d, p := build(t)
		done(t, p.Check(4, nil))
		done(t, p.Lay(100, filled(1), 1), p.Lay(1, filled(1), 1))
		return d, p
	}
	need(t, 4+1, second, func(p *pool.Pool) api.Errno { return p.Check(4, nil) }) // both controls are there; 16 bytes are left in the log's last sector
	need(t, 4, second, (*pool.Pool).Write)
	clean := func(t *testing.T) (*disk.Disk, *pool.Pool) {
		return tight(t, 4)
	}
	need(t, 0, clean, (*pool.Pool).Write)
	need(t, 2, clean, func(p *pool.Pool) api.Errno { return p.Check(4, nil) })
}

// running is the xids from 1 to n.
func running(n int) (l []uint64) {
	for i := range n {
		l = append(l, uint64(i+1))
	}
	return l
}

// TestFullCheck: refused, it began not: no image is due.
func TestFullCheck(t *testing.T) {
	d, p := tight(t, 4)
	set(t, p, 1, 300, 1)
	fill(t, d, 5)
	refused(t, d, p, api.ErrFull, func() api.Errno { return p.Check(1, nil) })
	is(t, p.Check(0, nil), api.ErrArg)
	set(t, p, 1, 300, 2)
	told(t, p.Log(), 1053, change(0, 1, 300, 2))
}

// TestFullBranch: what is asked is how long the current timeline's file will be.
func TestFullBranch(t *testing.T) {
	need(t, 5+4, func(t *testing.T) (*disk.Disk, *pool.Pool) {
		d, p := tight(t, 4)
		set(t, p, 1, 300, 1)
		done(t, p.Check(1, nil), p.Log().Branch(7))
		set(t, p, 2, 300, 1)
		ask(t, p, 3, 4, 1)
		return d, p
	}, func(p *pool.Pool) api.Errno { _, e := p.Page(9); return e })
}

// TestOtherDisk: a log that stands on another disk needs no room on this one.
func TestOtherDisk(t *testing.T) {
	build := func(t *testing.T) (*disk.Disk, *pool.Pool) {
		_, l := made(t, 99)
		d, e := disk.New(4096)
		done(t, e)
		p := pooled(t, d, l, 4)
		set(t, p, 1, 300, 1)
		ask(t, p, 2, 3, 4)
		return d, p
	}
	for has := range 4 {
		d, p := build(t)
		fill(t, d, has)
		_, e := p.Page(9)
		is(t, e, api.ErrFull)
		is(t, p.Write(), api.ErrFull)
		is(t, p.Check(1, nil), api.ErrFull)
	}
	d, p := build(t)
	fill(t, d, 4)
	done(t, p.Check(1, nil))
	if p.Log().Lasts() != p.Log().End() || p.Log().Control().Redo != 1053 {
		t.Error(p.Log().Control())
	}
}

// long is a pool whose log ends at that place, and lasts as far as one file takes it, on another timeline from there on.
func long(t *testing.T, end uint64, branch bool) (*disk.Disk, *pool.Pool) {
	t.Helper()
	d, l := made(t, 1<<18)
	big, small := change(0, 7, 12, make([]byte, 969)...), change(0, 7, 12, 1)
	flushed := !branch
	for l.End()+1032 <= end {
		_, _, e := l.Append(big) // 1000 bytes
		done(t, e)
		if !flushed && l.End() > 1<<20 {
			done(t, l.Flush(l.End()), l.Branch(2))
			flushed = true
		}
	}
	small.Bytes = make([]byte, end-l.End()-31)
	_, _, e := l.Append(small)
	done(t, e)
	if l.End() != end {
		t.Fatal(l.End())
	}
	return d, pooled(t, d, l, 4)
}

// TestLogFull: what the log does not take changes nothing, not even who is in memory.
func TestLogFull(t *testing.T) {
	const most = api.MaxLog
	d, p := long(t, most-1053, true)
	l := p.Log()
	done(t, p.Lay(1, filled(1), l.End()), l.Flush(l.End()))
	ask(t, p, 2, 3, 4)
	d.Fuse(-1)
	changes := d.Changes()
	done(t, p.Image(4)) // it has room just yet
	if l.End() != most || d.Changes() != changes {
		t.Error(l.End())
	}
	for _, call := range []func() api.Errno{
		func() api.Errno { return p.Put(4, filled(1)) },
		func() api.Errno { return p.Put(9, filled(1)) }, // 1, which is dirty, would go
		func() api.Errno { return p.Put(2, filled(1)) },
		func() api.Errno { return p.Image(9) },
		func() api.Errno { return p.Image(2) },
		func() api.Errno { return p.Check(1, nil) },
	} {
		refused(t, d, p, api.ErrFull, call)
	}
	is(t, p.Check(0, nil), api.ErrArg)
	is(t, p.Put(-1, filled(1)), api.ErrArg)
	lay(t, d, 9, filled(1))
	is(t, p.Put(9, filled(2)), api.ErrCorrupt)
	p.By(4001)
	is(t, p.Put(4, filled(1)), api.ErrArg)
	p.By(1)
	done(t, p.Put(4, api.Page{}), p.Image(4), p.Write())
	memory(t, d, p, 1, 2, 3, 4)
}

// TestLogAlmostFull: a byte more or less.
func TestLogAlmostFull(t *testing.T) {
	for _, x := range []struct {
		left uint64
		call func(p *pool.Pool) api.Errno
	}{
		{1053, func(p *pool.Pool) api.Errno { return p.Put(1, filled(1)) }},
		{1053, func(p *pool.Pool) api.Errno { return p.Image(1) }},
		{32, func(p *pool.Pool) api.Errno { return p.Put(2, with(api.Page{}, 20, 1)) }},
		{60, func(p *pool.Pool) api.Errno { return p.Check(3, nil) }},
		{76, func(p *pool.Pool) api.Errno { return p.Check(3, []uint64{1, 2}) }},
	} {
		for _, less := range []uint64{1, 0} {
			d, p := long(t, api.MaxLog-x.left+less, true)
			_, e := p.Apply(image(0, 2, api.Page{}), 5) // of 2 no image is due
			done(t, e)
			if less > 0 {
				refused(t, d, p, api.ErrFull, func() api.Errno { return x.call(p) })
				continue
			}
			is(t, x.call(p), api.OK)
			if p.Log().End() != api.MaxLog {
				t.Error(p.Log().End())
			}
		}
	}
}

// TestFileFull: a file has so many sectors at most, whatever room the disk has.
func TestFileFull(t *testing.T) {
	const most = 246 * api.MaxSectors
	d, p := long(t, most+1, false)
	done(t, p.Lay(1, filled(1), 0), p.Write()) // this one does not ask that the log lasts
	done(t, p.Lay(1, filled(2), 1))
	refused(t, d, p, api.ErrFull, p.Write)
	refused(t, d, p, api.ErrFull, func() api.Errno { return p.Check(1, nil) })
	ask(t, p, 2, 3, 4)
	refused(t, d, p, api.ErrFull, func() api.Errno { _, e := p.Page(5); return e })

	d, p = long(t, most-60, false)
	done(t, p.Lay(1, filled(2), 1), p.Check(1, nil))
	if p.Log().Lasts() != most || d.Count("log.1") != api.MaxSectors {
		t.Error(p.Log().Lasts())
	}
	_, p = long(t, most-59, false)
	is(t, p.Check(1, nil), api.ErrFull)
}

// TestOddLog: a log that ends ahead of where its current timeline begins, as an elder file was damaged.
func TestOddLog(t *testing.T) {
	d, p := tight(t, 4)
	for n := range 3 {
		set(t, p, n, 300, 1)
	}
	done(t, p.Log().Flush(p.Log().End()), p.Log().Branch(2))
	s, _ := d.Read("log.1", 5)
	s[100] ^= 1
	done(t, d.Spoil("log.1", 5, s))
	l, e := log.Open(d)
	done(t, e)
	if l.End() != 1053 || l.Path()[1].From != 3159 {
		t.Fatal(l.End(), l.Path())
	}
	p = pooled(t, d, l, 4)
	set(t, p, 1, 300, 2)
	ask(t, p, 2, 3, 4, 5)
	if page.LSN(stands(t, d, 1)) != 2106 || l.Lasts() != 2106 {
		t.Error(l.Lasts())
	}
}
