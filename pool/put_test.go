package pool_test

import (
	"testing"

	"understudy/api"
	"understudy/page"
)

// Promise P8.2.

func TestPut(t *testing.T) {
	d, p := begun(t, 4)
	l := p.Log()
	p.By(7)
	first := with(with(api.Page{}, 100, 1), 900, 2)
	done(t, p.Put(40, first))
	told(t, l, 0, image(7, 40, first))
	if x := paged(t, p, 40); x != page.Seal(first, l.End()) || l.End() != 1053 {
		t.Error(page.LSN(x), l.End())
	}
	// The second time it is what differs: from the first byte to the last one, whatever is between.
	second := with(with(first, 200, 5), 203, 6)
	done(t, p.Put(40, second))
	told(t, l, 1053, change(7, 40, 200, 5, 0, 0, 6))
	if x := paged(t, p, 40); x != page.Seal(second, l.End()) || page.LSN(x) != 1053+35 {
		t.Error(page.LSN(x))
	}
	third := with(with(second, 12, 9), 1023, 9)
	done(t, p.Put(40, third))
	told(t, l, 1088, change(7, 40, 12, third[12:]...))
	done(t, p.Put(40, with(third, 1023, 8)))
	told(t, l, 1088+1012+31, change(7, 40, 1023, 8))
	dirty(t, p, 40)
	if d.Changes() != 5 { // of the log's and the data's making
		t.Error(d.Changes())
	}
}

// TestPutSealed: what the page that is put has as its LSN and its sum is of no account.
func TestPutSealed(t *testing.T) {
	_, p := begun(t, 4)
	x := page.Seal(filled(3), 1<<40)
	done(t, p.Put(5, x))
	told(t, p.Log(), 0, image(0, 5, filled(3)))
	if paged(t, p, 5) != page.Seal(filled(3), 1053) {
		t.Error("it is not sealed with the place behind its record")
	}
	y := page.Seal(with(x, 12, 4), 77)
	done(t, p.Put(5, y))
	told(t, p.Log(), 1053, change(0, 5, 12, 4))
	if paged(t, p, 5) != page.Seal(y, 1085) {
		t.Error("it is not sealed with the place behind its record")
	}
}

// TestPutSame: nothing is logged of a page that differs in its LSN and its sum alone.
func TestPutSame(t *testing.T) {
	d, p := begun(t, 4)
	done(t, p.Put(5, api.Page{}), p.Put(5, page.Seal(api.Page{}, 9)), p.Put(5, with(api.Page{}, 11, 1)))
	if p.Log().End() != 0 || p.Dirty() != nil || p.Frames() != 1 || paged(t, p, 5) != (api.Page{}) {
		t.Error(p.Log().End(), p.Dirty(), p.Frames())
	}
	done(t, p.Put(5, filled(1))) // and its image is due still
	told(t, p.Log(), 0, image(0, 5, filled(1)))
	done(t, p.Check(1, nil))
	end, was := p.Log().End(), paged(t, p, 5)
	changes := d.Changes()
	done(t, p.Put(5, was), p.Put(5, filled(1)), p.Put(5, page.Seal(was, 1<<62)), p.Put(5, with(was, 0, 1)), p.Put(5, with(was, 11, was[11]^1)))
	if p.Log().End() != end || paged(t, p, 5) != was || d.Changes() != changes {
		t.Error(p.Log().End())
	}
	dirty(t, p)
	done(t, p.Put(5, with(was, 12, 2)))
	dirty(t, p, 5)
}

func TestBy(t *testing.T) {
	_, p := begun(t, 4)
	l := p.Log()
	set(t, p, 1, 20, 1)
	p.By(1)
	p.By(4000)
	set(t, p, 1, 20, 2)
	done(t, p.Image(2))
	set(t, p, 3, 20, 3)
	p.By(0)
	set(t, p, 1, 20, 4)
	p.By(9)
	p.By(9)
	done(t, p.Image(4))
	told(t, l, 0, image(0, 1, with(api.Page{}, 20, 1)), change(4000, 1, 20, 2), image(4000, 2, api.Page{}),
		image(4000, 3, with(api.Page{}, 20, 3)), change(0, 1, 20, 4), image(9, 4, api.Page{}))
}

// TestByNone: what is no xid is not logged.
func TestByNone(t *testing.T) {
	for _, xid := range []uint64{4001, 1 << 32, 1<<64 - 1} {
		d, p := begun(t, 4)
		set(t, p, 1, 20, 1)
		ask(t, p, 2, 3, 4)
		p.By(xid)
		for _, call := range []func() api.Errno{
			func() api.Errno { return p.Put(1, filled(2)) },
			func() api.Errno { return p.Put(5, filled(2)) },
			func() api.Errno { return p.Image(2) },
			func() api.Errno { return p.Image(5) },
		} {
			refused(t, d, p, api.ErrArg, call)
		}
		done(t, p.Put(1, with(api.Page{}, 20, 1)), p.Image(1)) // there is nothing to log
		_, e := p.Apply(image(0, 6, filled(1)), 5)
		done(t, e, p.Lay(7, filled(1), 6))
		p.By(3)
		done(t, p.Put(1, with(api.Page{}, 20, 2)))
		told(t, p.Log(), 1053, change(3, 1, 20, 2))
	}
}

func TestImage(t *testing.T) {
	_, p := begun(t, 4)
	l := p.Log()
	p.By(5)
	done(t, p.Image(6)) // of one that was never changed
	told(t, l, 0, image(5, 6, api.Page{}))
	if x := paged(t, p, 6); x != page.Seal(api.Page{}, 1053) || page.LSN(x) != 1053 {
		t.Error(page.LSN(x))
	}
	dirty(t, p, 6)
	done(t, p.Image(6), p.Image(6))
	if l.End() != 1053 {
		t.Error("it is not due again")
	}
	set(t, p, 6, 30, 1)
	set(t, p, 7, 30, 1)
	done(t, p.Image(6), p.Image(7)) // of 7 one was logged as it was put
	told(t, l, 1053, change(5, 6, 30, 1), image(5, 7, with(api.Page{}, 30, 1)))
	if x := paged(t, p, 6); page.LSN(x) != 1053+32 {
		t.Error(page.LSN(x))
	}
	// It is as it is, but for its LSN and its sum.
	done(t, p.Check(6, nil))
	end, x := l.End(), paged(t, p, 6)
	dirty(t, p)
	done(t, p.Image(6))
	told(t, l, end, image(5, 6, x))
	if paged(t, p, 6) != page.Seal(x, end+1053) {
		t.Error("it is another one")
	}
	dirty(t, p, 6)
}

// TestImageDue: of each page one, from each checkpoint on, and from where the pool is there.
func TestImageDue(t *testing.T) {
	d, p := begun(t, 4)
	put := func(n int, b byte, want api.RecKind) {
		t.Helper()
		end := p.Log().End()
		set(t, p, n, 20, b)
		if r := logged(t, p.Log(), end); len(r) != 1 || r[0].Kind != want {
			t.Error(n, short(r))
		}
	}
	for b := byte(1); b < 4; b++ {
		for n := range 8 { // more than there are frames: that it went, and was read again, makes no odds
			put(n, 10*b, api.RecImage)
		}
		for n := range 8 {
			put(n, 10*b+1, api.RecChange)
		}
		done(t, p.Write())
		put(3, 10*b+2, api.RecChange)
		put(7, 10*b+2, api.RecChange)
		done(t, p.Check(1, nil))
	}
	put(3, 51, api.RecImage)
	put(3, 52, api.RecChange)
	p.Log().Flush(p.Log().End())
	done(t, p.Write())
	p = pooled(t, d, p.Log(), 4)
	put(3, 53, api.RecImage)
	put(3, 54, api.RecChange)
	is(t, p.Check(0, nil), api.ErrArg)
	put(3, 55, api.RecChange) // a checkpoint that was refused began not
	put(4, 55, api.RecImage)
}

// TestLaidIsDue: what is not logged as an image is none.
func TestLaidIsDue(t *testing.T) {
	_, p := begun(t, 4)
	done(t, p.Lay(5, filled(1), 0))
	_, e := p.Apply(change(0, 5, 12, 9), 7)
	done(t, e, p.Put(5, filled(2)))
	told(t, p.Log(), 0, image(0, 5, filled(2)))
}

func TestPutRefused(t *testing.T) {
	d, p := begun(t, 4)
	lay(t, d, 9, filled(1))
	for n := range 4 {
		set(t, p, n, 300, 9)
	}
	for _, n := range []int{-1 << 63, -1, api.Pages, 1<<63 - 1} {
		refused(t, d, p, api.ErrArg, func() api.Errno { return p.Put(n, filled(1)) })
		refused(t, d, p, api.ErrArg, func() api.Errno { return p.Put(n, api.Page{}) })
		refused(t, d, p, api.ErrArg, func() api.Errno { return p.Image(n) })
	}
	for _, x := range []api.Page{{}, filled(1), page.Seal(filled(1), 3)} {
		refused(t, d, p, api.ErrCorrupt, func() api.Errno { return p.Put(9, x) })
	}
	refused(t, d, p, api.ErrCorrupt, func() api.Errno { return p.Image(9) })
	memory(t, d, p, 0, 1, 2, 3)
}

// TestPutEdges: the first page and the last one, the first byte and the last one.
func TestPutEdges(t *testing.T) {
	_, p := begun(t, 4)
	for _, n := range []int{0, api.Pages - 1} {
		done(t, p.Put(n, filled(1)))
		for _, at := range []int{12, 1023} {
			end := p.Log().End()
			set(t, p, n, at, 2)
			told(t, p.Log(), end, change(0, n, at, 2))
		}
	}
}

// TestPutKeepsNothing: what was handed in, and what is answered, is apart.
func TestPutKeepsNothing(t *testing.T) {
	_, p := begun(t, 4)
	x := filled(1)
	done(t, p.Put(1, x), p.Lay(2, x, 5))
	r := image(0, 3, x)
	_, e := p.Apply(r, 5)
	c := change(0, 3, 12, 7)
	_, f := p.Apply(c, 6)
	done(t, e, f)
	clear(x[:])
	clear(r.Bytes)
	clear(c.Bytes)
	want := with(filled(1), 12, 7)
	if paged(t, p, 1) != page.Seal(filled(1), 1053) || paged(t, p, 2) != page.Seal(filled(1), 5) || paged(t, p, 3) != page.Seal(want, 6) {
		t.Error("a page is another one")
	}
	running := []uint64{1, 2}
	end := p.Log().End()
	done(t, p.Check(3, running))
	running[0] = 2
	told(t, p.Log(), end, api.Record{Kind: api.RecCheck, Redo: end, Next: 3}, api.Record{Kind: api.RecRunning, Next: 3, Subs: []uint64{1, 2}})
	set(t, p, 1, 20, 9)
	pages := p.Dirty()
	pages[0] = 99
	dirty(t, p, 1)
}
