package pool_test

import (
	"testing"

	"understudy/api"
	"understudy/page"
	"understudy/pool"
)

// Promise P8.3.

func TestLay(t *testing.T) {
	d, p := begun(t, 4)
	for i, lsn := range []uint64{0, 1, 258, 1 << 62, 1<<64 - 1} {
		n := []int{0, 5, 5, api.Pages - 1, 0}[i]
		x := page.Seal(filled(byte(i+1)), 77)
		done(t, p.Lay(n, x, lsn))
		if paged(t, p, n) != page.Seal(x, lsn) {
			t.Error(lsn, "it is another one")
		}
	}
	dirty(t, p, 0, 5, api.Pages-1)
	if p.Log().End() != 0 || p.Frames() != 3 || d.Changes() != 5 {
		t.Error(p.Log().End(), p.Frames(), d.Changes())
	}
}

// TestLayNoughts: laid, a page of noughts is sealed, so it is not one that was never changed.
func TestLayNoughts(t *testing.T) {
	d, p := begun(t, 4)
	done(t, p.Lay(3, api.Page{}, 0))
	dirty(t, p, 3)
	done(t, p.Write())
	dirty(t, p)
	if x := stands(t, d, 3); x != page.Seal(api.Page{}, 0) || x == (api.Page{}) {
		t.Error("it is not sealed")
	}
	if paged(t, p, 3) != page.Seal(api.Page{}, 0) || p.Log().End() != 0 {
		t.Error(p.Log().End())
	}
}

// TestLayOver: it is that page, whatever it was: in memory, on the disk, damaged.
func TestLayOver(t *testing.T) {
	d, p := begun(t, 4)
	set(t, p, 1, 30, 1)
	lay(t, d, 2, page.Seal(filled(3), 500))
	lay(t, d, 3, filled(3))
	for n := 1; n < 4; n++ {
		done(t, p.Lay(n, filled(8), 40))
		if paged(t, p, n) != page.Seal(filled(8), 40) {
			t.Error(n)
		}
	}
	dirty(t, p, 1, 2, 3)
	done(t, p.Log().Flush(p.Log().End()), p.Write())
	if stands(t, d, 3) != page.Seal(filled(8), 40) {
		t.Error("it is not mended")
	}
	// What is laid over is dirty, though it was the same already.
	done(t, p.Lay(2, filled(8), 40))
	dirty(t, p, 2)
}

func TestLayRefused(t *testing.T) {
	d, p := begun(t, 4)
	for _, n := range []int{-1 << 63, -1, api.Pages, 1<<63 - 1} {
		refused(t, d, p, api.ErrArg, func() api.Errno { return p.Lay(n, filled(1), 5) })
	}
	// As many pages as there are frames, and one more, of which the eldest can't go.
	for n := range 4 {
		set(t, p, n, 300, 9)
	}
	d.Fuse(0)
	d.Sync("data")
	refused(t, d, p, api.ErrDead, func() api.Errno { return p.Lay(9, filled(1), 5) })
	done(t, p.Lay(2, filled(1), 5))
	memory(t, d, p, 0, 1, 2, 3)
}

// TestLayGoes: that one goes for what is laid, too; and what was laid is written as it goes.
func TestLayGoes(t *testing.T) {
	d, p := begun(t, 4)
	set(t, p, 0, 300, 9)
	for n := 1; n < 5; n++ {
		done(t, p.Lay(n, filled(byte(n)), 7))
	}
	if stands(t, d, 0) != page.Seal(with(api.Page{}, 300, 9), 1053) || p.Frames() != 4 {
		t.Error(p.Frames())
	}
	dirty(t, p, 1, 2, 3, 4)
	_, e := p.Apply(image(0, 5, filled(5)), 8)
	done(t, e)
	if stands(t, d, 1) != page.Seal(filled(1), 7) || p.Frames() != 4 {
		t.Error(p.Frames())
	}
	dirty(t, p, 2, 3, 4, 5)
}

// TestLaidAhead: a page whose LSN is ahead of the log's end is not written; nothing else is, either.
func TestLaidAhead(t *testing.T) {
	d, p := begun(t, 4)
	set(t, p, 1, 300, 9)
	end := p.Log().End()
	done(t, p.Lay(2, filled(1), end+61))
	ask(t, p, 0, 3)
	refused(t, d, p, api.ErrArg, p.Write)
	refused(t, d, p, api.ErrArg, func() api.Errno { return p.Check(1, nil) })
	ask(t, p, 1, 0, 3) // 2 should go
	for _, call := range []func() api.Errno{
		func() api.Errno { _, e := p.Page(4); return e },
		func() api.Errno { return p.Put(4, filled(1)) },
		func() api.Errno { return p.Image(4) },
		func() api.Errno { return p.Lay(4, filled(1), 0) },
		func() api.Errno { _, e := p.Apply(image(0, 4, filled(1)), 5); return e },
	} {
		refused(t, d, p, api.ErrArg, call)
	}
	dirty(t, p, 1, 2)
	set(t, p, 1, 301, 9) // and 32 bytes more
	set(t, p, 1, 302, 9)
	done(t, p.Write())
	dirty(t, p)
	// A checkpoint's own two records, of 60 bytes, are behind it.
	done(t, p.Lay(2, filled(1), p.Log().End()+60), p.Check(1, nil))
	if x := stands(t, d, 2); page.LSN(x) != p.Log().End() {
		t.Error(page.LSN(x))
	}
}

func TestApplyImage(t *testing.T) {
	was := page.Seal(filled(3), 500)
	for _, stood := range []api.Page{{}, was, with(was, 700, 1), filled(9)} {
		for _, inMemory := range []bool{false, true} {
			for _, end := range []uint64{0, 1, 499, 500, 501, 1<<64 - 1} {
				d, p := begun(t, 4)
				lay(t, d, 6, stood)
				if _, e := p.Page(6); inMemory && e != api.OK {
					continue
				} else if !inMemory {
					p = pooled(t, d, p.Log(), 4)
				}
				did, e := p.Apply(image(4, 6, filled(5)), end)
				if !did || e != api.OK || paged(t, p, 6) != page.Seal(filled(5), end) {
					t.Error(end, did, e)
				}
				dirty(t, p, 6)
				if p.Log().End() != 0 {
					t.Error("it was logged")
				}
			}
		}
	}
	// What the record has as LSN and sum is of no account.
	_, p := begun(t, 4)
	x := page.Seal(filled(5), 9)
	did, e := p.Apply(api.Record{Kind: api.RecImage, Page: 6, Bytes: x[:]}, 40)
	if !did || e != api.OK || paged(t, p, 6) != page.Seal(filled(5), 40) {
		t.Error(did, e)
	}
}

// TestAppliedImageCounts: an image that was done again counts as logged; a change, and one that was refused, do not.
func TestAppliedImageCounts(t *testing.T) {
	_, p := begun(t, 4)
	_, e := p.Apply(image(0, 6, filled(5)), 10)
	_, f := p.Apply(change(0, 7, 20, 5), 10)
	done(t, e, f)
	_, e = p.Apply(image(4001, 8, filled(5)), 10)
	is(t, e, api.ErrArg)
	done(t, p.Image(6), p.Put(6, with(filled(5), 20, 6)), p.Put(7, filled(1)), p.Put(8, filled(1)))
	told(t, p.Log(), 0, change(0, 6, 20, 6), image(0, 7, filled(1)), image(0, 8, filled(1)))
	end := p.Log().End()
	done(t, p.Check(1, nil), p.Put(6, with(filled(5), 20, 7)))
	if r := logged(t, p.Log(), end); len(r) != 3 || r[2].Kind != api.RecImage {
		t.Error(short(r))
	}
}

func TestApplyChange(t *testing.T) {
	was := page.Seal(filled(3), 500)
	for _, x := range []struct {
		end uint64
		did bool
	}{{0, false}, {1, false}, {499, false}, {500, false}, {501, true}, {1 << 62, true}, {1<<64 - 1, true}} {
		for _, inMemory := range []bool{false, true} {
			d, p := begun(t, 4)
			lay(t, d, 6, was)
			if inMemory {
				paged(t, p, 6)
			}
			did, e := p.Apply(change(4, 6, 300, 7, 8, 9), x.end)
			want := was
			if x.did {
				copy(want[300:], []byte{7, 8, 9})
				want = page.Seal(want, x.end)
				dirty(t, p, 6)
			} else {
				dirty(t, p)
			}
			if did != x.did || e != api.OK || paged(t, p, 6) != want || p.Log().End() != 0 || p.Frames() != 1 {
				t.Error(x.end, did, e)
			}
		}
	}
}

func TestApplyChangeEdges(t *testing.T) {
	_, p := begun(t, 4)
	all := filled(4)
	for i, r := range []api.Record{change(0, 0, 12, 1), change(4000, api.Pages-1, 1023, 1), change(1, 7, 12, all[12:]...), change(1, 7, 1000, all[:24]...)} {
		want := paged(t, p, r.Page)
		copy(want[r.Off:], r.Bytes)
		did, e := p.Apply(r, uint64(i+1))
		if !did || e != api.OK || paged(t, p, r.Page) != page.Seal(want, uint64(i+1)) {
			t.Error(i, did, e)
		}
	}
	// Of a page that was never changed the LSN is 0.
	if did, e := p.Apply(change(0, 9, 12, 1), 0); did || e != api.OK || paged(t, p, 9) != (api.Page{}) {
		t.Error(did, e)
	}
	if did, e := p.Apply(change(0, 9, 12, 0), 1); !did || e != api.OK || paged(t, p, 9) != page.Seal(api.Page{}, 1) {
		t.Error("the same bytes stand there; it was done again all the same", did, e)
	}
}

func TestApplyRefused(t *testing.T) {
	d, p := begun(t, 4)
	lay(t, d, 9, filled(1)) // damaged: it comes behind what may not be
	for n := range 4 {
		set(t, p, n, 300, 9)
	}
	all := filled(1)
	for i, r := range []api.Record{
		{},
		{Kind: -1, Page: 9},
		{Kind: 9, Page: 9},
		{Kind: api.RecCommit, Xid: 5},
		{Kind: api.RecAbort, Xid: 5, Subs: []uint64{6}},
		{Kind: api.RecCleanup},
		{Kind: api.RecRunning, Next: 5},
		{Kind: api.RecCheck, Next: 5},
		{Kind: api.RecSwitch, Timeline: 5},
		change(0, -1, 12, 1),
		change(0, api.Pages, 12, 1),
		change(0, 9, 11, 1),
		change(0, 9, 0, all[:]...),
		change(0, 9, -1, 1),
		change(0, 9, 1024, 1),
		change(0, 9, 1023, 1, 2),
		change(0, 9, 1<<63-1, 1, 2),
		change(0, 9, 12),
		change(4001, 9, 12, 1),
		{Kind: api.RecChange, Page: 9, Off: 12, Bytes: []byte{1}, Subs: []uint64{1}},
		{Kind: api.RecChange, Page: 9, Off: 12, Bytes: []byte{1}, Next: 1},
		{Kind: api.RecChange, Page: 9, Off: 12, Bytes: []byte{1}, Redo: 1},
		{Kind: api.RecChange, Page: 9, Off: 12, Bytes: []byte{1}, Timeline: 1},
		image(4001, 9, all),
		image(0, -1, all),
		image(0, api.Pages, all),
		{Kind: api.RecImage, Page: 9, Bytes: all[:1023]},
		{Kind: api.RecImage, Page: 9, Bytes: append(all[:], 1)},
		{Kind: api.RecImage, Page: 9},
		{Kind: api.RecImage, Page: 9, Off: 12, Bytes: all[:]},
	} {
		for _, end := range []uint64{0, 5, 1 << 62} {
			refused(t, d, p, api.ErrArg, func() api.Errno {
				did, e := p.Apply(r, end)
				if did {
					t.Error(i, "it did it")
				}
				return e
			})
		}
	}
	for _, end := range []uint64{0, 5, 1 << 62} {
		refused(t, d, p, api.ErrCorrupt, func() api.Errno {
			did, e := p.Apply(change(0, 9, 12, 1), end)
			if did {
				t.Error("it did it")
			}
			return e
		})
	}
	memory(t, d, p, 0, 1, 2, 3)
}

// TestApplyDead: what is in memory can be done again without power.
func TestApplyDead(t *testing.T) {
	d, p := begun(t, 4)
	for n := range 4 {
		set(t, p, n, 300, 9)
	}
	d.Fuse(0)
	d.Sync("data")
	for _, r := range []api.Record{change(0, 9, 12, 1), image(0, 9, filled(1))} {
		refused(t, d, p, api.ErrDead, func() api.Errno {
			did, e := p.Apply(r, 9999)
			if did {
				t.Error("it did it")
			}
			return e
		})
	}
	for i, r := range []api.Record{image(0, 2, filled(1)), change(0, 2, 12, 2)} {
		did, e := p.Apply(r, uint64(9999+i))
		if !did || e != api.OK {
			t.Error(did, e)
		}
	}
}

// TestApplyAgain: done again from the beginning, over whatever later pages, it is the same.
func TestApplyAgain(t *testing.T) {
	d, p := begun(t, 4)
	for i := range 40 {
		p.By(uint64(i % 3))
		set(t, p, i%7, 20+i, byte(i+1))
	}
	done(t, p.Write())
	l := p.Log()
	for range 2 {
		q := pooled(t, d.Copy(), l, 5)
		at := uint64(0)
		for _, r := range logged(t, l, 0) {
			_, end, _ := l.Next(at)
			if _, e := q.Apply(r, end); e != api.OK {
				t.Fatal(e)
			}
			at = end
		}
		same(t, q, p)
	}
}

// same wants that both pools have the same pages.
func same(t *testing.T, p, q *pool.Pool) {
	t.Helper()
	for n := range api.Pages {
		if paged(t, p, n) != paged(t, q, n) {
			t.Fatal(n, "is another page")
		}
	}
}
