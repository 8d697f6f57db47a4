package pool_test

import (
	"bytes"
	"encoding/binary"
	"math/rand/v2"
	"testing"

	"understudy/api"
	"understudy/disk"
	"understudy/log"
	"understudy/page"
	"understudy/pool"
)

// Promise P8.5, and P0.3 as far as pages bear on it.

// endOf has an xid end: its byte is laid, behind an image of its page, and its record (so layer 9 does it).
func endOf(p *pool.Pool, xid uint64) api.Errno {
	n, at := int(xid%3), 24+int(xid)
	if e := p.Image(n); e != api.OK {
		return e
	}
	_, end, e := p.Log().Append(api.Record{Kind: api.RecCommit, Xid: xid})
	if e != api.OK {
		return e
	}
	x, e := p.Page(n)
	if e != api.OK {
		return e
	}
	return p.Lay(n, with(x, at, 1), end)
}

// again does again what a record says.
func again(p *pool.Pool, r api.Record, end uint64) api.Errno {
	switch r.Kind {
	case api.RecChange, api.RecImage:
		_, e := p.Apply(r, end)
		return e
	case api.RecCommit:
		n, at := int(r.Xid%3), 24+int(r.Xid)
		x, e := p.Page(n)
		if e != api.OK || page.LSN(x) >= end {
			return e
		}
		return p.Lay(n, with(x, at, 1), end)
	}
	return api.OK
}

// pagesOf is what the pages are, but for their LSNs and sums, by all records up to that place.
func pagesOf(t *testing.T, l *log.Log, upto uint64) (pages [api.Pages]api.Page) {
	t.Helper()
	for at := uint64(0); at < upto; {
		r, end, e := l.Next(at)
		if e != api.OK {
			t.Fatal(at, e)
		}
		switch r.Kind {
		case api.RecImage:
			pages[r.Page] = api.Page(r.Bytes)
		case api.RecChange:
			copy(pages[r.Page][r.Off:], r.Bytes)
		case api.RecCommit:
			pages[r.Xid%3][24+r.Xid] = 1
		}
		at = end
	}
	return pages
}

// sound wants of what is left behind a loss of power: no page stands there whose records do not last; what is torn has an image ahead of its changes, behind Redo.
func sound(t *testing.T, d *disk.Disk, l *log.Log) {
	t.Helper()
	var first [api.Pages]api.RecKind
	for at := l.Control().Redo; at < l.End(); {
		r, end, e := l.Next(at)
		if e != api.OK {
			t.Fatal(at, e)
		}
		if (r.Kind == api.RecImage || r.Kind == api.RecChange) && first[r.Page] == 0 {
			first[r.Page] = r.Kind
		}
		if r.Kind == api.RecCommit && first[r.Xid%3] == 0 {
			t.Fatal("a byte was laid on a page without an image")
		}
		at = end
	}
	for n := range api.Pages {
		x := stands(t, d, n)
		if page.LSN(x) > l.End() {
			t.Fatal(n, "stands there, and its records do not last:", page.LSN(x), l.End())
		}
		if x != (api.Page{}) && !page.Good(x) && first[n] != api.RecImage {
			t.Fatal(n, "is torn, and has no image")
		}
		if first[n] == api.RecChange {
			t.Fatal(n, "has a change ahead of its image")
		}
	}
}

// recovered is the pool behind a recovery; its pages are what all records say that last.
func recovered(t *testing.T, d *disk.Disk, frames int) *pool.Pool {
	t.Helper()
	l, e := log.Open(d)
	if e != api.OK {
		t.Fatal(e)
	}
	p := pooled(t, d, l, frames)
	sound(t, d, l)
	for at := l.Control().Redo; at < l.End(); {
		r, end, e := l.Next(at)
		if e != api.OK {
			t.Fatal(at, e)
		}
		if e := again(p, r, end); e != api.OK {
			t.Fatal(at, e)
		}
		at = end
	}
	has(t, p, pagesOf(t, l, l.End()))
	return p
}

// has wants that the pool's pages are these.
func has(t *testing.T, p *pool.Pool, want [api.Pages]api.Page) {
	t.Helper()
	for n, y := range want {
		x, e := p.Page(n)
		if e != api.OK || !bytes.Equal(x[12:], y[12:]) {
			t.Fatal(n, "is another page", e)
		}
	}
}

// picks is a number of ways in which what was written lasts, or not; the first ones are none, the first writes, the second ones.
func picks(r *rand.Rand, i int) (l []int) {
	for range 60 {
		n := i
		if i > 2 {
			n = r.IntN(4)
		}
		l = append(l, n)
	}
	return l
}

// powerGoes has the power go at each step of what is done; whatever lasts then, it comes back with at least what lasted. So many steps there are at least.
func powerGoes(t *testing.T, build func(t *testing.T) (*disk.Disk, *pool.Pool), do func(p *pool.Pool) api.Errno, steps int) {
	t.Helper()
	r := rand.New(rand.NewPCG(8, uint64(steps)))
	e := api.ErrDead
	for n := 0; e != api.OK; n++ {
		d, p := build(t)
		d.Fuse(n)
		e = do(p)
		if e != api.OK && e != api.ErrDead || e == api.OK && n < steps {
			t.Fatal(n, e)
		}
		lasted := p.Log().Lasts()
		for i := range 30 {
			q := recovered(t, d.Crash(picks(r, i)...), 4+i%3)
			if q.Log().End() < lasted {
				t.Fatal(n, i, q.Log().End(), lasted)
			}
			// And it goes on.
			set(t, q, 5, 500, 77)
			done(t, q.Check(1, nil))
		}
	}
}

// used has pages that were changed ahead of a checkpoint, and behind it, some of which went; 5, which goes next, is dirty.
func used(t *testing.T) (*disk.Disk, *pool.Pool) {
	t.Helper()
	d, p := begun(t, 4)
	for n := range 7 {
		set(t, p, n, 300, byte(n+1))
		set(t, p, n, 800, byte(n+1))
	}
	done(t, endOf(p, 4), p.Check(5, nil))
	for n := range 9 {
		set(t, p, n, 600, byte(n+2))
	}
	done(t, endOf(p, 5))
	ask(t, p, 5, 6, 7, 8)
	set(t, p, 5, 100, 9)
	set(t, p, 6, 100, 9)
	ask(t, p, 7, 8)
	return d, p
}

func TestPowerGoesInPage(t *testing.T) {
	powerGoes(t, used, func(p *pool.Pool) api.Errno { _, e := p.Page(30); return e }, 2+1+4)
	powerGoes(t, func(t *testing.T) (*disk.Disk, *pool.Pool) {
		d, p := used(t)
		done(t, p.Log().Flush(p.Log().End()))
		return d, p
	}, func(p *pool.Pool) api.Errno { _, e := p.Page(30); return e }, 4)
}

func TestPowerGoesInPut(t *testing.T) {
	powerGoes(t, used, func(p *pool.Pool) api.Errno { return p.Put(30, filled(9)) }, 2+1+4)
	powerGoes(t, used, func(p *pool.Pool) api.Errno { return p.Put(4, filled(9)) }, 2+1+4)
	powerGoes(t, used, func(p *pool.Pool) api.Errno { return p.Image(2) }, 2+1+4)
	powerGoes(t, used, func(p *pool.Pool) api.Errno { return p.Put(6, filled(9)) }, 0) // it needs no disk
}

func TestPowerGoesInWrite(t *testing.T) {
	powerGoes(t, used, (*pool.Pool).Write, 2+1+8+1)
	powerGoes(t, used, func(p *pool.Pool) api.Errno {
		return inTurn(func() api.Errno { return p.Put(4, filled(9)) }, p.Write)
	}, 2+1+4+2+1+8+1)
	powerGoes(t, used, func(p *pool.Pool) api.Errno {
		// What is written as it goes is written a second time, with no sync between.
		return inTurn(func() api.Errno { return p.Put(4, filled(9)) }, func() api.Errno { return p.Put(5, filled(9)) }, p.Write)
	}, 2+1+4+2+1+8+1)
}

func TestPowerGoesInCheck(t *testing.T) {
	powerGoes(t, used, func(p *pool.Pool) api.Errno { return p.Check(6, []uint64{3}) }, 2+1+8+1+2)
	powerGoes(t, used, func(p *pool.Pool) api.Errno {
		// Torn behind it, a page has its image behind it.
		return inTurn(func() api.Errno { return p.Check(6, []uint64{3}) }, func() api.Errno { return p.Put(6, filled(9)) }, p.Write)
	}, 2+1+8+1+2+5+1+4+1)
}

// inTurn does one behind the other, up to the first one that is refused.
func inTurn(calls ...func() api.Errno) api.Errno {
	for _, call := range calls {
		if e := call(); e != api.OK {
			return e
		}
	}
	return api.OK
}

func TestPowerGoesInNew(t *testing.T) {
	d, l := made(t, 99)
	d.Fuse(0)
	_, e := pool.New(d, l, 4)
	is(t, e, api.ErrDead)
	if p := recovered(t, d.Crash(), 4); p.Log().End() != 0 {
		t.Error(p.Log().End())
	}
}

// TestPowerGoes: in any use, again and again.
func TestPowerGoes(t *testing.T) {
	for i := range 40 {
		r := rand.New(rand.NewPCG(11, uint64(i)))
		d, p := begun(t, 4)
		for range 6 {
			d.Fuse(r.IntN(300))
			lasted := anyUse(t, r, p)
			d = d.Crash(picks(r, r.IntN(6))...)
			p = recovered(t, d, 4+r.IntN(3))
			if p.Log().End() < lasted {
				t.Fatal(i, p.Log().End(), lasted)
			}
		}
	}
}

// anyUse uses a pool, at most till its power is gone; it answers up to where its log lasted.
func anyUse(t *testing.T, r *rand.Rand, p *pool.Pool) uint64 {
	t.Helper()
	e := api.OK
	for range 150 {
		n := r.IntN(10)
		switch k := r.IntN(40); {
		case k == 0:
			e = p.Check(4001, nil)
		case k == 1:
			e = p.Write()
		case k == 2:
			e = p.Log().Flush(p.Log().End())
		case k < 6:
			e = endOf(p, uint64(1+r.IntN(900)))
		case k < 10:
			e = p.Image(n)
		case k < 20:
			_, e = p.Page(n)
		default:
			var x api.Page
			if x, e = p.Page(n); e == api.OK {
				e = p.Put(n, with(x, 12+r.IntN(1012), byte(r.IntN(256))))
			}
		}
		if e == api.ErrDead {
			break
		}
		if e != api.OK {
			t.Fatal(n, e)
		}
	}
	if e == api.OK {
		has(t, p, pagesOf(t, p.Log(), p.Log().End()))
	}
	return p.Log().Lasts()
}

// TestAnyDisk: whatever stands in the data file, no call panics, and what is told is good.
func TestAnyDisk(t *testing.T) {
	r := rand.New(rand.NewPCG(12, 1))
	for range 300 {
		d, p := begun(t, 4)
		for range 20 {
			var s api.Sector
			for i := range s {
				s[i] = byte(r.IntN(256))
			}
			if r.IntN(2) == 0 {
				s = api.Sector{byte(r.IntN(2))}
			}
			done(t, d.Spoil("data", r.IntN(24), s))
		}
		lay(t, d, 2, page.Seal(filled(1), r.Uint64()))
		for n := range 7 {
			x, e := p.Page(n)
			was := stands(t, d, n)
			good := was == (api.Page{}) || page.Good(was)
			if good != (e == api.OK) || e == api.OK && x != was || e != api.OK && e != api.ErrCorrupt {
				t.Fatal(n, e)
			}
			is, e := p.Apply(change(0, n, 12, 1), r.Uint64())
			if e != api.OK && (is || good) {
				t.Fatal(n, e)
			}
			p.Put(n, filled(2))
			p.Image(n)
		}
		p.Write()
		p.Check(r.Uint64N(5), nil)
	}
}

// TestDamagedSince: what lasted, and was damaged since, is told, or made anew of an image; it is never read.
func TestDamagedSince(t *testing.T) {
	r := rand.New(rand.NewPCG(13, 1))
	for range 60 {
		d, p := used(t)
		done(t, p.Write())
		n, sector := r.IntN(9), r.IntN(4)
		s, _ := d.Read("data", 4*n+sector)
		s[r.IntN(256)] ^= byte(1 << r.IntN(8))
		done(t, d.Spoil("data", 4*n+sector, s))
		l, e := log.Open(d.Crash())
		done(t, e)
		q := pooled(t, d, l, 4)
		_, e = q.Page(n)
		is(t, e, api.ErrCorrupt)
		q = pooled(t, d, l, 4)
		at := l.Control().Redo
		imaged := false
		for at < l.End() {
			r, end, _ := l.Next(at)
			done(t, again(q, r, end))
			imaged = imaged || r.Kind == api.RecImage && r.Page == n
			at = end
		}
		x, e := q.Page(n)
		want := pagesOf(t, l, l.End())[n]
		if !imaged || e != api.OK || !bytes.Equal(x[12:], want[12:]) {
			t.Error(n, imaged, e)
		}
	}
}

// TestNotAheadOfItsRecords: at no time a page stands on the disk whose records do not last.
func TestNotAheadOfItsRecords(t *testing.T) {
	for i := range 20 {
		r := rand.New(rand.NewPCG(14, uint64(i)))
		d, p := begun(t, 4)
		for range 200 {
			n := r.IntN(12)
			set(t, p, n, 12+r.IntN(1012), byte(r.IntN(256)))
			if r.IntN(30) == 0 {
				done(t, p.Write())
			}
			if r.IntN(50) == 0 {
				done(t, p.Check(1, nil))
			}
			for n := range 12 {
				s, _ := d.Read("data", 4*n)
				if lsn := binary.BigEndian.Uint64(s[:]); lsn > p.Log().Lasts() {
					t.Fatal(n, lsn, p.Log().Lasts())
				}
			}
		}
	}
}
