package pool_test

import (
	"fmt"
	"slices"
	"testing"

	"understudy/api"
	"understudy/disk"
	"understudy/log"
	"understudy/page"
	"understudy/pool"
	"understudy/record"
)

// Promise P8.1, and what the other tests are written with.

var _ api.Store = (*pool.Pool)(nil)

func made(t *testing.T, capacity int) (*disk.Disk, *log.Log) {
	t.Helper()
	d, e := disk.New(capacity)
	if e != api.OK {
		t.Fatal(e)
	}
	l, e := log.Make(d, 0)
	if e != api.OK {
		t.Fatal(e)
	}
	return d, l
}

func pooled(t *testing.T, d *disk.Disk, l *log.Log, frames int) *pool.Pool {
	t.Helper()
	p, e := pool.New(d, l, frames)
	if e != api.OK {
		t.Fatal(e)
	}
	return p
}

func begun(t *testing.T, frames int) (*disk.Disk, *pool.Pool) {
	t.Helper()
	d, l := made(t, 4096)
	return d, pooled(t, d, l, frames)
}

func done(t *testing.T, l ...api.Errno) {
	t.Helper()
	for i, e := range l {
		if e != api.OK {
			t.Fatalf("call %d: %v", i, e)
		}
	}
}

func is(t *testing.T, got, want api.Errno) {
	t.Helper()
	if got != want {
		t.Errorf("%d, want %d", got, want)
	}
}

func paged(t *testing.T, p *pool.Pool, n int) api.Page {
	t.Helper()
	x, e := p.Page(n)
	if e != api.OK {
		t.Fatal(n, e)
	}
	return x
}

// with is the page with that byte there.
func with(x api.Page, at int, b byte) api.Page {
	x[at] = b
	return x
}

// filled is a page of that byte, but for its LSN and its sum.
func filled(b byte) (x api.Page) {
	for i := api.PageHead; i < len(x); i++ {
		x[i] = b
	}
	return x
}

// set puts the page with that byte there.
func set(t *testing.T, p *pool.Pool, n, at int, b byte) {
	t.Helper()
	done(t, p.Put(n, with(paged(t, p, n), at, b)))
}

// ask reads the pages, one behind the other.
func ask(t *testing.T, p *pool.Pool, pages ...int) {
	t.Helper()
	for _, n := range pages {
		paged(t, p, n)
	}
}

// logged is the records from that place on.
func logged(t *testing.T, l *log.Log, at uint64) (records []api.Record) {
	t.Helper()
	for at < l.End() {
		r, end, e := l.Next(at)
		if e != api.OK {
			t.Fatal(at, e)
		}
		records, at = append(records, r), end
	}
	return records
}

// told wants that just these records stand in the log from that place on.
func told(t *testing.T, l *log.Log, at uint64, want ...api.Record) {
	t.Helper()
	if got := logged(t, l, at); !slices.EqualFunc(got, want, record.Same) {
		t.Errorf("%s, want %s", short(got), short(want))
	}
}

func short(records []api.Record) (s string) {
	for _, r := range records {
		s += fmt.Sprintf("[%s by %d of %d at %d, %d bytes; %d %d %v] ", record.Name(r.Kind), r.Xid, r.Page, r.Off, len(r.Bytes), r.Redo, r.Next, r.Subs)
	}
	return s
}

// image is the record of a whole page.
func image(xid uint64, n int, x api.Page) api.Record {
	clear(x[:api.PageHead])
	return api.Record{Kind: api.RecImage, Xid: xid, Page: n, Bytes: x[:]}
}

func change(xid uint64, n, off int, b ...byte) api.Record {
	return api.Record{Kind: api.RecChange, Xid: xid, Page: n, Off: off, Bytes: b}
}

// stands is what the disk has of a page.
func stands(t *testing.T, d *disk.Disk, n int) (x api.Page) {
	t.Helper()
	for k := range 4 {
		s, e := d.Read("data", 4*n+k)
		if e != api.OK {
			t.Fatal(e)
		}
		copy(x[256*k:], s[:])
	}
	return x
}

// lay has the disk have that page, last.
func lay(t *testing.T, d *disk.Disk, n int, x api.Page) {
	t.Helper()
	for k := range 4 {
		done(t, d.Spoil("data", 4*n+k, api.Sector(x[256*k:256*k+256])))
	}
}

// spoil turns a bit of a page on the disk.
func spoil(t *testing.T, d *disk.Disk, n int) {
	t.Helper()
	x := stands(t, d, n)
	x[700] ^= 1
	lay(t, d, n, x)
}

// fill leaves room for so many sectors.
func fill(t *testing.T, d *disk.Disk, room int) {
	t.Helper()
	done(t, d.Make("fill"))
	for k := 0; d.Room() > room; k++ {
		done(t, d.Spoil("fill", k, api.Sector{}))
	}
}

func dirty(t *testing.T, p *pool.Pool, want ...int) {
	t.Helper()
	if got := p.Dirty(); !slices.Equal(got, want) {
		t.Errorf("dirty %v, want %v", got, want)
	}
}

// memory wants that just these pages are in memory: those that can be read though each page on the disk is damaged then.
func memory(t *testing.T, d *disk.Disk, p *pool.Pool, want ...int) {
	t.Helper()
	var got []int
	for n := range api.Pages {
		lay(t, d, n, filled(255))
	}
	for n := range api.Pages {
		if _, e := p.Page(n); e == api.OK {
			got = append(got, n)
		}
	}
	if !slices.Equal(got, want) || p.Frames() != len(want) {
		t.Errorf("in memory %v (%d), want %v", got, p.Frames(), want)
	}
}

// refused wants that the call answers that, and changes nothing that can be seen.
func refused(t *testing.T, d *disk.Disk, p *pool.Pool, want api.Errno, call func() api.Errno) {
	t.Helper()
	was, changes, dirt, frames := d.Copy(), d.Changes(), p.Dirty(), p.Frames()
	l := p.Log()
	end, lasts, seq := l.End(), l.Lasts(), l.Control().Seq
	is(t, call(), want)
	if !d.Same(was) || d.Changes() != changes {
		t.Error("the disk is changed")
	}
	if p.Frames() != frames || !slices.Equal(p.Dirty(), dirt) {
		t.Error("memory is changed:", p.Frames(), p.Dirty())
	}
	if l.End() != end || l.Lasts() != lasts || l.Control().Seq != seq {
		t.Error("the log is changed:", l.End(), l.Lasts(), l.Control())
	}
}

func TestNew(t *testing.T) {
	d, l := made(t, 99)
	for _, frames := range []int{-1 << 63, -1, 0, 1, 3, api.Pages + 1, 1<<63 - 1} {
		if p, e := pool.New(d, l, frames); p != nil || e != api.ErrArg {
			t.Error(frames, e)
		}
	}
	for _, x := range []struct {
		d *disk.Disk
		l *log.Log
	}{{nil, l}, {&disk.Disk{}, l}, {d, nil}, {d, &log.Log{}}, {nil, nil}} {
		if p, e := pool.New(x.d, x.l, 4); p != nil || e != api.ErrArg {
			t.Error(e)
		}
	}
	if d.Has("data") {
		t.Error("refused, it made the file")
	}
	changes := d.Changes()
	for i, frames := range []int{4, 5, api.Pages} {
		p := pooled(t, d, l, frames)
		if p.Frames() != 0 || p.Dirty() != nil || p.Log() != l {
			t.Error(p.Frames(), p.Dirty())
		}
		// Made once, the file is there.
		if !d.Has("data") || d.Count("data") != 0 || d.Changes() != changes+1 {
			t.Error(i, d.Changes())
		}
	}
	if l.End() != 0 {
		t.Error("something was logged")
	}
}

func TestNewRefused(t *testing.T) {
	d, l := made(t, 99)
	for i := range 30 {
		done(t, d.Make(fmt.Sprint("f", i)))
	}
	d.Fuse(0)
	_, e := pool.New(d, l, 4)
	is(t, e, api.ErrFull) // 32 files; it comes ahead of the power
	if d.Dead() {
		t.Error("it was tried")
	}
	done(t, d.Crash().Remove("f0"))
	d = d.Crash()
	done(t, d.Remove("f0"))
	d.Fuse(0)
	p, e := pool.New(d, l, 4)
	if e != api.ErrDead || p != nil || d.Has("data") {
		t.Error(e)
	}
	_, e = pool.New(d, l, 3)
	is(t, e, api.ErrArg)

	d, l = made(t, 99)
	done(t, d.Make("data"), d.Write("data", 0, api.Sector{1}))
	d.Fuse(0)
	is(t, d.Sync("data"), api.ErrDead)
	pooled(t, d, l, 4) // the file is there, so no power is needed
}

func TestNone(t *testing.T) {
	for _, p := range []*pool.Pool{nil, {}} {
		for _, n := range []int{-1, 0, api.Pages} {
			x, e := p.Page(n)
			if x != (api.Page{}) || e != api.ErrNil {
				t.Error(e)
			}
			is(t, p.Put(n, filled(1)), api.ErrNil)
			is(t, p.Image(n), api.ErrNil)
			is(t, p.Lay(n, filled(1), 9), api.ErrNil)
			for _, r := range []api.Record{{}, change(0, n, 12, 1), image(0, n, filled(1))} {
				if did, e := p.Apply(r, 9); did || e != api.ErrNil {
					t.Error(did, e)
				}
			}
		}
		p.By(7)
		is(t, p.Check(0, nil), api.ErrNil)
		is(t, p.Check(1, nil), api.ErrNil)
		is(t, p.Write(), api.ErrNil)
		if p.Dirty() != nil || p.Frames() != 0 || p.Log() != nil {
			t.Error("it has something")
		}
	}
}

func TestPage(t *testing.T) {
	d, p := begun(t, 4)
	for _, n := range []int{0, 40, api.Pages - 1} {
		if x := paged(t, p, n); x != (api.Page{}) || page.LSN(x) != 0 {
			t.Error("of sectors that were never written it has something")
		}
	}
	for _, n := range []int{-1 << 63, -1, api.Pages, api.Pages + 1, 1<<63 - 1} {
		refused(t, d, p, api.ErrArg, func() api.Errno {
			x, e := p.Page(n)
			if x != (api.Page{}) {
				t.Error("beside an error there is a page")
			}
			return e
		})
	}
	if p.Frames() != 3 || p.Dirty() != nil || p.Log().End() != 0 || d.Count("data") != 0 {
		t.Error("reading changed something:", p.Frames(), p.Dirty())
	}
}

// TestPageFromDisk: where a page's sectors stand, and which pages are none.
func TestPageFromDisk(t *testing.T) {
	var spread api.Page
	for i := range spread {
		spread[i] = byte(i/256 + 1)
	}
	for _, n := range []int{0, 3, 77, api.Pages - 1} {
		good := page.Seal(spread, 258)
		d, p := begun(t, 4)
		lay(t, d, n, good)
		if paged(t, p, n) != good {
			t.Error(n, "it is not as it stands there")
		}
		if d.Count("data") != 4*n+4 {
			t.Error(d.Count("data"))
		}
	}
	d, p := begun(t, 4)
	lay(t, d, 9, api.Page{})
	if paged(t, p, 9) != (api.Page{}) {
		t.Error("a page of noughts that were written is another one than one that was never written")
	}
	sealed := page.Seal(api.Page{}, 0)
	lay(t, d, 10, sealed)
	if paged(t, p, 10) != sealed || sealed == (api.Page{}) {
		t.Error("a page of noughts that was sealed is one, too")
	}
}

func TestPageDamaged(t *testing.T) {
	good := page.Seal(filled(7), 99)
	for _, x := range []api.Page{filled(7), with(api.Page{}, 0, 1), with(api.Page{}, 11, 1), with(api.Page{}, 1023, 1), with(good, 7, 98), with(good, 8, good[8]^1), with(good, 12, 6), with(good, 1023, 6)} {
		d, p := begun(t, 4)
		lay(t, d, 5, x)
		ask(t, p, 1)
		for range 2 {
			refused(t, d, p, api.ErrCorrupt, func() api.Errno {
				y, e := p.Page(5)
				if y != (api.Page{}) {
					t.Error("beside an error there is a page")
				}
				return e
			})
		}
		ask(t, p, 4, 6) // its neighbours are well
		lay(t, d, 5, good)
		if paged(t, p, 5) != good {
			t.Error("mended, it is not told")
		}
		lay(t, d, 5, x)
		if paged(t, p, 5) != good {
			t.Error("in memory it is damaged")
		}
	}
}

// TestPageTorn: each sector counts.
func TestPageTorn(t *testing.T) {
	elder, newer := page.Seal(filled(1), 50), page.Seal(filled(2), 99)
	for which := range 16 {
		x := elder
		for k := range 4 {
			if which>>k&1 == 1 {
				copy(x[256*k:256*k+256], newer[256*k:])
			}
		}
		d, p := begun(t, 4)
		lay(t, d, 5, x)
		want := api.ErrCorrupt
		if which == 0 || which == 15 {
			want = api.OK
		}
		_, e := p.Page(5)
		is(t, e, want)
	}
}

// TestWhoGoes: as many pages as there are frames, and one more.
func TestWhoGoes(t *testing.T) {
	for _, x := range []struct {
		asked, want []int
	}{
		{[]int{0, 1, 2, 3}, []int{0, 1, 2, 3}},
		{[]int{0, 1, 2, 3, 4}, []int{1, 2, 3, 4}},
		{[]int{0, 1, 2, 3, 0, 4}, []int{0, 2, 3, 4}},
		{[]int{0, 1, 2, 3, 0, 1, 2, 4}, []int{0, 1, 2, 4}},
		{[]int{3, 2, 1, 0, 3, 4, 5}, []int{0, 3, 4, 5}},
		{[]int{0, 1, 2, 3, 4, 5, 6, 7, 8}, []int{5, 6, 7, 8}},
		{[]int{0, 1, 2, 3, 4, 0}, []int{0, 2, 3, 4}},
		{[]int{0, 0, 0, 0, 0, 1}, []int{0, 1}},
	} {
		d, p := begun(t, 4)
		ask(t, p, x.asked...)
		memory(t, d, p, x.want...)
	}
	for _, frames := range []int{5, api.Pages - 1, api.Pages} {
		d, p := begun(t, frames)
		var want []int
		for n := range api.Pages {
			paged(t, p, n)
			if api.Pages-n <= frames {
				want = append(want, n)
			}
			if p.Frames() != min(n+1, frames) {
				t.Fatal(frames, n, p.Frames())
			}
		}
		memory(t, d, p, want...)
	}
}

// TestAsked: each call that names a page asks for it.
func TestAsked(t *testing.T) {
	for name, call := range map[string]func(p *pool.Pool) api.Errno{
		"Page":            func(p *pool.Pool) api.Errno { _, e := p.Page(0); return e },
		"Put":             func(p *pool.Pool) api.Errno { return p.Put(0, filled(1)) },
		"Put of the same": func(p *pool.Pool) api.Errno { return p.Put(0, api.Page{}) },
		"Image":           func(p *pool.Pool) api.Errno { return p.Image(0) },
		"Lay":             func(p *pool.Pool) api.Errno { return p.Lay(0, filled(1), 0) },
		"a change":        func(p *pool.Pool) api.Errno { _, e := p.Apply(change(1, 0, 12, 1), 9); return e },
		"no change":       func(p *pool.Pool) api.Errno { _, e := p.Apply(change(1, 0, 12, 1), 0); return e },
		"an image":        func(p *pool.Pool) api.Errno { _, e := p.Apply(image(1, 0, filled(1)), 0); return e },
	} {
		t.Run(name, func(t *testing.T) {
			d, p := begun(t, 4)
			ask(t, p, 0, 1, 2, 3)
			done(t, call(p))
			ask(t, p, 4)
			memory(t, d, p, 0, 2, 3, 4)
			d, p = begun(t, 4)
			ask(t, p, 1, 2, 3, 4)
			done(t, call(p)) // of one that is not in memory
			memory(t, d, p, 0, 2, 3, 4)
			d, p = begun(t, 4)
			done(t, p.Image(0))
			ask(t, p, 1, 2, 3)
			done(t, p.Image(0)) // one that is not due asks for it, too
			ask(t, p, 4)
			memory(t, d, p, 0, 2, 3, 4)
		})
	}
	for name, call := range map[string]func(p *pool.Pool){
		"Check":            func(p *pool.Pool) { p.Check(1, nil) },
		"Write":            func(p *pool.Pool) { p.Write() },
		"Dirty":            func(p *pool.Pool) { p.Dirty() },
		"By":               func(p *pool.Pool) { p.By(3); p.By(0) },
		"Put by no xid":    func(p *pool.Pool) { p.By(4001); p.Put(0, filled(9)); p.By(0) },
		"Image by no xid":  func(p *pool.Pool) { p.By(4001); p.Image(0); p.By(0) },
		"no record":        func(p *pool.Pool) { p.Apply(change(4001, 0, 12, 1), 999) },
		"of another kind":  func(p *pool.Pool) { p.Apply(api.Record{Kind: api.RecCommit, Xid: 1}, 999) },
		"pages of nothing": func(p *pool.Pool) { p.Page(-1); p.Put(128, filled(1)); p.Image(-1); p.Lay(128, filled(1), 1) },
	} {
		t.Run(name, func(t *testing.T) {
			d, p := begun(t, 4)
			set(t, p, 0, 20, 1)
			done(t, p.Check(1, nil))
			ask(t, p, 0, 1, 2, 3)
			call(p)
			ask(t, p, 4)
			memory(t, d, p, 1, 2, 3, 4)
		})
	}
}

// TestGoesWritten: one that is dirty is written as it goes, behind its records; one that is not is let go.
func TestGoesWritten(t *testing.T) {
	d, p := begun(t, 4)
	set(t, p, 0, 300, 9)
	set(t, p, 1, 700, 8)
	ends := []uint64{page.LSN(paged(t, p, 0)), page.LSN(paged(t, p, 1))}
	x := paged(t, p, 0)
	ask(t, p, 2, 3)
	set(t, p, 2, 50, 1)
	changes, l := d.Changes(), p.Log()
	ask(t, p, 0, 2, 3) // so that 1 goes
	if d.Changes() != changes || l.Lasts() != 0 {
		t.Error("something was written ahead of its time")
	}
	ask(t, p, 4)
	if stands(t, d, 1) != page.Seal(with(api.Page{}, 700, 8), ends[1]) || stands(t, d, 0) != (api.Page{}) {
		t.Error("it is not the page that should have gone")
	}
	// All of the log lasts: three images in 13 sectors, synced; then four sectors.
	if l.Lasts() != l.End() || d.Changes() != changes+13+1+4 {
		t.Error(l.Lasts(), d.Changes()-changes)
	}
	if lasts, _ := d.Lasts("data", 4); lasts {
		t.Error("it was synced")
	}
	dirty(t, p, 0, 2)
	changes = d.Changes()
	ask(t, p, 5) // 0 goes, whose records last
	if stands(t, d, 0) != x || d.Changes() != changes+4 {
		t.Error(d.Changes() - changes)
	}
	ask(t, p, 3, 4, 5, 6) // 2 goes
	changes = d.Changes()
	ask(t, p, 7, 8, 9, 10)
	if d.Changes() != changes || p.Dirty() != nil {
		t.Error("what was not dirty was written")
	}
	if paged(t, p, 0) != x {
		t.Error("read again it is another one")
	}
	dirty(t, p)
}

// TestGoesOnlyUpTo: the log need only last up to the page's LSN.
func TestGoesOnlyUpTo(t *testing.T) {
	d, p := begun(t, 4)
	set(t, p, 0, 300, 9)
	done(t, p.Log().Flush(p.Log().End()))
	lasts := p.Log().Lasts()
	set(t, p, 1, 300, 9)
	ask(t, p, 2, 3, 4)
	if p.Log().Lasts() != lasts || stands(t, d, 0) == (api.Page{}) {
		t.Error(p.Log().Lasts())
	}
	ask(t, p, 5)
	if p.Log().Lasts() != p.Log().End() {
		t.Error("1 stands there, and its record does not last")
	}
}

// TestDamagedGoesNot: what can't be read has no other page go.
func TestDamagedGoesNot(t *testing.T) {
	d, p := begun(t, 4)
	lay(t, d, 9, filled(1))
	for n := range 4 {
		set(t, p, n, 300, 9)
	}
	for _, call := range []func() api.Errno{
		func() api.Errno { _, e := p.Page(9); return e },
		func() api.Errno { return p.Put(9, filled(2)) },
		func() api.Errno { return p.Put(9, filled(1)) },
		func() api.Errno { return p.Image(9) },
		func() api.Errno { _, e := p.Apply(change(0, 9, 12, 1), 9999); return e },
	} {
		refused(t, d, p, api.ErrCorrupt, call)
	}
	d.Fuse(0)
	refused(t, d, p, api.ErrCorrupt, func() api.Errno { _, e := p.Page(9); return e }) // ahead of what the power would tell
	dirty(t, p, 0, 1, 2, 3)
	memory(t, d, p, 0, 1, 2, 3)
}
