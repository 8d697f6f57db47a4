package pool_test

import (
	"encoding/binary"
	"hash/crc32"
	"maps"
	"math/rand/v2"
	"slices"
	"testing"

	"understudy/api"
	"understudy/disk"
	"understudy/page"
	"understudy/pool"
	"understudy/record"
)

// P8.1 to P8.4, and P0.6, of any calls: held against a pool in the plainest way, sector by sector of the disk.

// plain is a pool, with its log, in the plainest way. What is tried on a copy, and refused, is forgotten.
type plain struct {
	d          *disk.Disk
	b          []byte // the log
	lasts      uint64
	seq, redo  uint64
	most       int
	pages      map[int]api.Page
	dirty, due map[int]bool
	asked      []int // the eldest one first
	by         uint64
}

func newPlain(d *disk.Disk, most int) *plain {
	p := &plain{d: d, seq: 1, most: most, pages: map[int]api.Page{}, dirty: map[int]bool{}, due: map[int]bool{}}
	p.allDue()
	return p
}

func (p *plain) allDue() {
	for n := range api.Pages {
		p.due[n] = true
	}
}

func (p *plain) copy() *plain {
	q := *p
	q.d, q.b = p.d.Copy(), slices.Clone(p.b)
	q.pages, q.dirty, q.due, q.asked = maps.Clone(p.pages), maps.Clone(p.dirty), maps.Clone(p.due), slices.Clone(p.asked)
	return &q
}

// try does it, or leaves all as it was; where the power goes it is done in part.
func (p *plain) try(do func(q *plain) api.Errno) api.Errno {
	q := p.copy()
	e := do(q)
	if e == api.OK || e == api.ErrDead {
		*p = *q
	}
	return e
}

func (p *plain) append(r api.Record) {
	b, _ := record.Bytes(r, uint64(len(p.b)))
	p.b = append(p.b, b...)
}

func (p *plain) flush(upto uint64) api.Errno {
	if upto > uint64(len(p.b)) {
		return api.ErrArg
	}
	if upto <= p.lasts {
		return api.OK
	}
	if (len(p.b)+245)/246-p.d.Count("log.1") > p.d.Room() {
		return api.ErrFull
	}
	for k := int(p.lasts) / 246; 246*k < len(p.b); k++ {
		var s api.Sector
		n := copy(s[10:], p.b[246*k:])
		binary.BigEndian.PutUint64(s[:], uint64(246*k))
		binary.BigEndian.PutUint16(s[8:], uint16(n))
		if e := p.d.Write("log.1", k, s); e != api.OK {
			return e
		}
	}
	if e := p.d.Sync("log.1"); e != api.OK {
		return e
	}
	p.lasts = uint64(len(p.b))
	return api.OK
}

func (p *plain) control(redo uint64) api.Errno {
	var s api.Sector
	copy(s[:], "understudy")
	binary.BigEndian.PutUint64(s[10:], p.seq+1)
	binary.BigEndian.PutUint64(s[18:], redo)
	s[36], s[40] = 1, 1 // one fork, of the timeline 1
	binary.BigEndian.PutUint32(s[49:], crc32.Checksum(s[:49], crc32.MakeTable(crc32.Castagnoli)))
	if e := p.d.Write("control", int(p.seq+1)%2, s); e != api.OK {
		return e
	}
	if e := p.d.Sync("control"); e != api.OK {
		return e
	}
	p.seq, p.redo = p.seq+1, redo
	return api.OK
}

func (p *plain) write(n int) api.Errno {
	x := p.pages[n]
	if e := p.flush(binary.BigEndian.Uint64(x[:])); e != api.OK {
		return e
	}
	for k := range 4 {
		if e := p.d.Write("data", 4*n+k, api.Sector(x[256*k:256*k+256])); e != api.OK {
			return e
		}
	}
	return api.OK
}

func (p *plain) writeAll() api.Errno {
	for n := range api.Pages {
		if p.dirty[n] {
			if e := p.write(n); e != api.OK {
				return e
			}
		}
	}
	if e := p.d.Sync("data"); e != api.OK {
		return e
	}
	clear(p.dirty)
	return api.OK
}

// hold has page n in memory; if it was not there it is x.
func (p *plain) hold(n int, x api.Page) api.Errno {
	if _, ok := p.pages[n]; !ok && len(p.pages) == p.most {
		gone := p.asked[0]
		if p.dirty[gone] {
			if e := p.write(gone); e != api.OK {
				return e
			}
		}
		delete(p.pages, gone)
		delete(p.dirty, gone)
		p.asked = p.asked[1:]
	}
	if _, ok := p.pages[n]; !ok {
		p.pages[n] = x
	}
	p.asked = append(slices.DeleteFunc(p.asked, func(m int) bool { return m == n }), n)
	return api.OK
}

// look is page n, as it is.
func (p *plain) look(n int) (x api.Page, e api.Errno) {
	if n < 0 || n > 127 {
		return x, api.ErrArg
	}
	if x, ok := p.pages[n]; ok {
		return x, api.OK
	}
	for k := range 4 {
		s, _ := p.d.Read("data", 4*n+k)
		copy(x[256*k:], s[:])
	}
	if x != (api.Page{}) && page.Seal(x, binary.BigEndian.Uint64(x[:])) != x {
		return api.Page{}, api.ErrCorrupt
	}
	return x, api.OK
}

func (p *plain) page(n int) (x api.Page, e api.Errno) {
	if x, e = p.look(n); e != api.OK {
		return x, e
	}
	if e := p.hold(n, x); e != api.OK {
		return api.Page{}, e
	}
	return x, e
}

func (p *plain) lay(n int, x api.Page, lsn uint64) api.Errno {
	if n < 0 || n > 127 {
		return api.ErrArg
	}
	if e := p.hold(n, x); e != api.OK {
		return e
	}
	p.pages[n], p.dirty[n] = page.Seal(x, lsn), true
	return api.OK
}

// log has page n be x, by what is logged.
func (p *plain) log(n int, x api.Page, r api.Record) api.Errno {
	if p.by > 4000 {
		return api.ErrArg
	}
	if _, e := p.page(n); e != api.OK {
		return e
	}
	r.Xid, r.Page = p.by, n
	p.append(r)
	if r.Kind == api.RecImage {
		p.due[n] = false
	}
	return p.lay(n, x, uint64(len(p.b)))
}

func (p *plain) put(n int, x api.Page) api.Errno {
	was, e := p.look(n)
	if e != api.OK {
		return e
	}
	at, end := 12, 1024
	for at < 1024 && was[at] == x[at] {
		at++
	}
	for end > at && was[end-1] == x[end-1] {
		end--
	}
	switch {
	case at == end:
		_, e := p.page(n)
		return e
	case p.due[n]:
		return p.log(n, x, image(0, n, x))
	}
	return p.log(n, x, change(0, n, at, x[at:end]...))
}

func (p *plain) image(n int) api.Errno {
	x, e := p.look(n)
	switch {
	case e != api.OK:
		return e
	case p.due[n]:
		return p.log(n, x, image(0, n, x))
	}
	_, e = p.page(n)
	return e
}

func (p *plain) apply(r api.Record, end uint64) (bool, api.Errno) {
	if r.Kind != api.RecChange && r.Kind != api.RecImage || !record.May(r) {
		return false, api.ErrArg
	}
	if r.Kind == api.RecImage {
		e := p.lay(r.Page, api.Page(r.Bytes), end)
		if e == api.OK {
			p.due[r.Page] = false
		}
		return e == api.OK, e
	}
	x, e := p.page(r.Page)
	if e != api.OK || binary.BigEndian.Uint64(x[:]) >= end {
		return false, e
	}
	copy(x[r.Off:], r.Bytes)
	return true, p.lay(r.Page, x, end)
}

func (p *plain) check(next uint64, running []uint64) api.Errno {
	redo := uint64(len(p.b))
	for _, r := range checked(redo, next, running...) {
		if !record.May(r) {
			return api.ErrArg
		}
	}
	if p.d.Dead() {
		return api.ErrDead
	}
	for _, r := range checked(redo, next, running...) {
		p.append(r)
	}
	if e := p.flush(uint64(len(p.b))); e != api.OK {
		return e
	}
	if e := p.writeAll(); e != api.OK {
		return e
	}
	if e := p.control(redo); e != api.OK {
		return e
	}
	p.allDue()
	return api.OK
}

// pair is a pool, and a plain one that had the same calls.
type pair struct {
	t     *testing.T
	r     *rand.Rand
	d     *disk.Disk
	p     *pool.Pool
	plain *plain
	seen  uint64 // up to there the log is the same
	wild  bool   // LSNs may be ahead of the log's end
}

func newPair(t *testing.T, r *rand.Rand, capacity, frames int) *pair {
	t.Helper()
	d, l := made(t, capacity)
	p := pooled(t, d, l, frames)
	return &pair{t: t, r: r, d: d, p: p, plain: newPlain(d.Copy(), frames)}
}

// place is some place in the log, or near it.
func (x *pair) place() uint64 {
	end := x.p.Log().End()
	switch k := x.r.IntN(12); {
	case k == 0:
		return 0
	case k == 1 && x.wild:
		return end + uint64(x.r.IntN(200))
	case k < 7:
		return end
	}
	return x.r.Uint64N(end + 1)
}

// number is a page's, most often one of a few.
func (x *pair) number() int {
	switch k := x.r.IntN(60); {
	case k == 0:
		return -1
	case k == 1:
		return 128
	case k < 6:
		return 124 + k%4
	}
	return x.r.IntN(8)
}

// some is a page that is somewhat like page n.
func (x *pair) some(n int) api.Page {
	y, _ := x.plain.copy().look(n)
	switch k := x.r.IntN(10); {
	case k == 0:
		return filled(byte(x.r.IntN(3)))
	case k == 1:
		return page.Seal(y, x.r.Uint64())
	case k == 2:
		return y
	}
	for range x.r.IntN(3) + 1 {
		y[x.r.IntN(1024)] = byte(x.r.IntN(3))
	}
	return y
}

func (x *pair) record() api.Record {
	n := x.number()
	switch k := x.r.IntN(12); {
	case k == 0:
		return api.Record{Kind: api.RecKind(x.r.IntN(10)), Xid: 1, Page: n}
	case k < 5:
		return image(x.r.Uint64N(3), n, x.some(n))
	}
	b := make([]byte, x.r.IntN(30))
	for i := range b {
		b[i] = byte(x.r.IntN(3))
	}
	return change(x.r.Uint64N(3), n, 10+x.r.IntN(1000), b...)
}

// do does any one call to both.
func (x *pair) do() {
	t, n := x.t, x.number()
	t.Helper()
	var got, want api.Errno
	is, was := false, false
	switch k := x.r.IntN(100); {
	case k < 25:
		y, e := x.p.Page(n)
		var z api.Page
		want = x.plain.try(func(q *plain) (e api.Errno) { z, e = q.page(n); return e })
		if got = e; y != z {
			t.Fatal(n, "another page")
		}
	case k < 50:
		y := x.some(n)
		got = x.p.Put(n, y)
		want = x.plain.try(func(q *plain) api.Errno { return q.put(n, y) })
	case k < 60:
		y, at := x.some(n), x.place()
		got = x.p.Lay(n, y, at)
		want = x.plain.try(func(q *plain) api.Errno { return q.lay(n, y, at) })
	case k < 67:
		got = x.p.Image(n)
		want = x.plain.try(func(q *plain) api.Errno { return q.image(n) })
	case k < 83:
		r, at := x.record(), x.place()
		is, got = x.p.Apply(r, at)
		want = x.plain.try(func(q *plain) (e api.Errno) { was, e = q.apply(r, at); return e })
		was = was && want == api.OK
	case k < 88:
		xid := []uint64{0, 1, 2, 4000, 4001}[x.r.IntN(5)]
		x.p.By(xid)
		x.plain.by = xid
	case k < 92:
		next, running := x.r.Uint64N(5), []uint64{x.r.Uint64N(4), x.r.Uint64N(4)}[:x.r.IntN(3)]
		got = x.p.Check(next, running)
		want = x.plain.try(func(q *plain) api.Errno { return q.check(next, running) })
	case k < 95:
		got = x.p.Write()
		want = x.plain.try(func(q *plain) api.Errno { return q.writeAll() })
	case k < 98:
		l := x.p.Log()
		got = l.Flush(l.End())
		want = x.plain.try(func(q *plain) api.Errno { return q.flush(uint64(len(q.b))) })
	default:
		k, s := 4*x.r.IntN(9)+x.r.IntN(4), api.Sector{byte(x.r.IntN(2))}
		got = x.d.Spoil("data", k, s)
		want = x.plain.d.Spoil("data", k, s)
	}
	if got != want || is != was {
		t.Fatal(n, got, want, is, was)
	}
	x.compare()
}

// compare wants that both have the same.
func (x *pair) compare() {
	t, l, q := x.t, x.p.Log(), x.plain
	t.Helper()
	if !x.d.Same(q.d) || x.d.Changes() != q.d.Changes() || x.d.Dead() != q.d.Dead() {
		t.Fatal("the disks are not the same:", x.d.Changes(), q.d.Changes())
	}
	dirty := slices.Sorted(maps.Keys(q.dirty))
	if x.p.Frames() != len(q.pages) || !slices.Equal(x.p.Dirty(), dirty) {
		t.Fatal(x.p.Frames(), len(q.pages), x.p.Dirty(), dirty)
	}
	if c := l.Control(); l.End() != uint64(len(q.b)) || l.Lasts() != q.lasts || c.Seq != q.seq || c.Redo != q.redo {
		t.Fatal(l.End(), len(q.b), l.Lasts(), q.lasts, c, q.seq, q.redo)
	}
	for x.seen < l.End() {
		r, end, e := l.Next(x.seen)
		b, _ := record.Bytes(r, x.seen)
		if e != api.OK || !slices.Equal(b, q.b[x.seen:end]) {
			t.Fatal(x.seen, e)
		}
		x.seen = end
	}
}

// end compares all pages.
func (x *pair) end() {
	x.t.Helper()
	for n := range api.Pages {
		y, e := x.p.Page(n)
		var z api.Page
		f := x.plain.try(func(q *plain) (e api.Errno) { z, e = q.page(n); return e })
		if y != z || e != f {
			x.t.Fatal(n, e, f)
		}
	}
	x.compare()
}

func TestAnyCalls(t *testing.T) {
	for i := range 60 {
		r := rand.New(rand.NewPCG(8, uint64(i)))
		x := newPair(t, r, 4096, 4+r.IntN(4))
		x.wild = i%2 == 0
		for range 200 {
			x.do()
		}
		x.end()
	}
}

// TestAnyCallsFull: on a disk that soon is full.
func TestAnyCallsFull(t *testing.T) {
	for i := range 60 {
		r := rand.New(rand.NewPCG(9, uint64(i)))
		x := newPair(t, r, 10+r.IntN(70), 4+r.IntN(4))
		for range 200 {
			x.do()
		}
		x.end()
	}
}

// TestAnyCallsFused: till the power goes, and behind that.
func TestAnyCallsFused(t *testing.T) {
	for i := range 120 {
		r := rand.New(rand.NewPCG(10, uint64(i)))
		x := newPair(t, r, 4096, 4+r.IntN(4))
		n := r.IntN(150)
		x.d.Fuse(n)
		x.plain.d.Fuse(n)
		for range 120 {
			x.do()
		}
		x.end()
	}
}
