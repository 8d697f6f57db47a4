package pool

import (
	"slices"

	"understudy/api"
	"understudy/page"
	"understudy/record"
)

// By says whose what is put is.
func (p *Pool) By(xid uint64) {
	if p.none() {
		return
	}
	p.by = xid
}

// Put puts a page, and logs what differs.
func (p *Pool) Put(n int, x api.Page) api.Errno {
	was, e := p.look(n)
	if e != api.OK {
		return e
	}
	off, piece := page.Diff(was, x)
	switch {
	case len(piece) == 0:
		_, e := p.hold(n, was)
		return e
	case !p.imaged[n]:
		return p.change(p.image(n, x), was, x)
	}
	return p.change(api.Record{Kind: api.RecChange, Xid: p.by, Page: n, Off: off, Bytes: piece}, was, x)
}

// Image logs a page, if that is due.
func (p *Pool) Image(n int) api.Errno {
	was, e := p.look(n)
	switch {
	case e != api.OK:
		return e
	case p.imaged[n]:
		_, e := p.hold(n, was)
		return e
	}
	return p.change(p.image(n, was), was, was)
}

// Lay puts a page without logging it.
func (p *Pool) Lay(n int, x api.Page, lsn uint64) api.Errno {
	if e := p.may(n); e != api.OK {
		return e
	}
	f, e := p.hold(n, x)
	if e != api.OK {
		return e
	}
	f.lay(x, lsn)
	return api.OK
}

// Apply does again what a record says: did it?
func (p *Pool) Apply(r api.Record, end uint64) (bool, api.Errno) {
	switch {
	case p.none():
		return false, api.ErrNil
	case r.Kind != api.RecChange && r.Kind != api.RecImage || !record.May(r):
		return false, api.ErrArg
	case r.Kind == api.RecImage:
		return p.applyImage(r, end)
	}
	return p.applyChange(r, end)
}

// applyImage reads nothing: what stood there may be torn.
func (p *Pool) applyImage(r api.Record, end uint64) (bool, api.Errno) {
	if e := p.Lay(r.Page, api.Page(r.Bytes), end); e != api.OK {
		return false, e
	}
	p.imaged[r.Page] = true
	return true, api.OK
}

func (p *Pool) applyChange(r api.Record, end uint64) (bool, api.Errno) {
	x, e := p.Page(r.Page)
	if e != api.OK || page.LSN(x) >= end {
		return false, e
	}
	copy(x[r.Off:], r.Bytes)
	e = p.Lay(r.Page, x, end)
	return e == api.OK, e
}

// change logs the record, by which the page that it names becomes x.
func (p *Pool) change(r api.Record, was, x api.Page) api.Errno {
	// That the log takes the record is asked ahead of anything: a page that went would not come back.
	if e := p.takes(r); e != api.OK {
		return e
	}
	f, e := p.hold(r.Page, was)
	if e != api.OK {
		return e
	}
	_, end, e := p.log.Append(r)
	if e != api.OK {
		return e
	}
	f.lay(x, end)
	p.imaged[r.Page] = true // by this record, or, where it is a change, by one ahead of it
	return api.OK
}

// image is the record of the whole page, but for its LSN and its sum.
func (p *Pool) image(n int, x api.Page) api.Record {
	b := slices.Concat(make([]byte, api.PageHead), x[api.PageHead:])
	return api.Record{Kind: api.RecImage, Xid: p.by, Page: n, Bytes: b}
}

// takes tells whether the log would take those records.
func (p *Pool) takes(records ...api.Record) api.Errno {
	for _, r := range records {
		if !record.May(r) {
			return api.ErrArg
		}
	}
	if p.endBehind(records...) > api.MaxLog {
		return api.ErrFull
	}
	return api.OK
}

// endBehind is where the log would end behind those records.
func (p *Pool) endBehind(records ...api.Record) uint64 {
	end := p.log.End()
	for _, r := range records {
		end += uint64(record.Size(r))
	}
	return end
}
