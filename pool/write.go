package pool

import (
	"maps"
	"slices"

	"understudy/api"
	"understudy/page"
)

const (
	dataFile = "data"
	sectors  = api.PageSize / api.SectorSize // of a page
)

// Check is a checkpoint.
func (p *Pool) Check(next uint64, running []uint64) api.Errno {
	if p.none() {
		return api.ErrNil
	}
	redo := p.log.End()
	check := api.Record{Kind: api.RecCheck, Redo: redo, Next: next}
	runs := api.Record{Kind: api.RecRunning, Next: next, Subs: running}
	return inTurn(
		func() api.Errno { return p.mayCheck(check, runs) },
		func() api.Errno { return p.append(check) },
		func() api.Errno { return p.append(runs) },
		func() api.Errno { return p.log.Flush(p.log.End()) },
		p.Write,
		func() api.Errno {
			c := p.log.Control()
			c.Redo = redo
			return p.log.SetControl(c)
		},
		func() api.Errno {
			// Nothing was put since the first step, so it is as if images were due from there on.
			p.imaged = [api.Pages]bool{}
			return api.OK
		},
	)
}

// Write writes all dirty pages.
func (p *Pool) Write() api.Errno {
	if p.none() {
		return api.ErrNil
	}
	pages := p.Dirty()
	e := inTurn(
		func() api.Errno { return p.write(pages) },
		func() api.Errno { return p.disk.Sync(dataFile) },
	)
	if e != api.OK {
		return e
	}
	for _, n := range pages {
		p.frames[n].dirty = false
	}
	return api.OK
}

// Dirty are the dirty pages.
func (p *Pool) Dirty() []int {
	if p.none() {
		return nil
	}
	var pages []int
	for _, n := range slices.Sorted(maps.Keys(p.frames)) {
		if p.frames[n].dirty {
			pages = append(pages, n)
		}
	}
	return pages
}

// mayCheck tells what would refuse a checkpoint with those records, as far as that can be told ahead: what is in the log does not go out of it again.
func (p *Pool) mayCheck(records ...api.Record) api.Errno {
	if e := p.takes(records...); e != api.OK {
		return e
	}
	pages, end := p.Dirty(), p.endBehind(records...)
	switch {
	case p.latest(pages) > end:
		return api.ErrArg
	case !p.fits(pages, p.logNeeds(end)+p.controlNeeds()):
		return api.ErrFull
	case p.disk.Dead():
		return api.ErrDead
	}
	return api.OK
}

func (p *Pool) append(r api.Record) api.Errno {
	_, _, e := p.log.Append(r)
	return e
}

// write writes those pages, which are in memory, unless not all of them may be.
func (p *Pool) write(pages []int) api.Errno {
	if e := p.mayWrite(pages); e != api.OK {
		return e
	}
	for _, n := range pages {
		if e := p.writeOne(n, p.frames[n].page); e != api.OK {
			return e
		}
	}
	return api.OK
}

// writeOne writes a page whose records last by then.
func (p *Pool) writeOne(n int, x api.Page) api.Errno {
	if e := p.log.Flush(page.LSN(x)); e != api.OK {
		return e
	}
	for k := range sectors {
		at := k * api.SectorSize
		if e := p.disk.Write(dataFile, n*sectors+k, api.Sector(x[at:at+api.SectorSize])); e != api.OK {
			return e
		}
	}
	return api.OK
}

// mayWrite tells whether the log has what those pages' LSNs say, and the disk room for all of it.
func (p *Pool) mayWrite(pages []int) api.Errno {
	latest, end, more := p.latest(pages), p.log.End(), 0
	if latest > p.log.Lasts() {
		more = p.logNeeds(end)
	}
	switch {
	case latest > end:
		return api.ErrArg
	case !p.fits(pages, more):
		return api.ErrFull
	}
	return api.OK
}

// latest is the greatest LSN of those pages.
func (p *Pool) latest(pages []int) uint64 {
	lsn := uint64(0)
	for _, n := range pages {
		lsn = max(lsn, page.LSN(p.frames[n].page))
	}
	return lsn
}

// read is a page as the disk has it.
func (p *Pool) read(n int) (api.Page, api.Errno) {
	var x api.Page
	for k := range sectors {
		s, e := p.disk.Read(dataFile, n*sectors+k)
		if e != api.OK {
			return api.Page{}, e
		}
		copy(x[k*api.SectorSize:], s[:])
	}
	neverChanged := x == api.Page{}
	if !neverChanged && !page.Good(x) {
		return api.Page{}, api.ErrCorrupt
	}
	return x, api.OK
}

// inTurn does one behind the other, up to the first one that is refused.
func inTurn(steps ...func() api.Errno) api.Errno {
	for _, step := range steps {
		if e := step(); e != api.OK {
			return e
		}
	}
	return api.OK
}
