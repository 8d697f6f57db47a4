package record

import (
	"math"

	"understudy/api"
)

// May tells whether there may be such a record.
func May(r api.Record) bool {
	return Same(rest(r), api.Record{}) && fits(r)
}

// rest is the record without its kind, and without what its kind names.
func rest(r api.Record) api.Record {
	switch r.Kind {
	case api.RecChange:
		r.Xid, r.Page, r.Off, r.Bytes = 0, 0, 0, nil
	case api.RecImage:
		r.Xid, r.Page, r.Bytes = 0, 0, nil
	case api.RecCommit, api.RecAbort:
		r.Xid, r.Subs = 0, nil
	case api.RecCleanup:
		r.Xid = 0
	case api.RecRunning:
		r.Next, r.Subs = 0, nil
	case api.RecCheck:
		r.Redo, r.Next = 0, 0
	case api.RecSwitch:
		r.Timeline, r.Redo = 0, 0
	}
	r.Kind = 0
	return r
}

// fits tells whether what the record's kind names is within its bounds.
func fits(r api.Record) bool {
	switch r.Kind {
	case api.RecChange:
		return xidOrNone(r.Xid) && page(r.Page) && piece(r.Off, len(r.Bytes))
	case api.RecImage:
		return xidOrNone(r.Xid) && page(r.Page) && len(r.Bytes) == api.PageSize
	case api.RecCommit, api.RecAbort:
		return xid(r.Xid) && rise(r.Subs, api.MaxSubs, r.Xid, api.MaxXid+1)
	case api.RecCleanup:
		return xidOrNone(r.Xid)
	case api.RecRunning:
		return next(r.Next) && rise(r.Subs, api.MaxRunning, 0, r.Next)
	case api.RecCheck:
		return next(r.Next) && r.Redo <= api.MaxPlace
	case api.RecSwitch:
		return r.Timeline >= 1 && r.Timeline <= math.MaxInt32 && r.Redo <= api.MaxPlace
	}
	return false
}

func xid(n uint64) bool {
	return n >= 1 && n <= api.MaxXid
}

func xidOrNone(n uint64) bool {
	return n == 0 || xid(n)
}

// next tells whether n may be the xid that is given out next: where all are given out, it is none any more.
func next(n uint64) bool {
	return xid(n) || n == api.MaxXid+1
}

func page(n int) bool {
	return n >= 0 && n < api.Pages
}

// piece tells whether so many bytes at that place are a piece of a page, behind its LSN and its sum.
func piece(off, size int) bool {
	return off >= api.PageHead && size >= 1 && size <= api.PageSize-off
}

// rise tells whether there are at most so many xids, each above the one ahead of it, the first above low, and the last below high.
func rise(l []uint64, most int, low, high uint64) bool {
	for _, x := range l {
		if x <= low {
			return false
		}
		low = x
	}
	return len(l) <= most && low < high
}
