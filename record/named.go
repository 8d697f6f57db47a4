package record

import (
	"understudy/api"
	"understudy/wire"
)

// In how many bytes numbers stand: those that go far, and those of a page, or of a list's length.
const (
	wide   = 8
	narrow = 2
)

// pen goes over what a record names: one writes it, another one reads it. So both keep to one order.
type pen interface {
	wide(n *uint64)
	narrow(n *int)
	blob(b *[]byte)
	list(l *[]uint64)
}

// record has a method for each row of what kinds name.
type record api.Record

// named says what goes over what a kind names.
func named() map[api.RecKind]func(*record, pen) {
	return map[api.RecKind]func(*record, pen){
		api.RecChange:  (*record).change,
		api.RecImage:   (*record).image,
		api.RecCommit:  (*record).ending,
		api.RecAbort:   (*record).ending,
		api.RecCleanup: (*record).cleanup,
		api.RecRunning: (*record).running,
		api.RecCheck:   (*record).check,
		api.RecSwitch:  (*record).turn,
	}
}

func (r *record) change(p pen) {
	p.wide(&r.Xid)
	p.narrow(&r.Page)
	p.narrow(&r.Off)
	p.blob(&r.Bytes)
}

func (r *record) image(p pen) {
	p.wide(&r.Xid)
	p.narrow(&r.Page)
	p.blob(&r.Bytes)
}

func (r *record) ending(p pen) {
	p.wide(&r.Xid)
	p.list(&r.Subs)
}

func (r *record) cleanup(p pen) {
	p.wide(&r.Xid)
}

func (r *record) running(p pen) {
	p.wide(&r.Next)
	p.list(&r.Subs)
}

func (r *record) check(p pen) {
	p.wide(&r.Redo)
	p.wide(&r.Next)
}

func (r *record) turn(p pen) {
	p.wide(&r.Timeline)
	p.wide(&r.Redo)
}

// written is what the record names, as bytes. It may be, so its kind is there.
func written(r api.Record) []byte {
	var w writer
	over, own := named()[r.Kind], record(r)
	over(&own, &w)
	return w.b
}

// read is the record whose kind, and what that names, are all of b.
func read(b []byte) (api.Record, api.Errno) {
	in := wire.Read(b)
	r := record{Kind: api.RecKind(in.Number(headSize - kindAt))}
	over, ok := named()[r.Kind]
	if !ok {
		return api.Record{}, api.ErrBytes
	}
	over(&r, reader{in})
	return api.Record(r), in.End()
}

type writer struct{ b []byte }

func (w *writer) wide(n *uint64) {
	w.b = append(w.b, number(*n, wide)...)
}

func (w *writer) narrow(n *int) {
	w.b = append(w.b, number(uint64(*n), narrow)...)
}

// blob is not refused: what may be is no longer than a page.
func (w *writer) blob(b *[]byte) {
	blob, _ := wire.Blob(*b)
	w.b = append(w.b, blob...)
}

func (w *writer) list(l *[]uint64) {
	count := len(*l)
	w.narrow(&count)
	for _, x := range *l {
		w.wide(&x)
	}
}

type reader struct{ in *wire.Reader }

func (r reader) wide(n *uint64) {
	*n = r.in.Number(wide)
}

func (r reader) narrow(n *int) {
	*n = int(r.in.Number(narrow))
}

func (r reader) blob(b *[]byte) {
	*b = r.in.Blob()
}

// list gets noughts where it is told of more than is there: then the end is not come to.
func (r reader) list(l *[]uint64) {
	for range r.in.Number(narrow) {
		*l = append(*l, r.in.Number(wide))
	}
}

// number is n in so many bytes. What may be fits, so nothing is refused.
func number(n uint64, size int) []byte {
	b, _ := wire.Put(n, size)
	return b
}
