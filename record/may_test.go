package record_test

import (
	"bytes"
	"math"
	"slices"
	"testing"

	"understudy/api"
	"understudy/record"
)

// Promise P6.1.

// may wants of May, Bytes and Size that there may be that record, with the bytes that are laid by hand.
func may(t *testing.T, name string, r api.Record) {
	t.Helper()
	if !record.May(r) {
		t.Errorf("%s: it may be", name)
	}
	for _, at := range places {
		b, e := record.Bytes(r, at)
		if want := lay(r, at); e != api.OK || !bytes.Equal(b, want) || record.Size(r) != len(want) {
			t.Errorf("%s: at %d: %x, %d, size %d, want %x", name, at, b, e, record.Size(r), want)
		}
	}
	for _, at := range wrongPlaces {
		if b, e := record.Bytes(r, at); e != api.ErrArg || len(b) != 0 {
			t.Errorf("%s: at %d: %x, %d", name, at, b, e)
		}
	}
}

// mayNot wants that there may not be that record.
func mayNot(t *testing.T, name string, r api.Record) {
	t.Helper()
	if record.May(r) || record.Size(r) != 0 {
		t.Errorf("%s: it may not be: %v, size %d", name, record.May(r), record.Size(r))
	}
	for _, at := range append(slices.Clone(places), wrongPlaces...) {
		if b, e := record.Bytes(r, at); e != api.ErrArg || len(b) != 0 {
			t.Errorf("%s: at %d: %x, %d", name, at, b, e)
		}
	}
}

func TestOrdinaryRecords(t *testing.T) {
	for _, r := range ordinary() {
		may(t, record.Name(r.Kind), r)
	}
}

// TestTheExamples: the chapter's, and some records byte by byte.
func TestTheExamples(t *testing.T) {
	for i, x := range []struct {
		r    api.Record
		size int
	}{
		{api.Record{Kind: api.RecCommit, Xid: 5}, 27},
		{api.Record{Kind: api.RecChange, Xid: 5, Page: 7, Off: 12, Bytes: []byte("ab")}, 33},
		{api.Record{Kind: api.RecImage, Bytes: make([]byte, 1024)}, 1053},
		{api.Record{Kind: api.RecCleanup}, 25},
		{api.Record{Kind: api.RecAbort, Xid: 1, Subs: up(64, 2, 1)}, 27 + 64*8},
		{api.Record{Kind: api.RecRunning, Next: 4001, Subs: up(256, 1, 1)}, 27 + 256*8},
		{api.Record{Kind: api.RecCheck, Next: 1}, 33},
		{api.Record{Kind: api.RecSwitch, Timeline: 1}, 33},
		{api.Record{Kind: api.RecCommit}, 0},
	} {
		if size := record.Size(x.r); size != x.size {
			t.Errorf("%d: %d bytes, want %d", i, size, x.size)
		}
	}
	b := bytesOf(t, api.Record{Kind: api.RecCommit, Xid: 5}, 8)
	if want := []byte{0, 0, 0, 27, 0, 0, 0, 0, 0, 0, 0, 8, 0xd2, 0xbc, 0x05, 0x5f, 3, 0, 0, 0, 0, 0, 0, 0, 5, 0, 0}; !bytes.Equal(b, want) {
		t.Errorf("%#v", b)
	}
	b = bytesOf(t, api.Record{Kind: api.RecChange, Xid: 0x102, Page: 3, Off: 0x104, Bytes: []byte("ab")}, 1<<62)
	if want := []byte{0, 0, 0, 33, 64, 0, 0, 0, 0, 0, 0, 0, 0xff, 0x47, 0x60, 0xba, 1, 0, 0, 0, 0, 0, 0, 1, 2, 0, 3, 1, 4, 0, 2, 'a', 'b'}; !bytes.Equal(b, want) {
		t.Errorf("%#v", b)
	}
	b = bytesOf(t, api.Record{Kind: api.RecCheck, Redo: 0x0102030405060708, Next: 0x0fa1}, 0)
	if want := []byte{7, 1, 2, 3, 4, 5, 6, 7, 8, 0, 0, 0, 0, 0, 0, 0x0f, 0xa1}; !bytes.Equal(b[16:], want) {
		t.Errorf("%#v", b[16:])
	}
	b = bytesOf(t, api.Record{Kind: api.RecSwitch, Timeline: 0x01020304, Redo: 5}, 0)
	if want := []byte{8, 0, 0, 0, 0, 1, 2, 3, 4, 0, 0, 0, 0, 0, 0, 0, 5}; !bytes.Equal(b[16:], want) {
		t.Errorf("%#v", b[16:])
	}
	b = bytesOf(t, api.Record{Kind: api.RecRunning, Next: 9, Subs: []uint64{2, 8}}, 0)
	if want := []byte{6, 0, 0, 0, 0, 0, 0, 0, 9, 0, 2, 0, 0, 0, 0, 0, 0, 0, 2, 0, 0, 0, 0, 0, 0, 0, 8}; !bytes.Equal(b[16:], want) {
		t.Errorf("%#v", b[16:])
	}
}

// edge is a record at a bound, or one beyond it.
type edge struct {
	name string
	r    api.Record
	may  bool
}

// pageEdges are those of the kinds that tell of a page.
func pageEdges() []edge {
	change := func(page, off, n int) api.Record {
		return api.Record{Kind: api.RecChange, Xid: 1, Page: page, Off: off, Bytes: some(n)}
	}
	image := func(page, n int) api.Record {
		return api.Record{Kind: api.RecImage, Xid: 1, Page: page, Bytes: some(n)}
	}
	return []edge{
		{"change of page 0", change(0, 12, 1), true},
		{"change of page 127", change(127, 12, 1), true},
		{"change of page 128", change(128, 12, 1), false},
		{"change of page -1", change(-1, 12, 1), false},
		{"change of page 65536", change(65536, 12, 1), false},
		{"change of the least page", change(math.MinInt, 12, 1), false},
		{"change of the greatest page", change(math.MaxInt, 12, 1), false},
		{"change at 0", change(0, 0, 1), false},
		{"change at 11", change(0, 11, 1), false},
		{"change at 11, to the end", change(0, 11, 1013), false},
		{"change at 1023", change(0, 1023, 1), true},
		{"change at 1023, one more", change(0, 1023, 2), false},
		{"change at 1024", change(0, 1024, 1), false},
		{"change at 1024, of nothing", change(0, 1024, 0), false},
		{"change at 1025", change(0, 1025, 1), false},
		{"change at -1", change(0, -1, 1), false},
		{"change at the least place", change(0, math.MinInt, 1), false},
		{"change at the greatest place", change(0, math.MaxInt, 1), false},
		{"change at 65548", change(0, 65548, 1), false},
		{"change of nothing", change(0, 12, 0), false},
		{"change of all", change(0, 12, 1012), true},
		{"change of all, and one more", change(0, 12, 1013), false},
		{"change of as much as a page", change(0, 12, 1024), false},
		{"change to the end", change(0, 500, 524), true},
		{"change to one behind the end", change(0, 500, 525), false},
		{"change that is longer than a blob", change(0, 12, 65536+12), false},
		{"image of page 0", image(0, 1024), true},
		{"image of page 127", image(127, 1024), true},
		{"image of page 128", image(128, 1024), false},
		{"image of page -1", image(-1, 1024), false},
		{"image of page 65536", image(65536, 1024), false},
		{"image of 1023 bytes", image(0, 1023), false},
		{"image of 1025 bytes", image(0, 1025), false},
		{"image of nothing", image(0, 0), false},
		{"image that is longer than a blob", image(0, 65536+1024), false},
	}
}

// xidEdges are those of an Xid, of which kinds that name nobody's may have 0.
func xidEdges() (l []edge) {
	for _, r := range []api.Record{
		{Kind: api.RecChange, Page: 1, Off: 12, Bytes: some(1)},
		{Kind: api.RecImage, Page: 1, Bytes: some(1024)},
		{Kind: api.RecCommit},
		{Kind: api.RecAbort},
		{Kind: api.RecCleanup},
	} {
		nobody := r.Kind != api.RecCommit && r.Kind != api.RecAbort
		for xid, may := range map[uint64]bool{0: nobody, 1: true, 3999: true, 4000: true, 4001: false, 1<<32 + 1: false, 1 << 63: false, math.MaxUint64: false} {
			r.Xid = xid
			l = append(l, edge{record.Name(r.Kind) + " of an xid", r, may})
		}
	}
	return l
}

// subsEdges are those of xids that rise.
func subsEdges() (l []edge) {
	for _, kind := range []api.RecKind{api.RecCommit, api.RecAbort} {
		ending := func(name string, may bool, xid uint64, subs ...uint64) {
			l = append(l, edge{record.Name(kind) + " " + name, api.Record{Kind: kind, Xid: xid, Subs: subs}, may})
		}
		ending("of 64 subs", true, 1, up(64, 2, 1)...)
		ending("of 65 subs", false, 1, up(65, 2, 1)...)
		ending("of 64 last subs", true, 1, up(64, 3937, 1)...)
		ending("of many subs", false, 1, up(3999, 2, 1)...)
		ending("of 65536 subs", false, 1, up(65536, 2, 0)...)
		ending("of a sub that is one above", true, 7, 8)
		ending("of a sub that is the same", false, 7, 7)
		ending("of a sub that is one below", false, 7, 6)
		ending("of a later sub that is the same", false, 7, 8, 7)
		ending("of the greatest sub", true, 7, 4000)
		ending("of a sub that is too great", false, 7, 4001)
		ending("of a last sub that is too great", false, 7, 8, 4000, 4001)
		ending("of a far sub", false, 7, math.MaxUint64)
		ending("of a far sub, and one that would be next", false, 7, math.MaxUint64, 0)
		ending("of sub 0", false, 7, 0)
		ending("of subs twice", false, 7, 8, 8)
		ending("of subs that fall", false, 7, 9, 8)
		ending("of last subs that fall", false, 7, 8, 10, 9)
		ending("of no xid and a sub", false, 0, 1)
		ending("of the greatest xid and a sub", false, 4000, 4001)
		ending("of the last but one and a sub", true, 3999, 4000)
		ending("of a wrong xid and a sub", false, 4001, 4002)
	}
	return l
}

// nextEdges are those of the kinds that tell the next xid, and of places and timelines.
func nextEdges() (l []edge) {
	add := func(name string, may bool, r api.Record) {
		l = append(l, edge{record.Name(r.Kind) + " " + name, r, may})
	}
	running := func(name string, may bool, next uint64, subs ...uint64) {
		add(name, may, api.Record{Kind: api.RecRunning, Next: next, Subs: subs})
	}
	running("of 256 subs", true, 4001, up(256, 1, 1)...)
	running("of 257 subs", false, 4001, up(257, 1, 1)...)
	running("of 256 last subs", true, 4001, up(256, 3745, 1)...)
	running("of 65536 subs", false, 4001, up(65536, 1, 0)...)
	running("of a sub that is one below", true, 10, 9)
	running("of a sub that is the next", false, 10, 10)
	running("of a sub that is one above", false, 10, 11)
	running("of a last sub that is the next", false, 10, 8, 9, 10)
	running("of sub 0", false, 10, 0)
	running("of sub 0 and more", false, 10, 0, 1)
	running("of sub 1", true, 10, 1)
	running("of next 1 and a sub", false, 1, 1)
	running("of next 2 and a sub", true, 2, 1)
	running("of the greatest sub", true, 4001, 4000)
	running("of a sub that is too great", false, 4001, 4001)
	running("of a far next, and a sub below", false, 4002, 4001)
	running("of subs twice", false, 10, 8, 8)
	running("of subs that fall", false, 10, 2, 4, 3)
	for next, may := range map[uint64]bool{0: false, 1: true, 2: true, 4000: true, 4001: true, 4002: false, 1<<32 + 1: false, math.MaxUint64: false} {
		running("of a next", may, next)
		add("of a next", may, api.Record{Kind: api.RecCheck, Next: next})
		add("of a next and a place", may, api.Record{Kind: api.RecCheck, Next: next, Redo: greatest})
	}
	for place, may := range map[uint64]bool{0: true, 1: true, greatest - 1: true, greatest: true, greatest + 1: false, 1 << 63: false, math.MaxUint64: false} {
		add("of a place", may, api.Record{Kind: api.RecCheck, Next: 1, Redo: place})
		add("of a place", may, api.Record{Kind: api.RecSwitch, Timeline: 1, Redo: place})
	}
	for timeline, may := range map[uint64]bool{0: false, 1: true, 2: true, 1<<31 - 2: true, 1<<31 - 1: true, 1 << 31: false, 1 << 32: false, 1<<32 + 1: false, math.MaxUint64: false} {
		add("of a timeline", may, api.Record{Kind: api.RecSwitch, Timeline: timeline})
		add("of a timeline and a place", may, api.Record{Kind: api.RecSwitch, Timeline: timeline, Redo: greatest})
	}
	return l
}

func edges() []edge {
	return slices.Concat(pageEdges(), xidEdges(), subsEdges(), nextEdges())
}

func TestEdges(t *testing.T) {
	for _, x := range edges() {
		if x.may {
			may(t, x.name, x.r)
		} else {
			mayNot(t, x.name, x.r)
		}
	}
}

func TestNoSuchKind(t *testing.T) {
	for _, kind := range []api.RecKind{0, 9, 10, 255, -1, -8, 256, 257, 264, 65537, 1<<32 + 3, math.MinInt, math.MaxInt} {
		for _, r := range append(ordinary(), api.Record{}) {
			r.Kind = kind
			mayNot(t, "no such kind", r)
		}
	}
	mayNot(t, "nothing", api.Record{})
}

// fields are all that a record may name, each as a change of it.
func fields() map[string]func(r *api.Record) {
	return map[string]func(r *api.Record){
		"xid":      func(r *api.Record) { r.Xid = 1 },
		"page":     func(r *api.Record) { r.Page = 1 },
		"off":      func(r *api.Record) { r.Off = 12 },
		"bytes":    func(r *api.Record) { r.Bytes = []byte{0} },
		"subs":     func(r *api.Record) { r.Subs = []uint64{0} },
		"next":     func(r *api.Record) { r.Next = 1 },
		"redo":     func(r *api.Record) { r.Redo = 1 },
		"timeline": func(r *api.Record) { r.Timeline = 1 },
	}
}

func TestWhatIsNotNamedIsZero(t *testing.T) {
	names := map[api.RecKind][]string{
		api.RecChange:  {"xid", "page", "off", "bytes"},
		api.RecImage:   {"xid", "page", "bytes"},
		api.RecCommit:  {"xid", "subs"},
		api.RecAbort:   {"xid", "subs"},
		api.RecCleanup: {"xid"},
		api.RecRunning: {"next", "subs"},
		api.RecCheck:   {"redo", "next"},
		api.RecSwitch:  {"timeline", "redo"},
	}
	looked := 0
	for _, r := range ordinary() {
		for name, change := range fields() {
			if slices.Contains(names[r.Kind], name) {
				continue
			}
			looked++
			was := r
			change(&r)
			mayNot(t, record.Name(r.Kind)+" with "+name, r)
			r = was
		}
		r.Bytes, r.Subs = append([]byte{}, r.Bytes...), append([]uint64{}, r.Subs...)
		may(t, record.Name(r.Kind)+" with empty lists", r)
	}
	if looked != 2*(4+5+6+6+7+6+6+6) {
		t.Error("not all was looked at", looked)
	}
	negative := api.Record{Kind: api.RecCleanup, Page: -1}
	mayNot(t, "a page below 0", negative)
	mayNot(t, "an off below 0", api.Record{Kind: api.RecCommit, Xid: 1, Off: math.MinInt})
	mayNot(t, "bits above the lowest", api.Record{Kind: api.RecCommit, Xid: 1, Redo: 1 << 63})
}

// TestBytesAreNew: what is handed in is neither changed nor kept, and what was answered is the caller's.
func TestBytesAreNew(t *testing.T) {
	for _, r := range ordinary() {
		in, subs := append(bytes.Clone(r.Bytes), "???"...), append(slices.Clone(r.Subs), 99, 99)
		own := r
		own.Bytes, own.Subs = in[:len(r.Bytes)], subs[:len(r.Subs)]
		b := bytesOf(t, own, 8)
		other := bytesOf(t, own, 8)
		if !alike(own, r) || string(in[len(r.Bytes):]) != "???" || !slices.Equal(subs[len(r.Subs):], []uint64{99, 99}) {
			t.Error("what was handed in is changed", r.Kind)
		}
		clear(in)
		clear(subs)
		_ = append(other[:0], bytes.Repeat([]byte{7}, len(other))...)
		if !bytes.Equal(b, lay(r, 8)) {
			t.Error("what was answered is changed", r.Kind)
		}
	}
}
