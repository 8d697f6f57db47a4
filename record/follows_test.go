package record_test

import (
	"bytes"
	"encoding/binary"
	"hash/crc32"
	"math/rand/v2"
	"testing"

	"understudy/api"
	"understudy/record"
)

// Promise P6.4, and P0.6 of any bytes and any records.

// plain takes bytes apart in the plainest way.
type plain struct {
	b  []byte
	ok bool
}

func (p *plain) take(n int) []byte {
	if !p.ok || n > len(p.b) {
		p.ok = false
		return make([]byte, n)
	}
	x := p.b[:n]
	p.b = p.b[n:]
	return x
}

func (p *plain) long() uint64 { return binary.BigEndian.Uint64(p.take(8)) }
func (p *plain) short() int   { return int(binary.BigEndian.Uint16(p.take(2))) }

func (p *plain) subs() (l []uint64) {
	for range p.short() {
		l = append(l, p.long())
	}
	return l
}

// plainOf is Of, of a place that may be, in the plainest way.
func plainOf(b []byte, at uint64) (r api.Record, size int, ok bool) {
	if len(b) < 17 || uint64(binary.BigEndian.Uint32(b)) > uint64(len(b)) || binary.BigEndian.Uint32(b) < 17 {
		return r, 0, false
	}
	b = b[:binary.BigEndian.Uint32(b)]
	sum := crc32.Checksum(append(bytes.Clone(b[:12]), b[16:]...), crc32.MakeTable(crc32.Castagnoli))
	if binary.BigEndian.Uint64(b[4:]) != at || binary.BigEndian.Uint32(b[12:]) != sum {
		return r, 0, false
	}
	p := &plain{b[17:], true}
	r.Kind = api.RecKind(b[16])
	switch r.Kind {
	case 1:
		r.Xid, r.Page, r.Off, r.Bytes = p.long(), p.short(), p.short(), p.take(p.short())
	case 2:
		r.Xid, r.Page, r.Bytes = p.long(), p.short(), p.take(p.short())
	case 3, 4:
		r.Xid, r.Subs = p.long(), p.subs()
	case 5:
		r.Xid = p.long()
	case 6:
		r.Next, r.Subs = p.long(), p.subs()
	case 7:
		r.Redo, r.Next = p.long(), p.long()
	case 8:
		r.Timeline, r.Redo = p.long(), p.long()
	}
	if !p.ok || len(p.b) > 0 || !plainMay(r) {
		return api.Record{}, 0, false
	}
	return r, len(b), true
}

// plainMay is May, in the plainest way.
func plainMay(r api.Record) bool {
	named := api.Record{Kind: r.Kind}
	ok := true
	switch r.Kind {
	case 1:
		named.Xid, named.Page, named.Off, named.Bytes = r.Xid, r.Page, r.Off, r.Bytes
		ok = r.Xid <= 4000 && r.Page >= 0 && r.Page <= 127 && r.Off >= 12 && r.Off <= 1023 && len(r.Bytes) > 0 && r.Off+len(r.Bytes) <= 1024
	case 2:
		named.Xid, named.Page, named.Bytes = r.Xid, r.Page, r.Bytes
		ok = r.Xid <= 4000 && r.Page >= 0 && r.Page <= 127 && len(r.Bytes) == 1024
	case 3, 4:
		named.Xid, named.Subs = r.Xid, r.Subs
		ok = r.Xid > 0 && r.Xid <= 4000 && len(r.Subs) <= 64
		for i, x := range r.Subs {
			ok = ok && x > r.Xid && x <= 4000 && (i == 0 || x > r.Subs[i-1])
		}
	case 5:
		named.Xid = r.Xid
		ok = r.Xid <= 4000
	case 6:
		named.Next, named.Subs = r.Next, r.Subs
		ok = r.Next > 0 && r.Next <= 4001 && len(r.Subs) <= 256
		for i, x := range r.Subs {
			ok = ok && x > 0 && x < r.Next && (i == 0 || x > r.Subs[i-1])
		}
	case 7:
		named.Redo, named.Next = r.Redo, r.Next
		ok = r.Redo <= greatest && r.Next > 0 && r.Next <= 4001
	case 8:
		named.Timeline, named.Redo = r.Timeline, r.Redo
		ok = r.Timeline > 0 && r.Timeline < 1<<31 && r.Redo <= greatest
	default:
		ok = false
	}
	return ok && alike(r, named)
}

// near is a number about what it may be.
func near(rnd *rand.Rand, l ...uint64) uint64 {
	return l[rnd.IntN(len(l))] + uint64(rnd.IntN(5)) - 2
}

func anyXid(rnd *rand.Rand) uint64 {
	switch rnd.IntN(4) {
	case 0:
		return near(rnd, 2, 4000)
	case 1:
		return near(rnd, 0, 1<<32, 1<<63)
	}
	return 1 + rnd.Uint64N(4000)
}

func anySubs(rnd *rand.Rand, low uint64) (l []uint64) {
	for range rnd.IntN(4) * rnd.IntN(4) * rnd.IntN(34) {
		low += 1 + rnd.Uint64N(8)
		l = append(l, low)
	}
	if len(l) > 0 && rnd.IntN(4) == 0 {
		l[rnd.IntN(len(l))] = anyXid(rnd)
	}
	return l
}

// anyRecord is a record that may be, or is about to: all kinds, each field at or about its bounds.
func anyRecord(rnd *rand.Rand) api.Record {
	r := api.Record{Kind: api.RecKind(near(rnd, 2, 4, 6, 7))}
	switch r.Kind {
	case 1, 2:
		r.Xid, r.Page = anyXid(rnd), int(near(rnd, 2, 64, 126))
		if r.Kind == 1 {
			r.Off = int(near(rnd, 13, 500, 1022))
		}
		r.Bytes = some(max(0, 1024-r.Off+rnd.IntN(3)-1))
		if rnd.IntN(2) == 0 {
			r.Bytes = some(rnd.IntN(1025))
		}
	case 3, 4:
		r.Xid = anyXid(rnd)
		r.Subs = anySubs(rnd, r.Xid)
	case 5:
		r.Xid = anyXid(rnd)
	case 6:
		r.Subs = anySubs(rnd, 0)
		r.Next = anyXid(rnd)
		if len(r.Subs) > 0 && rnd.IntN(2) == 0 {
			r.Next = r.Subs[len(r.Subs)-1] + rnd.Uint64N(3)
		}
	case 7, 8:
		r.Redo = near(rnd, 2, 1<<32, greatest-2, greatest)
		if r.Kind == 7 {
			r.Next = anyXid(rnd)
		} else {
			r.Timeline = near(rnd, 2, 1<<31)
		}
	}
	return r
}

func TestAnyRecord(t *testing.T) {
	rnd := rand.New(rand.NewPCG(6, 1))
	there := map[api.RecKind]int{}
	for range 40000 {
		r := anyRecord(rnd)
		if rnd.IntN(4) == 0 { // with something that most kinds do not name
			for _, change := range fields() {
				if rnd.IntN(8) == 0 {
					change(&r)
				}
			}
		}
		at := near(rnd, 2, 1<<40, greatest-2)
		may := plainMay(r)
		b, e := record.Bytes(r, at)
		if record.May(r) != may || (e == api.OK) != may || e != api.OK && e != api.ErrArg {
			t.Fatalf("%v: May %v, Bytes %d, want %v", r, record.May(r), e, may)
		}
		if !may {
			continue
		}
		there[r.Kind]++
		if !bytes.Equal(b, lay(r, at)) || record.Size(r) != len(b) {
			t.Fatalf("%v: %x, want %x", r, b, lay(r, at))
		}
		begins(t, append(b, some(rnd.IntN(50))...), at, r, len(b))
		refused(t, b, (at+1+rnd.Uint64N(3))%(greatest+1), api.ErrBytes)
		refused(t, b[:rnd.IntN(len(b))], at, api.ErrBytes)
		if t.Failed() {
			t.Fatal(r)
		}
	}
	for k := range api.RecKind(8) {
		if there[k+1] < 300 {
			t.Error("too few of a kind", k+1, there[k+1])
		}
	}
}

// anyBytes are the bytes of a record that may be or not, somewhat changed, with a sum that is right mostly.
func anyBytes(rnd *rand.Rand, at uint64) []byte {
	b := lay(anyRecord(rnd), at)
	kind, body := b[16], b[17:]
	for range rnd.IntN(3) {
		if len(body) > 0 && rnd.IntN(2) == 0 {
			body[rnd.IntN(min(len(body), 16))] ^= 1 << rnd.IntN(8)
		}
	}
	switch rnd.IntN(6) {
	case 0:
		body = append(body, some(rnd.IntN(12))...)
	case 1:
		body = body[:rnd.IntN(len(body)+1)]
	}
	size := 17 + len(body)
	if rnd.IntN(6) == 0 {
		size += rnd.IntN(5) - 2
	}
	b = sealed(uint32(size), at, kind, body)
	if rnd.IntN(6) == 0 {
		b[rnd.IntN(len(b))] ^= 1 << rnd.IntN(8)
	}
	return append(b, some(rnd.IntN(3)*rnd.IntN(20))...)
}

func TestAnyBytes(t *testing.T) {
	rnd := rand.New(rand.NewPCG(6, 2))
	there := 0
	for range 60000 {
		at := near(rnd, 2, 1<<40, greatest-2)
		b := anyBytes(rnd, at)
		if r, size, ok := plainOf(b, at); ok {
			begins(t, b, at, r, size)
			there++
		} else {
			refused(t, b, at, api.ErrBytes)
		}
		if t.Failed() {
			t.Fatalf("%x at %d", b, at)
		}
	}
	if there < 5000 || there > 55000 {
		t.Error("too many of one sort", there)
	}
}

// TestNoBytesPanic: bytes of all sorts, of any size, at any place.
func TestNoBytesPanic(t *testing.T) {
	rnd := rand.New(rand.NewPCG(6, 3))
	for range 60000 {
		b := make([]byte, rnd.IntN(90))
		for i := range b {
			b[i] = byte(rnd.IntN(10)) * byte(rnd.IntN(2)) * byte(1+rnd.IntN(28))
		}
		at := rnd.Uint64() >> rnd.IntN(64)
		if rnd.IntN(2) == 0 && len(b) > 17 {
			b = append(sealed(uint32(len(b)), at, b[16], b[17:]), b[:rnd.IntN(len(b))]...)
		}
		r, size, ok := plainOf(b, at)
		switch {
		case at > greatest:
			refused(t, b, at, api.ErrArg)
		case ok:
			begins(t, b, at, r, size)
		default:
			refused(t, b, at, api.ErrBytes)
		}
		if n := record.Whole(b, at); n > len(b) || (n > 0) != (ok && at <= greatest) {
			t.Error("Whole", n, size)
		}
		if t.Failed() {
			t.Fatalf("%x at %d", b, at)
		}
	}
}

func turn(b []byte, bit int) {
	b[bit/8] ^= 1 << (bit % 8)
}

// short are records of all kinds but an image, of few bytes.
func short() []api.Record {
	return []api.Record{
		{Kind: api.RecChange, Xid: 5, Page: 7, Off: 12, Bytes: []byte{0}},
		{Kind: api.RecCommit, Xid: 5},
		{Kind: api.RecAbort, Xid: 5, Subs: []uint64{6}},
		{Kind: api.RecCleanup, Xid: 3},
		{Kind: api.RecRunning, Next: 3, Subs: []uint64{1, 2}},
		{Kind: api.RecCheck, Next: 3, Redo: 8},
		{Kind: api.RecSwitch, Timeline: 1},
	}
}

// TestOneBitTurned goes over all bits: also the first four bytes', behind which as much stands as they may tell.
func TestOneBitTurned(t *testing.T) {
	for _, at := range []uint64{0, 9, greatest} {
		for _, r := range append(short(), ordinary()...) {
			b := append(lay(r, at), make([]byte, 4096)...)
			for bit := range 8 * record.Size(r) {
				turn(b, bit)
				refused(t, b, at, api.ErrBytes)
				turn(b, bit)
			}
			begins(t, b, at, r, record.Size(r))
		}
	}
}

func TestTwoBitsTurned(t *testing.T) {
	for _, r := range short() {
		b := lay(r, 9)
		for first := 32; first < 8*len(b); first++ {
			turn(b, first)
			for second := first + 1; second < 8*len(b); second++ {
				turn(b, second)
				refused(t, b, 9, api.ErrBytes)
				turn(b, second)
			}
			turn(b, first)
		}
	}
}

// TestThreeBitsTurned: any three of one short record, and many of all others.
func TestThreeBitsTurned(t *testing.T) {
	b := lay(api.Record{Kind: api.RecCleanup}, 0)
	for first := 32; first < 8*len(b); first++ {
		turn(b, first)
		for second := first + 1; second < 8*len(b); second++ {
			turn(b, second)
			for third := second + 1; third < 8*len(b); third++ {
				turn(b, third)
				if _, _, e := record.Of(b, 0); e != api.ErrBytes {
					t.Fatal(first, second, third, e)
				}
				turn(b, third)
			}
			turn(b, second)
		}
		turn(b, first)
	}
	rnd := rand.New(rand.NewPCG(6, 4))
	for _, r := range append(short(), ordinary()...) {
		b := lay(r, 9)
		for range 3000 {
			c := bytes.Clone(b)
			for range 3 {
				turn(c, 32+rnd.IntN(8*len(b)-32))
			}
			if !bytes.Equal(c, b) {
				refused(t, c, 9, api.ErrBytes)
			}
		}
	}
}
