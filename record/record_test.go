package record_test

import (
	"bytes"
	"encoding/binary"
	"hash/crc32"
	"math"
	"reflect"
	"testing"

	"understudy/api"
	"understudy/record"
)

// What several of the tests need: records, and their bytes laid by hand.

const greatest = uint64(1) << 62

// places are some of those at which a record may stand, wrongPlaces some of those at which it may not.
var (
	places      = []uint64{0, 1, 8, 255, 256, 1 << 24, 1<<32 + 5, greatest - 1, greatest}
	wrongPlaces = []uint64{greatest + 1, greatest + 1000, 1 << 63, math.MaxUint64}
)

// sealed is the bytes of a kind and a body at that place, behind a head that says that they are size bytes, with their sum.
func sealed(size uint32, at uint64, kind byte, body []byte) []byte {
	b := binary.BigEndian.AppendUint32(nil, size)
	b = binary.BigEndian.AppendUint64(b, at)
	tail := append([]byte{kind}, body...)
	sum := crc32.Checksum(append(bytes.Clone(b), tail...), crc32.MakeTable(crc32.Castagnoli))
	return append(binary.BigEndian.AppendUint32(b, sum), tail...)
}

// laid is sealed with the size that it has, of numbers in 8 bytes (uint64) and in 2 (uint16), and texts.
func laid(at uint64, kind byte, l ...any) []byte {
	b := body(l...)
	return sealed(uint32(17+len(b)), at, kind, b)
}

func body(l ...any) (b []byte) {
	for _, x := range l {
		switch x := x.(type) {
		case uint64:
			b = binary.BigEndian.AppendUint64(b, x)
		case uint16:
			b = binary.BigEndian.AppendUint16(b, x)
		case string:
			b = append(b, x...)
		}
	}
	return b
}

// blob and list are what is laid of bytes, and of subs.
func blob(b []byte) string {
	return string(body(uint16(len(b)), string(b)))
}

func list(subs []uint64) string {
	l := []any{uint16(len(subs))}
	for _, x := range subs {
		l = append(l, x)
	}
	return string(body(l...))
}

// lay is a record's bytes by what its kind names, be that within its bounds or not.
func lay(r api.Record, at uint64) []byte {
	kind, page, off := byte(r.Kind), uint16(r.Page), uint16(r.Off)
	switch kind {
	case 1:
		return laid(at, kind, r.Xid, page, off, blob(r.Bytes))
	case 2:
		return laid(at, kind, r.Xid, page, blob(r.Bytes))
	case 3, 4:
		return laid(at, kind, r.Xid, list(r.Subs))
	case 5:
		return laid(at, kind, r.Xid)
	case 6:
		return laid(at, kind, r.Next, list(r.Subs))
	case 7:
		return laid(at, kind, r.Redo, r.Next)
	case 8:
		return laid(at, kind, r.Timeline, r.Redo)
	}
	return laid(at, kind)
}

// up is n xids, from first on, that many apart.
func up(n int, first, apart uint64) (l []uint64) {
	for range n {
		l = append(l, first)
		first += apart
	}
	return l
}

// some is n bytes that are not all alike.
func some(n int) []byte {
	b := make([]byte, n)
	for i := range b {
		b[i] = byte(i*7 + i/256 + 1)
	}
	return b
}

// ordinary are records of all kinds.
func ordinary() []api.Record {
	return []api.Record{
		{Kind: api.RecChange, Xid: 5, Page: 7, Off: 12, Bytes: []byte("ab")},
		{Kind: api.RecChange, Page: 127, Off: 258, Bytes: some(300)},
		{Kind: api.RecImage, Xid: 260, Page: 3, Bytes: some(1024)},
		{Kind: api.RecImage, Bytes: make([]byte, 1024)},
		{Kind: api.RecCommit, Xid: 5},
		{Kind: api.RecCommit, Xid: 5, Subs: []uint64{6, 9, 258}},
		{Kind: api.RecAbort, Xid: 4000},
		{Kind: api.RecAbort, Xid: 1000, Subs: []uint64{1001, 4000}},
		{Kind: api.RecCleanup},
		{Kind: api.RecCleanup, Xid: 3000},
		{Kind: api.RecRunning, Next: 1},
		{Kind: api.RecRunning, Next: 513, Subs: []uint64{1, 2, 512}},
		{Kind: api.RecCheck, Redo: 77, Next: 600},
		{Kind: api.RecCheck, Next: 4001},
		{Kind: api.RecSwitch, Timeline: 2, Redo: 99},
		{Kind: api.RecSwitch, Timeline: 65537, Redo: 1 << 40},
	}
}

// bytesOf is the record's bytes, which there must be.
func bytesOf(t *testing.T, r api.Record, at uint64) []byte {
	t.Helper()
	b, e := record.Bytes(r, at)
	if e != api.OK {
		t.Fatalf("Bytes of %v at %d: %d", r, at, e)
	}
	return b
}

// alike is Same, by the library, where nil and empty lists are one.
func alike(a, b api.Record) bool {
	for _, r := range []*api.Record{&a, &b} {
		if len(r.Bytes) == 0 {
			r.Bytes = nil
		}
		if len(r.Subs) == 0 {
			r.Subs = nil
		}
	}
	return reflect.DeepEqual(a, b)
}

// begins wants that b begins with that record's bytes, and that they are so many.
func begins(t *testing.T, b []byte, at uint64, want api.Record, size int) {
	t.Helper()
	r, n, e := record.Of(b, at)
	if e != api.OK || n != size || !alike(r, want) {
		t.Errorf("Of at %d: %d bytes, %d, %v; want %d, %v", at, n, e, r, size, want)
	}
}

// refused wants that error of Of, and nothing beside it.
func refused(t *testing.T, b []byte, at uint64, want api.Errno) {
	t.Helper()
	r, n, e := record.Of(b, at)
	if e != want || n != 0 || !reflect.DeepEqual(r, api.Record{}) {
		t.Errorf("Of %d bytes at %d: %v, %d, %d, want %d", len(b), at, r, n, e, want)
	}
}
