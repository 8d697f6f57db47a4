package record_test

import (
	"bytes"
	"math"
	"slices"
	"testing"

	"understudy/api"
	"understudy/record"
)

// Promise P6.2.

// row is these records' bytes, one behind the other, and the place behind each.
func row(t *testing.T, at uint64, l ...api.Record) ([]byte, []uint64) {
	t.Helper()
	var b []byte
	var ends []uint64
	for _, r := range l {
		x := bytesOf(t, r, at)
		b = append(b, x...)
		at += uint64(len(x))
		ends = append(ends, at)
	}
	return b, ends
}

// goes wants that All, twice, goes over these records, and that Whole tells what they have.
func goes(t *testing.T, b []byte, at uint64, l []api.Record, ends []uint64) {
	t.Helper()
	was := bytes.Clone(b)
	all := record.All(b, at)
	for range 2 {
		n := 0
		for end, r := range all {
			if n == len(l) {
				t.Fatalf("at %d: more than %d records: %v", at, n, r)
			}
			if end != ends[n] || !alike(r, l[n]) {
				t.Errorf("at %d: record %d: %v up to %d, want %v up to %d", at, n, r, end, l[n], ends[n])
			}
			clear(r.Bytes)
			clear(r.Subs)
			n++
		}
		if n != len(l) {
			t.Errorf("at %d: %d records, want %d", at, n, len(l))
		}
	}
	size := 0
	if len(l) > 0 {
		size = int(ends[len(l)-1] - at)
	}
	if n := record.Whole(b, at); n != size {
		t.Errorf("at %d: Whole %d, want %d", at, n, size)
	}
	if !bytes.Equal(b, was) {
		t.Error("what was handed in is changed")
	}
}

func TestAllOfNothing(t *testing.T) {
	for _, at := range append(slices.Clone(places), wrongPlaces...) {
		for _, b := range [][]byte{nil, {}, {0}, make([]byte, 17), make([]byte, 3000), []byte("none")} {
			goes(t, b, at, nil, nil)
		}
	}
}

func TestAll(t *testing.T) {
	for _, at := range []uint64{0, 1, 1000, 1 << 40, greatest - 1<<20} {
		l := ordinary()
		for n := range len(l) + 1 {
			b, ends := row(t, at, l[:n]...)
			goes(t, b, at, l[:n], ends)
			for _, behind := range [][]byte{{0}, {0, 0, 0, 27}, make([]byte, 100), []byte("something else"), b} {
				if n > 0 {
					goes(t, append(bytes.Clone(b), behind...), at, l[:n], ends)
				}
			}
		}
		for _, other := range append(slices.Clone(wrongPlaces), at+1, at-1, 7) {
			b, _ := row(t, at, l...)
			goes(t, b, other, nil, nil)
		}
	}
}

func TestAllOfBytesThatAreCut(t *testing.T) {
	l := []api.Record{ordinary()[0], ordinary()[5], ordinary()[8], ordinary()[11], ordinary()[14]}
	b, ends := row(t, 100, l...)
	for n := range len(b) + 1 {
		whole := 0
		for whole < len(ends) && int(ends[whole]) <= 100+n {
			whole++
		}
		goes(t, b[:n], 100, l[:whole], ends[:whole])
	}
}

// TestAllEndsAtAWrongOne: what is right behind it is not gone over.
func TestAllEndsAtAWrongOne(t *testing.T) {
	l := ordinary()
	b, ends := row(t, 50, l...)
	for n := range l {
		from := 0
		if n > 0 {
			from = int(ends[n-1] - 50)
		}
		for _, bit := range []int{8 * 3, 8 * 11, 8 * 12, 8 * 16, 8*(int(ends[n]-50)-from) - 1} {
			c := bytes.Clone(b)
			c[from+bit/8] ^= 1 << (bit % 8)
			goes(t, c, 50, l[:n], ends[:n])
		}
		// It is whole, but stands at another place than it says.
		for _, at := range []uint64{0, 50, ends[n], ends[n] + 1, greatest} {
			if at == uint64(50+from) {
				continue
			}
			c := slices.Concat(b[:from], lay(l[n], at), b[ends[n]-50:])
			goes(t, c, 50, l[:n], ends[:n])
		}
		// Its sum is right, but there may be no such one.
		r := l[n]
		r.Xid, r.Next, r.Timeline = 4001, 4002, 1<<31
		c := slices.Concat(b[:from], lay(r, uint64(50+from)), b[ends[n]-50:])
		goes(t, c, 50, l[:n], ends[:n])
	}
}

// TestAllNearTheGreatestPlace: one may stand at it, none behind it.
func TestAllNearTheGreatestPlace(t *testing.T) {
	cleanup := api.Record{Kind: api.RecCleanup, Xid: 9}
	commit := api.Record{Kind: api.RecCommit, Xid: 9}
	for at := greatest - 60; at <= greatest; at++ {
		var b []byte
		var l []api.Record
		var ends []uint64
		end := at
		for i := range 5 {
			r := cleanup
			if i%2 == 1 {
				r = commit
			}
			x := lay(r, end)
			b = append(b, x...)
			if end <= greatest {
				l, ends = append(l, r), append(ends, end+uint64(len(x)))
			}
			end += uint64(len(x))
		}
		goes(t, b, at, l, ends)
	}
	for _, at := range wrongPlaces {
		goes(t, slices.Concat(lay(cleanup, at), lay(cleanup, at+25)), at, nil, nil)
	}
	goes(t, slices.Concat(lay(cleanup, math.MaxUint64-24), lay(cleanup, 0)), math.MaxUint64-24, nil, nil)
}

func TestAllLeft(t *testing.T) {
	l := ordinary()
	b, ends := row(t, 3, l...)
	all := record.All(b, 3)
	for stop := range len(l) {
		n := 0
		for end, r := range all {
			if end != ends[n] || !alike(r, l[n]) {
				t.Error(n, end, r)
			}
			n++
			if n > stop {
				break
			}
		}
		if n != stop+1 {
			t.Errorf("left behind %d records, want %d", n, stop+1)
		}
	}
	// One that is gone through in another one's loop goes its own way.
	n := 0
	for range all {
		for range all {
			n++
			if n%3 == 0 {
				break
			}
		}
	}
	if n != 3*len(l) {
		t.Error(n)
	}
	goes(t, b, 3, l, ends)
	all(nil)
}

// TestAllStays at what the bytes were as it was called.
func TestAllStays(t *testing.T) {
	l := ordinary()
	b, ends := row(t, 3, l...)
	all := record.All(b, 3)
	clear(b)
	n := 0
	for end, r := range all {
		if end != ends[n] || !alike(r, l[n]) {
			t.Error(n, end, r)
		}
		n++
	}
	if n != len(l) {
		t.Error(n)
	}
}

// TestAllOfAGreatLog: as many bytes as a log may have, in good time.
func TestAllOfAGreatLog(t *testing.T) {
	b := make([]byte, 0, api.MaxLog)
	count := 0
	for len(b)+33 <= api.MaxLog {
		b = append(b, bytesOf(t, ordinary()[count%2*12], uint64(len(b)))...)
		if count++; count%1000 == 0 {
			b = append(b, bytesOf(t, ordinary()[2], uint64(len(b)))...)
			count++
		}
	}
	n := 0
	for range record.All(b, 0) {
		n++
	}
	if n != count || record.Whole(b, 0) != len(b) {
		t.Error(n, count, record.Whole(b, 0), len(b))
	}
}
