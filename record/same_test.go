package record_test

import (
	"bytes"
	"math"
	"slices"
	"testing"

	"understudy/api"
	"understudy/record"
)

// Promise P6.3.

func same(t *testing.T, a, b api.Record, want bool) {
	t.Helper()
	if record.Same(a, b) != want || record.Same(b, a) != want {
		t.Errorf("%v, %v: want %v", a, b, want)
	}
}

func TestSameOfAllKinds(t *testing.T) {
	for i, a := range ordinary() {
		for j, b := range ordinary() {
			same(t, a, b, i == j)
		}
		same(t, a, api.Record{}, false)
	}
	same(t, api.Record{}, api.Record{}, true)
}

// TestSameButForOneField: also of records that may not be, whatever their kinds name.
func TestSameButForOneField(t *testing.T) {
	full := func() api.Record {
		return api.Record{Kind: 3, Xid: 7, Page: 7, Off: 7, Bytes: []byte{1, 2, 3}, Subs: []uint64{7, 8, 9}, Next: 7, Redo: 7, Timeline: 7}
	}
	for i, change := range []func(r *api.Record){
		func(r *api.Record) { r.Kind = 4 },
		func(r *api.Record) { r.Kind = 3 + 256 },
		func(r *api.Record) { r.Kind = -3 },
		func(r *api.Record) { r.Xid = 8 },
		func(r *api.Record) { r.Xid = 7 + 1<<32 },
		func(r *api.Record) { r.Page = 8 },
		func(r *api.Record) { r.Page = -7 },
		func(r *api.Record) { r.Page = 7 + 1<<16 },
		func(r *api.Record) { r.Off = 8 },
		func(r *api.Record) { r.Off = 7 + 1<<16 },
		func(r *api.Record) { r.Bytes[0] = 0 },
		func(r *api.Record) { r.Bytes[2] = 0 },
		func(r *api.Record) { r.Bytes = r.Bytes[:2] },
		func(r *api.Record) { r.Bytes = r.Bytes[1:] },
		func(r *api.Record) { r.Bytes = append(r.Bytes, 0) },
		func(r *api.Record) { r.Bytes = []byte{} },
		func(r *api.Record) { r.Bytes = nil },
		func(r *api.Record) { r.Subs[0] = 0 },
		func(r *api.Record) { r.Subs[2] = 9 + 1<<32 },
		func(r *api.Record) { r.Subs[0], r.Subs[1] = r.Subs[1], r.Subs[0] },
		func(r *api.Record) { r.Subs = r.Subs[:2] },
		func(r *api.Record) { r.Subs = append(r.Subs, 0) },
		func(r *api.Record) { r.Subs = []uint64{} },
		func(r *api.Record) { r.Subs = nil },
		func(r *api.Record) { r.Next = 8 },
		func(r *api.Record) { r.Redo = 8 },
		func(r *api.Record) { r.Redo = 7 + 1<<63 },
		func(r *api.Record) { r.Timeline = 8 },
	} {
		r := full()
		same(t, r, full(), true)
		change(&r)
		same(t, r, full(), false)
		same(t, r, r, true)
		if t.Failed() {
			t.Fatal(i)
		}
	}
	for name, change := range fields() {
		var r api.Record
		change(&r)
		if record.Same(r, api.Record{}) || record.Same(api.Record{}, r) {
			t.Errorf("%s is not looked at", name)
		}
	}
}

func TestSameOfNilAndEmptyLists(t *testing.T) {
	for _, r := range append(ordinary(), api.Record{}) {
		s := r
		s.Bytes, s.Subs = append([]byte{}, r.Bytes...), append([]uint64{}, r.Subs...)
		same(t, r, s, true)
		s.Bytes, s.Subs = append(make([]byte, 0, 2000), r.Bytes...), append(make([]uint64, 0, 300), r.Subs...)
		same(t, r, s, true)
		s.Bytes = append(s.Bytes, 0)
		same(t, r, s, false)
		s.Bytes, s.Subs = s.Bytes[:len(r.Bytes)], append(s.Subs, 0)
		same(t, r, s, false)
	}
}

func TestSameChangesNothing(t *testing.T) {
	a := api.Record{Bytes: []byte{3, 1, 2}, Subs: []uint64{3, 1, 2}}
	b := api.Record{Bytes: []byte{1, 2, 3}, Subs: []uint64{1, 2, 3}}
	same(t, a, b, false)
	if !bytes.Equal(a.Bytes, []byte{3, 1, 2}) || !slices.Equal(a.Subs, []uint64{3, 1, 2}) {
		t.Error(a)
	}
}

func TestName(t *testing.T) {
	for k, want := range []string{"", "change", "image", "commit", "abort", "cleanup", "running", "check", "switch", "", ""} {
		if got := record.Name(api.RecKind(k)); got != want {
			t.Errorf("%d: %q, want %q", k, got, want)
		}
	}
	for _, k := range []api.RecKind{-1, -8, 255, 256, 257, 264, 1<<32 + 1, math.MinInt, math.MaxInt} {
		if got := record.Name(k); got != "" {
			t.Errorf("%d: %q", k, got)
		}
	}
}
