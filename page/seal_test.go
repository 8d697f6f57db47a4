package page_test

import (
	"bytes"
	"encoding/binary"
	"hash/crc32"
	"math"
	"math/rand/v2"
	"testing"

	"understudy/api"
	"understudy/page"
)

// Promise P5.4.

func TestLSN(t *testing.T) {
	var p api.Page
	copy(p[:], []byte{1, 2, 3, 4, 5, 6, 7, 8, 9})
	if page.LSN(p) != 0x0102030405060708 {
		t.Error(page.LSN(p))
	}
	rnd := rand.New(rand.NewPCG(5, 4))
	for range 500 {
		p := anyPage(rnd)
		if page.LSN(p) != binary.BigEndian.Uint64(p[:]) {
			t.Error(page.LSN(p), p[:8])
		}
	}
	for _, lsn := range []uint64{0, 1, 255, 256, 1 << 31, 1 << 32, 1 << 62, 1 << 63, math.MaxUint64} {
		if got := page.LSN(page.Seal(page.Init(1), lsn)); got != lsn {
			t.Error(lsn, got)
		}
	}
}

// plainSum is the sum of all bytes but its own.
func plainSum(p api.Page) uint32 {
	t := crc32.MakeTable(crc32.Castagnoli)
	return crc32.Update(crc32.Checksum(p[:8], t), t, p[12:])
}

func TestSeal(t *testing.T) {
	rnd := rand.New(rand.NewPCG(5, 5))
	for i := range 500 {
		p := anyPage(rnd)
		if i == 0 {
			p = api.Page{}
		}
		lsn := rnd.Uint64()
		want := p
		binary.BigEndian.PutUint64(want[:], lsn)
		binary.BigEndian.PutUint32(want[8:], plainSum(want))
		s := page.Seal(p, lsn)
		same(t, s, want)
		if !page.Good(s) || page.LSN(s) != lsn {
			t.Fatal(page.Good(s), page.LSN(s), lsn)
		}
		same(t, page.Seal(s, lsn), s)
		same(t, page.Seal(page.Seal(p, 1), lsn), s)
	}
}

func TestGood(t *testing.T) {
	if page.Good(api.Page{}) || page.Good(page.Init(3)) {
		t.Error("what was not sealed")
	}
	rnd := rand.New(rand.NewPCG(5, 6))
	for range 500 {
		p := anyPage(rnd)
		if page.Good(p) {
			t.Error("a page of any bytes")
		}
		binary.BigEndian.PutUint32(p[8:], plainSum(p))
		if !page.Good(p) {
			t.Error("its sum is right", p[:12])
		}
	}
	// A page that is not right may be good, and one that is right need not.
	if p := page.Seal(lay(17), 5); !page.Good(p) || page.Right(p) {
		t.Error(page.Good(p), page.Right(p))
	}
}

func TestDiff(t *testing.T) {
	rnd := rand.New(rand.NewPCG(5, 7))
	a := anyPage(rnd)
	for i, x := range []struct {
		turned []int
		at     int
		size   int
	}{
		{nil, 1024, 0},
		{[]int{0}, 1024, 0},
		{[]int{11}, 1024, 0},
		{[]int{0, 1, 2, 3, 4, 5, 6, 7, 8, 9, 10, 11}, 1024, 0},
		{[]int{12}, 12, 1},
		{[]int{11, 12}, 12, 1},
		{[]int{13}, 13, 1},
		{[]int{1023}, 1023, 1},
		{[]int{1022}, 1022, 1},
		{[]int{0, 1023}, 1023, 1},
		{[]int{12, 1023}, 12, 1012},
		{[]int{12, 500, 1023}, 12, 1012},
		{[]int{5, 20, 30}, 20, 11},
		{[]int{20, 21}, 20, 2},
		{[]int{100, 400, 700}, 100, 601},
	} {
		b := a
		for _, at := range x.turned {
			b[at] ^= byte(1 + rnd.IntN(255))
		}
		at, d := page.Diff(a, b)
		if at != x.at || len(d) != x.size || !bytes.Equal(d, b[at:at+len(d)]) {
			t.Errorf("%d: %d, %d bytes", i, at, len(d))
		}
		back, d := page.Diff(b, a)
		if back != x.at || len(d) != x.size || !bytes.Equal(d, a[at:at+len(d)]) {
			t.Errorf("%d, the other way: %d, %d bytes", i, back, len(d))
		}
	}
	at, d := page.Diff(api.Page{}, api.Page{})
	if at != 1024 || len(d) != 0 {
		t.Error("noughts", at, d)
	}
}

func TestDiffIsTheCallers(t *testing.T) {
	a, b := page.Init(1), page.Init(1)
	copy(b[100:], "abc")
	_, d := page.Diff(a, b)
	clear(d)
	_ = append(d, "????"...)
	if string(b[100:104]) != "abc\x00" || a != page.Init(1) {
		t.Error(b[100:104])
	}
}
