package wire_test

import (
	"bytes"
	"math"
	"math/rand/v2"
	"testing"

	"understudy/api"
	"understudy/wire"
)

// step asks a reader for one thing: the bytes that it got, numbers written in so many.
type step func(r *wire.Reader) []byte

func number(size int) step {
	return func(r *wire.Reader) []byte {
		b, _ := wire.Put(r.Number(size), size)
		return b
	}
}

func blob(r *wire.Reader) []byte { return r.Blob() }

func some(n int) step {
	return func(r *wire.Reader) []byte { return r.Bytes(n) }
}

// gone looks at a reader of which nothing can be got, whose End says why.
func gone(t *testing.T, name string, r *wire.Reader, why api.Errno) {
	t.Helper()
	for range 2 {
		if !r.Failed() || r.Left() != 0 || r.End() != why {
			t.Errorf("%s: %v, %d, %d", name, r.Failed(), r.Left(), r.End())
		}
		for _, n := range []int{0, 1, 8, 9, -1} {
			if x := r.Number(n); x != 0 {
				t.Errorf("%s: Number(%d): %d", name, n, x)
			}
			if x := r.Bytes(n); len(x) != 0 {
				t.Errorf("%s: Bytes(%d): %v", name, n, x)
			}
		}
		if x := r.Blob(); len(x) != 0 {
			t.Errorf("%s: Blob: %v", name, x)
		}
	}
}

func TestReaderThatReadDidNotMake(t *testing.T) {
	var none *wire.Reader
	gone(t, "nil", none, api.ErrNil)
	gone(t, "zero", &wire.Reader{}, api.ErrNil)
	var zero wire.Reader
	gone(t, "a zero value", &zero, api.ErrNil)
}

func TestReaderOfNothing(t *testing.T) {
	for i, b := range [][]byte{nil, {}} {
		r := wire.Read(b)
		if r == nil || r.Failed() || r.Left() != 0 || r.End() != api.OK {
			t.Errorf("%d: %v, %d, %d", i, r.Failed(), r.Left(), r.End())
		}
		if x := r.Bytes(0); len(x) != 0 || r.Failed() || r.End() != api.OK {
			t.Errorf("%d: of no bytes none are there", i)
		}
		for _, f := range []step{number(1), number(8), blob, some(1), some(-1)} {
			r := wire.Read(b)
			f(r)
			gone(t, "of nothing", r, api.ErrBytes)
		}
	}
}

func TestReaderGoesOn(t *testing.T) {
	r := wire.Read([]byte{0, 2, 'a', 'b', 1, 0, 5, 0, 0, 9, 8, 7})
	if r.Left() != 12 || r.Failed() || r.End() != api.ErrBytes {
		t.Error("ahead of all", r.Left(), r.Failed(), r.End())
	}
	if x := r.Blob(); string(x) != "ab" || r.Left() != 8 {
		t.Error("Blob", x, r.Left())
	}
	if x := r.Number(2); x != 256 || r.Left() != 6 {
		t.Error("Number(2)", x, r.Left())
	}
	if x := r.Number(1); x != 5 || r.Left() != 5 {
		t.Error("Number(1)", x, r.Left())
	}
	if x := r.Blob(); len(x) != 0 || r.Left() != 3 || r.Failed() {
		t.Error("a blob of no bytes", x, r.Left())
	}
	if x := r.Bytes(0); len(x) != 0 || r.Left() != 3 || r.Failed() {
		t.Error("Bytes(0)", x, r.Left())
	}
	if r.End() != api.ErrBytes || r.Failed() || r.Left() != 3 {
		t.Error("End breaks nothing", r.End(), r.Failed(), r.Left())
	}
	if x := r.Bytes(3); !bytes.Equal(x, []byte{9, 8, 7}) || r.Left() != 0 {
		t.Error("Bytes(3)", x, r.Left())
	}
	if r.End() != api.OK || r.Failed() {
		t.Error("at the end", r.End(), r.Failed())
	}
	r.Number(1)
	gone(t, "behind the end", r, api.ErrBytes)
}

func TestNumberOfEachSize(t *testing.T) {
	b := []byte{1, 2, 3, 4, 5, 6, 7, 8, 9}
	for size := 1; size <= 8; size++ {
		r := wire.Read(b)
		want, _ := wire.Get(b[:size])
		if n := r.Number(size); n != want || r.Left() != len(b)-size || r.Failed() {
			t.Errorf("Number(%d): %d, %d left", size, n, r.Left())
		}
		r = wire.Read(b[:size])
		if n := r.Number(size); n != want || r.End() != api.OK {
			t.Errorf("Number(%d) of as many: %d, %d", size, n, r.End())
		}
		r = wire.Read(b[:size-1])
		if n := r.Number(size); n != 0 {
			t.Errorf("Number(%d) of one less: %d", size, n)
		}
		gone(t, "one byte less", r, api.ErrBytes)
	}
}

func TestStepsThatBreak(t *testing.T) {
	plenty := make([]byte, 1000)
	for _, size := range wrongSizes {
		r := wire.Read(plenty)
		if n := r.Number(size); n != 0 {
			t.Errorf("Number(%d): %d", size, n)
		}
		gone(t, "a wrong size", r, api.ErrBytes)
	}
	for _, n := range []int{-1, -2, math.MinInt, 1001, math.MaxInt} {
		r := wire.Read(plenty)
		if x := r.Bytes(n); len(x) != 0 {
			t.Errorf("Bytes(%d): %d bytes", n, len(x))
		}
		gone(t, "so many bytes", r, api.ErrBytes)
	}
	for _, b := range [][]byte{{0}, {0, 1}, {0, 3, 'a', 'b'}, {1, 0, 1, 2}, {255, 255}, append([]byte{255, 255}, make([]byte, 65534)...)} {
		r := wire.Read(b)
		if x := r.Blob(); len(x) != 0 {
			t.Errorf("Blob of %d bytes: %d bytes", len(b), len(x))
		}
		gone(t, "a blob that is cut", r, api.ErrBytes)
	}
	r := wire.Read([]byte{0, 1, 7, 9})
	if x := r.Blob(); !bytes.Equal(x, []byte{7}) || r.Left() != 1 || r.Number(2) != 0 {
		t.Error("the chapter's example", x)
	}
	gone(t, "the chapter's example", r, api.ErrBytes)
}

func TestReaderHasItsOwnCopy(t *testing.T) {
	b := []byte{0, 1, 7, 1, 2, 3, 4}
	r := wire.Read(b)
	clear(b)
	x := r.Blob()
	y := r.Bytes(2)
	if !bytes.Equal(x, []byte{7}) || !bytes.Equal(y, []byte{1, 2}) {
		t.Error("what becomes of b is seen", x, y)
	}
	x[0], y[0] = 99, 99
	x = append(x, 88, 88, 88)
	y = append(y, 77, 77)
	if !bytes.Equal(y, []byte{99, 2, 77, 77}) || r.Number(2) != 0x0304 || r.End() != api.OK {
		t.Error("what becomes of an answer is seen", x, y)
	}
	if !bytes.Equal(b, make([]byte, 7)) {
		t.Error("what was handed in is changed", b)
	}
	b = []byte{5, 6}
	wire.Read(b).Bytes(2)[0] = 9
	if b[0] != 5 {
		t.Error("an answer shares with what was handed in")
	}
}

// put is something that was put, and the step that asks for it again.
type put struct {
	bytes, want []byte
	ask         step
}

func anyPut(rnd *rand.Rand) put {
	switch rnd.IntN(3) {
	case 0:
		size := 1 + rnd.IntN(8)
		b, _ := wire.Put(rnd.Uint64()&greatest(size), size)
		return put{b, b, number(size)}
	case 1:
		in := anyBytes(rnd, rnd.IntN(9))
		b, _ := wire.Blob(in)
		return put{b, in, blob}
	}
	in := anyBytes(rnd, rnd.IntN(9))
	return put{in, in, some(len(in))}
}

func anyBytes(rnd *rand.Rand, n int) []byte {
	b := make([]byte, n)
	for i := range b {
		b[i] = byte(rnd.Uint64())
	}
	return b
}

func TestWhatWasPutIsGot(t *testing.T) {
	rnd := rand.New(rand.NewPCG(1, 1))
	for range 2000 {
		var l [][]byte
		var puts []put
		for range rnd.IntN(12) {
			p := anyPut(rnd)
			l, puts = append(l, p.bytes), append(puts, p)
		}
		r := wire.Read(wire.Join(l...))
		for _, p := range puts {
			if got := p.ask(r); !bytes.Equal(got, p.want) {
				t.Fatalf("put %v, got %v", p.want, got)
			}
		}
		if r.Failed() || r.End() != api.OK {
			t.Fatal("it does not come to the end", r.Left(), r.End())
		}
	}
	long := bytes.Repeat([]byte{3}, 65535)
	b, _ := wire.Blob(long)
	r := wire.Read(wire.Join(b, b))
	if !bytes.Equal(r.Blob(), long) || !bytes.Equal(r.Blob(), long) || r.End() != api.OK {
		t.Error("the longest blob")
	}
}

// TestWhatIsCutIsNotGot: of what was put each beginning that is not the whole breaks the reader, and never ahead of its place.
func TestWhatIsCutIsNotGot(t *testing.T) {
	rnd := rand.New(rand.NewPCG(2, 2))
	for range 300 {
		var all []byte
		var puts []put
		for range 1 + rnd.IntN(6) {
			p := anyPut(rnd)
			all, puts = append(all, p.bytes...), append(puts, p)
		}
		for cut := range len(all) {
			r := wire.Read(all[:cut])
			end := 0
			for _, p := range puts {
				end += len(p.bytes)
				got := p.ask(r)
				if end <= cut && !bytes.Equal(got, p.want) {
					t.Fatalf("it was there: %v, %v", p.want, got)
				}
				if end > cut && !r.Failed() {
					t.Fatalf("%d of %d bytes: not broken", cut, end)
				}
			}
			gone(t, "cut", r, api.ErrBytes)
		}
	}
}

// walk is what a reader may get, told by places alone.
type walk struct {
	b  []byte
	at int
	ok bool
}

func (w *walk) take(n int) []byte {
	if !w.ok || n < 0 || n > len(w.b)-w.at {
		w.ok = false
		return nil
	}
	w.at += n
	return w.b[w.at-n : w.at]
}

func (w *walk) number(size int) (n uint64) {
	if size < 1 || size > 8 {
		w.ok = false
	}
	for _, x := range w.take(size) {
		n = n*256 + uint64(x)
	}
	return n
}

// anyStep asks both for the same thing: was the answer the same?
func anyStep(rnd *rand.Rand, r *wire.Reader, w *walk) bool {
	switch n := rnd.IntN(12) - 1; rnd.IntN(3) {
	case 0:
		return r.Number(n) == w.number(n)
	case 1:
		return bytes.Equal(r.Blob(), w.take(int(w.number(2))))
	default:
		return bytes.Equal(r.Bytes(n), w.take(n))
	}
}

func TestStepsInAnyOrder(t *testing.T) {
	rnd := rand.New(rand.NewPCG(3, 3))
	for range 5000 {
		b := anyBytes(rnd, rnd.IntN(40))
		for i := range b { // blobs that are there are short
			if rnd.IntN(2) == 0 {
				b[i] = byte(rnd.IntN(4) / 3)
			}
		}
		r, w := wire.Read(b), &walk{b: b, ok: true}
		for range 10 {
			if !anyStep(rnd, r, w) || r.Failed() == w.ok {
				t.Fatal("another answer", b, w)
			}
			left := len(b) - w.at
			if !w.ok {
				left = 0
			}
			if r.Left() != left || (r.End() == api.OK) != (w.ok && left == 0) {
				t.Fatal("another place", b, w, r.Left(), r.End())
			}
		}
	}
}
