package wire_test

import (
	"bytes"
	"math"
	"testing"

	"understudy/api"
	"understudy/wire"
)

// wrongSizes are those in which no number is written.
var wrongSizes = []int{0, -1, 9, 10, 16, 64, 255, 256, math.MaxInt, math.MinInt}

// greatest is the greatest number of so many bytes.
func greatest(size int) uint64 {
	return math.MaxUint64 >> (64 - 8*size)
}

func TestPutWritesTheHighestByteFirst(t *testing.T) {
	for _, x := range []struct {
		n    uint64
		size int
		want []byte
	}{
		{0, 1, []byte{0}},
		{0, 8, make([]byte, 8)},
		{1, 1, []byte{1}},
		{255, 1, []byte{255}},
		{256, 2, []byte{1, 0}},
		{258, 2, []byte{1, 2}},
		{258, 3, []byte{0, 1, 2}},
		{0x010203, 3, []byte{1, 2, 3}},
		{0x01020304, 4, []byte{1, 2, 3, 4}},
		{0x0102030405, 5, []byte{1, 2, 3, 4, 5}},
		{0x010203040506, 6, []byte{1, 2, 3, 4, 5, 6}},
		{0x01020304050607, 7, []byte{1, 2, 3, 4, 5, 6, 7}},
		{0x0102030405060708, 8, []byte{1, 2, 3, 4, 5, 6, 7, 8}},
		{1 << 63, 8, []byte{128, 0, 0, 0, 0, 0, 0, 0}},
	} {
		b, e := wire.Put(x.n, x.size)
		if e != api.OK || !bytes.Equal(b, x.want) {
			t.Errorf("Put(%d, %d): %v, %d", x.n, x.size, b, e)
		}
		n, e := wire.Get(x.want)
		if e != api.OK || n != x.n {
			t.Errorf("Get(%v): %d, %d", x.want, n, e)
		}
	}
}

func TestPutTakesWhatFits(t *testing.T) {
	for size := 1; size <= 8; size++ {
		most := greatest(size)
		b, e := wire.Put(most, size)
		if e != api.OK || !bytes.Equal(b, bytes.Repeat([]byte{255}, size)) {
			t.Errorf("Put(%d, %d): %v, %d", most, size, b, e)
		}
		if size == 8 {
			break
		}
		for _, n := range []uint64{most + 1, most << 8, math.MaxUint64} {
			if b, e := wire.Put(n, size); e != api.ErrArg || len(b) != 0 {
				t.Errorf("Put(%d, %d), a byte more: %v, %d", n, size, b, e)
			}
		}
	}
}

func TestPutRefusesSizes(t *testing.T) {
	for _, size := range wrongSizes {
		for _, n := range []uint64{0, 1, math.MaxUint64} {
			if b, e := wire.Put(n, size); e != api.ErrArg || len(b) != 0 {
				t.Errorf("Put(%d, %d): %v, %d", n, size, b, e)
			}
		}
	}
}

func TestGet(t *testing.T) {
	for size := 1; size <= 8; size++ {
		b := bytes.Repeat([]byte{255}, size)
		if n, e := wire.Get(b); e != api.OK || n != greatest(size) {
			t.Errorf("Get of %d bytes: %d, %d", size, n, e)
		}
	}
	if n, e := wire.Get([]byte{0, 0, 1, 2}); e != api.OK || n != 258 {
		t.Error("noughts ahead", n, e)
	}
	for _, b := range [][]byte{nil, {}, make([]byte, 9), bytes.Repeat([]byte{1}, 9), make([]byte, 1000)} {
		if n, e := wire.Get(b); e != api.ErrArg || n != 0 {
			t.Errorf("Get of %d bytes: %d, %d", len(b), n, e)
		}
	}
}

func TestBlob(t *testing.T) {
	for _, x := range []struct {
		size int
		head []byte
	}{{0, []byte{0, 0}}, {1, []byte{0, 1}}, {2, []byte{0, 2}}, {255, []byte{0, 255}}, {256, []byte{1, 0}}, {65534, []byte{255, 254}}, {65535, []byte{255, 255}}} {
		in := bytes.Repeat([]byte{7}, x.size)
		b, e := wire.Blob(in)
		if e != api.OK || !bytes.Equal(b, append(x.head, in...)) {
			t.Errorf("Blob of %d bytes: %d bytes, %d", x.size, len(b), e)
		}
	}
	if b, e := wire.Blob(nil); e != api.OK || !bytes.Equal(b, []byte{0, 0}) {
		t.Error("Blob of nil", b, e)
	}
	for _, size := range []int{65536, 65537, 1 << 20} {
		if b, e := wire.Blob(make([]byte, size)); e != api.ErrLong || len(b) != 0 {
			t.Errorf("Blob of %d bytes: %d bytes, %d", size, len(b), e)
		}
	}
}

func TestJoin(t *testing.T) {
	for i, x := range []struct {
		l    [][]byte
		want string
	}{
		{nil, ""},
		{[][]byte{nil}, ""},
		{[][]byte{{}, nil, {}}, ""},
		{[][]byte{[]byte("a")}, "a"},
		{[][]byte{[]byte("ab"), nil, []byte("c"), {}, []byte("def")}, "abcdef"},
		{[][]byte{[]byte("ab"), []byte("ab"), {0}}, "abab\x00"},
	} {
		if b := wire.Join(x.l...); string(b) != x.want {
			t.Errorf("%d: %q", i, b)
		}
	}
}

func TestAnswersAreNewMemory(t *testing.T) {
	room := []byte("abcd")
	if b := wire.Join(room[:1], []byte("x")); string(b) != "ax" || string(room) != "abcd" {
		t.Errorf("Join wrote behind its first list: %q, %q", b, room)
	}
	for i, f := range []func([]byte) []byte{
		func(b []byte) []byte { return wire.Join(b) },
		func(b []byte) []byte { return wire.Join(nil, b, nil) },
		func(b []byte) []byte { return wire.Join(b, b) },
		func(b []byte) []byte { c, _ := wire.Blob(b); return c[2:] },
	} {
		in := []byte("abcd")
		out := f(in)
		out[0] = 'z'
		if string(in) != "abcd" {
			t.Errorf("%d: what was handed in is changed by the answer", i)
		}
		in[1] = 'y'
		if out[1] != 'b' {
			t.Errorf("%d: the answer is changed by what was handed in", i)
		}
	}
}
