package record_test

import (
	"bytes"
	"encoding/binary"
	"math"
	"slices"
	"testing"

	"understudy/api"
	"understudy/record"
)

// Promise P6.2.

func TestOfBytesByHand(t *testing.T) {
	for _, r := range ordinary() {
		for _, at := range places {
			b := lay(r, at)
			begins(t, b, at, r, len(b))
		}
	}
}

// TestOfEdges: bytes with the right sum are none, if what they tell may not be.
func TestOfEdges(t *testing.T) {
	for _, x := range edges() {
		r := x.r
		if r.Page != int(uint16(r.Page)) || r.Off != int(uint16(r.Off)) || len(r.Bytes) > 65535 || len(r.Subs) > 65535 {
			continue // no bytes tell that
		}
		b := lay(r, 77)
		if x.may {
			begins(t, b, 77, r, len(b))
		} else {
			refused(t, b, 77, api.ErrBytes)
		}
	}
}

func TestOfNoSuchKind(t *testing.T) {
	for kind := range 256 {
		if kind >= 1 && kind <= 8 {
			continue
		}
		refused(t, laid(5, byte(kind)), 5, api.ErrBytes)
		for _, r := range ordinary() {
			tail := lay(r, 5)[17:]
			refused(t, laid(5, byte(kind), string(tail)), 5, api.ErrBytes)
		}
	}
}

func TestOfNothing(t *testing.T) {
	for _, at := range places {
		refused(t, nil, at, api.ErrBytes)
		refused(t, []byte{}, at, api.ErrBytes)
		for n := range 40 {
			refused(t, make([]byte, n), at, api.ErrBytes)
			refused(t, bytes.Repeat([]byte{255}, n), at, api.ErrBytes)
		}
	}
}

// TestOfWrongPlace: whatever the bytes are, the place is told first.
func TestOfWrongPlace(t *testing.T) {
	for _, at := range wrongPlaces {
		refused(t, nil, at, api.ErrArg)
		refused(t, []byte("none"), at, api.ErrArg)
		refused(t, make([]byte, 5000), at, api.ErrArg)
		for _, r := range ordinary() {
			refused(t, lay(r, at), at, api.ErrArg)
			refused(t, lay(r, 0), at, api.ErrArg)
		}
	}
}

func TestOfAtAnotherPlace(t *testing.T) {
	for _, r := range ordinary() {
		for _, at := range append(slices.Clone(places), wrongPlaces...) {
			b := lay(r, at)
			for _, other := range places {
				if other != at {
					refused(t, b, other, api.ErrBytes)
				}
			}
		}
	}
}

func TestOfWithBytesBehind(t *testing.T) {
	for _, r := range ordinary() {
		b := lay(r, 9)
		for _, behind := range [][]byte{{0}, {255}, b, make([]byte, 3000), []byte("something else")} {
			begins(t, append(bytes.Clone(b), behind...), 9, r, len(b))
		}
		refused(t, append([]byte{0}, b...), 9, api.ErrBytes)
	}
}

func TestOfBytesThatAreCut(t *testing.T) {
	for _, r := range ordinary() {
		b := lay(r, 9)
		for n := range b {
			refused(t, b[:n], 9, api.ErrBytes)
			refused(t, b[len(b)-n:], 9, api.ErrBytes)
		}
	}
}

// TestOfWrongSizes: a head that says another size, with the sum that all has then.
func TestOfWrongSizes(t *testing.T) {
	sizes := []uint32{0, 1, 3, 4, 11, 12, 15, 16, 17, 18, 24, 25, 26, 27, 28, 33, 41, 1052, 1053, 1054, 2075, 2076, 4096, 65536, 1 << 24, math.MaxInt32, 1 << 31, math.MaxUint32}
	for _, r := range ordinary() {
		right := lay(r, 9)
		body := right[17:]
		for _, size := range sizes {
			if int(size) == len(right) {
				continue
			}
			// The sum is that of as many bytes as the head says, where there are so many; else of all.
			b := sealed(size, 9, byte(r.Kind), body)
			refused(t, b, 9, api.ErrBytes)
			refused(t, append(b, right...), 9, api.ErrBytes)
			if n := int64(size) - 17; n >= 0 && n <= 1<<17 {
				b := sealed(size, 9, byte(r.Kind), append(bytes.Clone(body), make([]byte, n)...)[:n])
				refused(t, b, 9, api.ErrBytes)
				refused(t, append(b, right...), 9, api.ErrBytes)
			}
			b = bytes.Clone(right)
			binary.BigEndian.PutUint32(b, size)
			refused(t, append(b, make([]byte, 3000)...), 9, api.ErrBytes)
		}
	}
}

// TestOfBodiesThatDoNotEnd where they say: lists that are longer or shorter than what is there, and something behind all.
func TestOfBodiesThatDoNotEnd(t *testing.T) {
	one, two := uint64(1), uint64(2)
	for i, b := range [][]byte{
		laid(9, 1),
		laid(9, 1, one, uint16(0), uint16(12)),
		laid(9, 1, one, uint16(0), uint16(12), uint16(2), "a"),
		laid(9, 1, one, uint16(0), uint16(12), uint16(1), "ab"),
		laid(9, 1, one, uint16(0), uint16(12), uint16(65535), "ab"),
		laid(9, 1, one, uint16(0), uint16(12), "a"),
		laid(9, 2, one, uint16(0), uint16(1024), string(some(1023))),
		laid(9, 2, one, uint16(0), uint16(1024), string(some(1025))),
		laid(9, 2, one, uint16(0), string(some(1024))),
		laid(9, 3, one),
		laid(9, 3, one, uint16(0), "a"),
		laid(9, 3, one, uint16(1)),
		laid(9, 3, one, uint16(1), "1234567"),
		laid(9, 3, one, uint16(1), two, "a"),
		laid(9, 4, one, uint16(0), two),
		laid(9, 4, one, uint16(2), two),
		laid(9, 4, one, uint16(65535), two),
		laid(9, 5),
		laid(9, 5, "1234567"),
		laid(9, 5, one, "a"),
		laid(9, 5, one, uint16(0)),
		laid(9, 6, two),
		laid(9, 6, two, uint16(1)),
		laid(9, 6, two, uint16(0), one),
		laid(9, 6, uint64(9), uint16(65535), list(up(8, 1, 1))),
		laid(9, 7, one),
		laid(9, 7, one, two, "a"),
		laid(9, 7, one, two, uint16(0)),
		laid(9, 8, one),
		laid(9, 8, one, two, one),
	} {
		refused(t, b, 9, api.ErrBytes)
		refused(t, append(b, make([]byte, 2000)...), 9, api.ErrBytes)
		if t.Failed() {
			t.Fatal(i)
		}
	}
}

// TestOfIsNew: what becomes of the bytes is not seen in the record, nor the other way.
func TestOfIsNew(t *testing.T) {
	for _, r := range ordinary() {
		b := append(lay(r, 9), "behind"...)
		was := bytes.Clone(b)
		one, _, _ := record.Of(b, 9)
		other, _, _ := record.Of(b, 9)
		clear(other.Bytes)
		clear(other.Subs)
		_ = append(other.Bytes, "xyz"...)
		_ = append(other.Subs, 7)
		if !bytes.Equal(b, was) {
			t.Error("what was handed in is changed", r.Kind)
		}
		clear(b)
		if !alike(one, r) {
			t.Error("what was answered is changed", r.Kind)
		}
	}
}
