package wire

import (
	"slices"

	"understudy/api"
)

type state int

// Only a Reader that Read did not make is unmade: a zero one counts as nil.
const (
	unmade state = iota
	whole
	broken
)

// Reader walks over bytes, once, from the front.
type Reader struct {
	ahead []byte
	state state
}

// Read is a reader that stands ahead of a copy of b.
func Read(b []byte) *Reader {
	return &Reader{ahead: slices.Clone(b), state: whole}
}

// Number is the number that the next so many bytes write.
func (r *Reader) Number(size int) uint64 {
	// Get refuses what a refused step answers, and each size that may not be.
	n, e := Get(r.Bytes(size))
	if e != api.OK {
		r.fail()
	}
	return n
}

// Blob is the bytes of the blob that comes next.
func (r *Reader) Blob() []byte {
	return r.Bytes(int(r.Number(headSize)))
}

// Bytes is the next n bytes.
func (r *Reader) Bytes(n int) []byte {
	if r.Failed() || n < 0 || n > len(r.ahead) {
		r.fail()
		return nil
	}
	// Its capacity ends with it: what the caller appends must not reach what is still ahead.
	got := r.ahead[:n:n]
	r.ahead = r.ahead[n:]
	return got
}

// Left is how many bytes are ahead of it.
func (r *Reader) Left() int {
	if r.Failed() {
		return 0
	}
	return len(r.ahead)
}

// Failed tells whether it is broken.
func (r *Reader) Failed() bool {
	return r == nil || r.state != whole
}

// End is OK where all was read, and nothing asked for that was not there.
func (r *Reader) End() api.Errno {
	switch {
	case r == nil || r.state == unmade:
		return api.ErrNil
	case r.Failed() || r.Left() > 0:
		return api.ErrBytes
	}
	return api.OK
}

func (r *Reader) fail() {
	// A nil one cannot be marked, and a zero one must stay as nil.
	if !r.Failed() {
		r.ahead, r.state = nil, broken
	}
}
