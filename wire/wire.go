// Package wire is layer 1: see shared/doc/01-wire.md.
package wire

import (
	"slices"

	"understudy/api"
)

const (
	maxSize  = 8 // a uint64 fills so many bytes
	headSize = 2 // a blob's length stands in so many bytes
)

// Put is a number in so many bytes, the highest first.
func Put(n uint64, size int) ([]byte, api.Errno) {
	if size < 1 || size > maxSize || n>>(8*size) != 0 {
		return nil, api.ErrArg
	}
	b := make([]byte, size)
	for i := range b {
		b[i] = byte(n >> (8 * (size - 1 - i)))
	}
	return b, api.OK
}

// Get is the number that 1 to 8 bytes write.
func Get(b []byte) (uint64, api.Errno) {
	if len(b) < 1 || len(b) > maxSize {
		return 0, api.ErrArg
	}
	var n uint64
	for _, x := range b {
		n = n<<8 | uint64(x)
	}
	return n, api.OK
}

// Blob is bytes behind their length.
func Blob(b []byte) ([]byte, api.Errno) {
	if len(b) > api.MaxBlob {
		return nil, api.ErrLong
	}
	head, e := Put(uint64(len(b)), headSize)
	if e != api.OK {
		return nil, e
	}
	return Join(head, b), api.OK
}

// Join is the bytes of all lists, in a row.
func Join(l ...[]byte) []byte {
	return slices.Concat(l...)
}
