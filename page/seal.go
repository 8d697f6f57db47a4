package page

import (
	"bytes"

	"understudy/api"
	"understudy/crc"
)

// LSN is the page's LSN.
func LSN(p api.Page) uint64 {
	return get(p[:sumAt])
}

// Seal is the page with that LSN, and with its sum.
func Seal(p api.Page, lsn uint64) api.Page {
	put(p[:sumAt], lsn)
	put(p[sumAt:api.PageHead], uint64(sum(p)))
	return p
}

// Good tells whether the page's sum is that of all its other bytes.
func Good(p api.Page) bool {
	return get(p[sumAt:api.PageHead]) == uint64(sum(p))
}

// Diff is where, behind the LSN and the sum, b begins to be another one than a, and b's bytes from there to the last such one.
func Diff(a, b api.Page) (int, []byte) {
	first, end := api.PageHead, api.PageSize
	for first < end && a[first] == b[first] {
		first++
	}
	for end > first && a[end-1] == b[end-1] {
		end--
	}
	return first, bytes.Clone(b[first:end])
}

func sum(p api.Page) uint32 {
	return crc.Sum(p[:sumAt], p[api.PageHead:])
}
