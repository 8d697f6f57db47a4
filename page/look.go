package page

import (
	"bytes"
	"iter"

	"understudy/api"
)

// Kind is the page's kind, be it right or not.
func Kind(p api.Page) byte {
	return p[kindAt]
}

// Slots is how many slots the page has; of one that is not right 0.
func Slots(p api.Page) int {
	if !Right(p) {
		return 0
	}
	return headOf(p).slots
}

// Right tells whether all that the page says of its slots and its items can be.
func Right(p api.Page) bool {
	h, where := headOf(p), slotsOf(&p)
	if !h.fits() {
		return false
	}
	var taken [api.PageSize]bool
	right := 0
look:
	for ; right < h.slots; right++ {
		s := read(where(right))
		switch {
		case s.empty():
			continue look
		case !s.fits(h.items):
			break look
		}
		for at := s.at; at < s.end(); at++ {
			if taken[at] {
				break look
			}
			taken[at] = true
		}
	}
	return right == h.slots && (h.slots == 0 || !read(where(h.slots-1)).empty())
}

// Room is how many bytes an item may have that is inserted; of a page that is not right 0.
func Room(p api.Page) int {
	if !Right(p) {
		return 0
	}
	h := headOf(p)
	// A new slot takes from the room, an empty one is there already.
	h.slots = max(h.slots, free(p)+1)
	return max(h.items-h.end(), 0)
}

// Item is the bytes of that slot's item.
func Item(p api.Page, slot int) ([]byte, api.Errno) {
	s, e := find(p, slot)
	if e != api.OK {
		return nil, e
	}
	return bytes.Clone(p[s.at:s.end()]), api.OK
}

// Items goes over the slots that are not empty, rising, each with its item; of a page that is not right over nothing.
func Items(p api.Page) iter.Seq2[int, []byte] {
	return func(yield func(int, []byte) bool) {
		if yield == nil || !Right(p) {
			return
		}
		where := slotsOf(&p)
		for slot := range headOf(p).slots {
			s := read(where(slot))
			if !s.empty() && !yield(slot, bytes.Clone(p[s.at:s.end()])) {
				return
			}
		}
	}
}

// find is where that slot's item stands.
func find(p api.Page, slot int) (span, api.Errno) {
	switch {
	case !Right(p):
		return span{}, api.ErrBytes
	case slot < 0:
		return span{}, api.ErrArg
	case slot >= headOf(p).slots:
		return span{}, api.ErrNone
	}
	s := read(slotsOf(&p)(slot))
	if s.empty() {
		return span{}, api.ErrNone
	}
	return s, api.OK
}

// free is the first empty slot, or the one behind the last.
func free(p api.Page) int {
	slot, h, where := 0, headOf(p), slotsOf(&p)
	for slot < h.slots && !read(where(slot)).empty() {
		slot++
	}
	return slot
}
