package page

import (
	"understudy/api"
	"understudy/wire"
)

// Where a head's parts stand, and how many bytes the parts of a slot have.
const (
	sumAt    = 8
	kindAt   = api.PageHead
	countAt  = 14
	itemsAt  = 16
	headSize = 18
	atSize   = 2
	slotSize = 4
)

// head is what a page's head says, true or not, of what follows it: how many slots, and where the items begin.
type head struct{ slots, items int }

func headOf(p api.Page) head {
	return head{int(get(p[countAt:itemsAt])), int(get(p[itemsAt:headSize]))}
}

// lay is the page with that head.
func (h head) lay(p api.Page) api.Page {
	put(p[countAt:itemsAt], uint64(h.slots))
	put(p[itemsAt:headSize], uint64(h.items))
	return p
}

// end is where the slots end.
func (h head) end() int {
	return headSize + h.slots*slotSize
}

// fits tells whether the items begin neither ahead of the slots' end nor behind the page's.
func (h head) fits() bool {
	return h.end() <= h.items && h.items <= api.PageSize
}

// span is where an item stands, and how many bytes it has. A zero one says that a slot is empty.
type span struct{ at, size int }

func read(slot []byte) span {
	return span{int(get(slot[:atSize])), int(get(slot[atSize:]))}
}

func (s span) write(slot []byte) {
	put(slot[:atSize], uint64(s.at))
	put(slot[atSize:], uint64(s.size))
}

func (s span) empty() bool {
	return s == span{}
}

// end is where the item ends.
func (s span) end() int {
	return s.at + s.size
}

// fits tells whether an item may stand there, of items that begin at that place.
func (s span) fits(items int) bool {
	return mayBe(s.size) && s.at >= items && s.end() <= api.PageSize
}

// mayBe tells whether an item may have so many bytes.
func mayBe(size int) bool {
	return size >= 1 && size <= api.MaxItem
}

// slotsOf says where in the page each of its slots is.
func slotsOf(p *api.Page) func(slot int) []byte {
	return func(slot int) []byte {
		at := headSize + slot*slotSize
		return p[at : at+slotSize]
	}
}

// get is the number that b writes. As b is a piece of a page's head, or of a slot, nothing is refused.
func get(b []byte) uint64 {
	n, _ := wire.Get(b)
	return n
}

// put has b write that number. It is a place in a page, or no longer than b, so nothing is refused.
func put(b []byte, n uint64) {
	written, _ := wire.Put(n, len(b))
	copy(b, written)
}
