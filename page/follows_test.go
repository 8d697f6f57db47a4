package page_test

import (
	"encoding/binary"
	"math"
	"math/bits"
	"math/rand/v2"
	"slices"
	"strconv"
	"testing"

	"understudy/api"
	"understudy/page"
)

// Promise P5.5, and P0.6 of pages of any bytes.

// plain is a page in the plainest way: its slots, where its items begin, and all its bytes.
type plain struct {
	l     []slot
	items int
	p     api.Page
}

// parsed is the page, if it is right.
func parsed(p api.Page) (plain, bool) {
	x := plain{nil, int(binary.BigEndian.Uint16(p[16:])), p}
	count := int(binary.BigEndian.Uint16(p[14:]))
	if x.items < 18+4*count || x.items > 1024 {
		return plain{}, false
	}
	for i := range count {
		s := slot{int(binary.BigEndian.Uint16(p[18+4*i:])), int(binary.BigEndian.Uint16(p[20+4*i:]))}
		if s == empty {
			x.l = append(x.l, s)
			continue
		}
		if s.size < 1 || s.size > 1000 || s.at < x.items || s.at+s.size > 1024 {
			return plain{}, false
		}
		for _, o := range x.l {
			if o != empty && s.at < o.at+o.size && o.at < s.at+s.size {
				return plain{}, false
			}
		}
		x.l = append(x.l, s)
	}
	return x, count == 0 || x.l[count-1] != empty
}

// bytes is the page with its slots and its items' beginning as they are now.
func (x plain) bytes() api.Page {
	p := lay(x.items, x.l...)
	end := 18 + 4*len(x.l)
	copy(p[:14], x.p[:14])
	copy(p[end:], x.p[end:])
	return p
}

func (x plain) free() int {
	if n := slices.Index(x.l, empty); n >= 0 {
		return n
	}
	return len(x.l)
}

func (x plain) room() int {
	room := x.items - 18 - 4*len(x.l)
	if x.free() == len(x.l) {
		room -= 4
	}
	return max(room, 0)
}

func (x plain) text() (s string) {
	for i, o := range x.l {
		if o != empty {
			s += strconv.Itoa(i) + string(x.p[o.at:o.at+o.size]) + " "
		}
	}
	return s
}

func (x plain) insert(item []byte) (api.Page, int, api.Errno) {
	if len(item) < 1 || len(item) > 1000 {
		return api.Page{}, 0, api.ErrArg
	}
	if len(item) > x.room() {
		return api.Page{}, 0, api.ErrFull
	}
	n := x.free()
	x.l = slices.Clone(x.l)
	if n == len(x.l) {
		x.l = append(x.l, empty)
	}
	x.items -= len(item)
	x.l[n] = slot{x.items, len(item)}
	copy(x.p[x.items:], item)
	return x.bytes(), n, api.OK
}

// item is what that slot has, or why not.
func (x plain) item(n int) (slot, api.Errno) {
	switch {
	case n < 0:
		return empty, api.ErrArg
	case n >= len(x.l) || x.l[n] == empty:
		return empty, api.ErrNone
	}
	return x.l[n], api.OK
}

func (x plain) set(n int, item []byte) (api.Page, api.Errno) {
	if len(item) < 1 || len(item) > 1000 {
		return api.Page{}, api.ErrArg
	}
	s, e := x.item(n)
	if e != api.OK {
		return api.Page{}, e
	}
	if len(item) != s.size {
		return api.Page{}, api.ErrArg
	}
	copy(x.p[s.at:], item)
	return x.p, api.OK
}

func (x plain) drop(n int) (api.Page, api.Errno) {
	if _, e := x.item(n); e != api.OK {
		return api.Page{}, e
	}
	x.l = slices.Clone(x.l)
	x.l[n] = empty
	for i := 18 + 4*n; i < 22+4*n; i++ {
		x.p[i] = 0
	}
	for len(x.l) > 0 && x.l[len(x.l)-1] == empty {
		x.l = x.l[:len(x.l)-1]
	}
	if len(x.l) == 0 {
		x.items = 1024
	}
	return x.bytes(), api.OK
}

func (x plain) pack() api.Page {
	y := plain{l: slices.Clone(x.l), items: 1024}
	copy(y.p[:14], x.p[:14])
	for i, s := range x.l {
		if s != empty {
			y.items -= s.size
			y.l[i].at = y.items
			copy(y.p[y.items:], x.p[s.at:s.at+s.size])
		}
	}
	return y.bytes()
}

// alike wants the answers that the plain page gives, of all calls with that slot and that item.
func alike(t *testing.T, p api.Page, n int, item []byte) {
	t.Helper()
	x, right := parsed(p)
	if !right {
		if page.Right(p) || page.Slots(p) != 0 || page.Room(p) != 0 || items(p) != "" {
			t.Error("it is not right", page.Right(p), page.Slots(p), page.Room(p))
		}
		for _, do := range calls(t, n, item) {
			is(t, do(p), api.ErrBytes)
		}
		return
	}
	if !page.Right(p) || page.Slots(p) != len(x.l) || page.Room(p) != x.room() {
		t.Error("it is right", page.Right(p), page.Slots(p), len(x.l), page.Room(p), x.room())
	}
	told := ""
	for i, b := range page.Items(p) {
		told += strconv.Itoa(i) + string(b) + " "
	}
	if told != x.text() {
		t.Errorf("%q, want %q", told, x.text())
	}
	q, at, e := page.Insert(p, item)
	want, wat, we := x.insert(item)
	changed(t, q, e, want, we)
	if at != wat {
		t.Errorf("slot %d, want %d", at, wat)
	}
	b, e := page.Item(p, n)
	s, we := x.item(n)
	is(t, e, we)
	if string(b) != string(p[s.at:s.at+s.size]) {
		t.Errorf("%q, want %q", b, p[s.at:s.at+s.size])
	}
	q, e = page.Set(p, n, item)
	want, we = x.set(n, item)
	changed(t, q, e, want, we)
	q, e = page.Drop(p, n)
	want, we = x.drop(n)
	changed(t, q, e, want, we)
	q, e = page.Pack(p)
	changed(t, q, e, x.pack(), api.OK)
}

// changed wants that page, and that it is right where there is one.
func changed(t *testing.T, got api.Page, e api.Errno, want api.Page, we api.Errno) {
	t.Helper()
	is(t, e, we)
	same(t, got, want)
	if page.Right(got) != (e == api.OK) {
		t.Error("what is told of a right page is right", e)
	}
}

func anyItem(rnd *rand.Rand, most int) []byte {
	b := make([]byte, rnd.IntN(most+1))
	for i := range b {
		b[i] = byte(rnd.Uint32())
	}
	return b
}

// anyRight is a page that is right, made by any calls.
func anyRight(rnd *rand.Rand) api.Page {
	p := page.Init(byte(rnd.Uint32()))
	most := 1 << (1 + rnd.IntN(9))
	for range rnd.IntN(60) {
		if q, e := page.Drop(p, rnd.IntN(12)); e == api.OK && rnd.IntN(2) == 0 {
			p = q
		}
		if q, _, e := page.Insert(p, anyItem(rnd, most)); e == api.OK {
			p = q
		}
		if q, e := page.Pack(p); e == api.OK && rnd.IntN(20) == 0 {
			p = q
		}
	}
	return p
}

// anyLaid is a page with few slots, whose numbers are about what they may be.
func anyLaid(rnd *rand.Rand) api.Page {
	p := anyPage(rnd)
	count := rnd.IntN(6)
	begin := 1000 - rnd.IntN(10)
	if rnd.IntN(8) == 0 {
		begin = 16 + 4*count + rnd.IntN(4)
	}
	l := make([]slot, count)
	for i := range l {
		if rnd.IntN(4) > 0 {
			l[i] = slot{begin - 1 + rnd.IntN(1026-begin), rnd.IntN(8)}
		}
	}
	q := laid(count, begin, l...)
	copy(p[14:18+4*count], q[14:])
	return p
}

// anyOne is a page of any of these sorts, also with some bytes of its head or its slots turned.
func anyOne(rnd *rand.Rand) api.Page {
	switch rnd.IntN(8) {
	case 0:
		return anyPage(rnd)
	case 1, 2, 3:
		return anyLaid(rnd)
	}
	p := anyRight(rnd)
	for range rnd.IntN(3) {
		p[14+rnd.IntN(16)] ^= 1 << rnd.IntN(8)
	}
	return p
}

func TestAnyPage(t *testing.T) {
	rnd := rand.New(rand.NewPCG(5, 8))
	right := 0
	for i := range 20000 {
		p := anyOne(rnd)
		n, item := rnd.IntN(14)-1, anyItem(rnd, 9)
		if rnd.IntN(10) == 0 {
			item = anyItem(rnd, 1010)
		}
		if b, e := page.Item(p, n); e == api.OK && rnd.IntN(2) == 0 {
			item = make([]byte, len(b))
		}
		alike(t, p, n, item)
		if page.Right(p) {
			right++
		}
		if t.Failed() {
			t.Fatalf("page %d: %v", i, p[:60])
		}
	}
	if right < 5000 || right > 18000 {
		t.Error("too many of one sort", right)
	}
}

// TestNoPagePanics: heads of all these numbers, slots of any of them, and each slot that might be asked for.
func TestNoPagePanics(t *testing.T) {
	rnd := rand.New(rand.NewPCG(5, 9))
	numbers := []int{0, 1, 2, 17, 18, 22, 250, 251, 252, 1000, 1001, 1023, 1024, 1025, 32767, 32768, 65535}
	slotNumbers := append(append([]int{0, 1, 250, 251}, wrongSlots...), farSlots...)
	for _, count := range numbers {
		for _, begin := range numbers {
			p := laid(count, begin)
			for at := 18; at < 1024; at += 2 {
				short(&p, at, numbers[rnd.IntN(len(numbers))])
			}
			for _, n := range slotNumbers {
				alike(t, p, n, make([]byte, rnd.IntN(1100)))
			}
			page.Good(page.Seal(p, math.MaxUint64))
			page.Diff(p, anyPage(rnd))
		}
	}
}

// TestWhatIsInsertedStays, in its slot, till it is dropped, whatever else is done.
func TestWhatIsInsertedStays(t *testing.T) {
	for seed := range uint64(40) {
		rnd := rand.New(rand.NewPCG(seed, 10))
		p, there := page.Init(1), map[int]string{}
		for range 300 {
			n := rnd.IntN(12)
			switch rnd.IntN(6) {
			case 0, 1, 2:
				item := anyItem(rnd, 200)
				if q, n, e := page.Insert(p, item); e == api.OK {
					if there[n] != "" {
						t.Fatal("a slot that has an item", n)
					}
					p, there[n] = q, string(item)
				}
			case 3:
				if q, e := page.Drop(p, n); e == api.OK {
					p = q
					delete(there, n)
				}
			case 4:
				item := anyItem(rnd, 200)
				if len(there[n]) > 0 && rnd.IntN(4) > 0 {
					item = slices.Repeat([]byte{byte(seed)}, len(there[n]))
				}
				if q, e := page.Set(p, n, item); e == api.OK {
					p, there[n] = q, string(item)
				}
			default:
				p = page.Seal(packed(t, p), rnd.Uint64())
			}
			for n := range 14 {
				if b, e := page.Item(p, n); string(b) != there[n] || (e == api.OK) != (there[n] != "") {
					t.Fatalf("seed %d, slot %d: %q, want %q: %d", seed, n, b, there[n], e)
				}
			}
		}
	}
}

func turn(p *api.Page, bit int) {
	p[bit/8] ^= 1 << (bit % 8)
}

// TestOneBitOfASealedPage goes over all of them, also those of the sum.
func TestOneBitOfASealedPage(t *testing.T) {
	p := page.Seal(insert(t, page.Init(1), 0, "one", "two"), 258)
	for bit := range 8 * api.PageSize {
		q := p
		turn(&q, bit)
		if page.Good(q) {
			t.Errorf("bit %d", bit)
		}
	}
}

func TestTwoAndThreeBitsOfASealedPage(t *testing.T) {
	rnd := rand.New(rand.NewPCG(5, 11))
	some := func() int {
		if rnd.IntN(3) == 0 { // within the sum
			return 64 + rnd.IntN(32)
		}
		return rnd.IntN(8 * api.PageSize)
	}
	for range 20000 {
		p := page.Seal(anyPage(rnd), rnd.Uint64())
		l := []int{some(), some(), some()}[:2+rnd.IntN(2)]
		slices.Sort(l)
		q := p
		for _, bit := range slices.Compact(l) {
			turn(&q, bit)
		}
		if page.Good(q) || !page.Good(p) {
			t.Fatalf("bits %v", l)
		}
	}
}

// TestOneToThreeBitsOfAnyPage: what each bit that is turned does to the sum, or to what it should be, is the same whatever the page is, and what several do is theirs xored. None is 0, no two are alike, and each has an odd number of bits, so that three never make 0.
func TestOneToThreeBitsOfAnyPage(t *testing.T) {
	sum := func(p api.Page) uint32 {
		s := page.Seal(p, page.LSN(p))
		return binary.BigEndian.Uint32(s[8:])
	}
	p := page.Init(1)
	was := sum(p)
	var marks []uint32
	for bit := range 8 * api.PageSize {
		turn(&p, bit)
		mark := was ^ sum(p)
		turn(&p, bit)
		if at := bit / 8; at >= 8 && at < 12 {
			if mark != 0 {
				t.Fatalf("the sum is one of itself: bit %d, %08x", bit, mark)
			}
			mark = 1 << (8*(11-at) + bit%8)
		}
		if bits.OnesCount32(mark)%2 != 1 {
			t.Fatalf("bit %d: %08x", bit, mark)
		}
		marks = append(marks, mark)
	}
	slices.Sort(marks)
	if alike := len(marks) - len(slices.Compact(marks)); alike != 0 {
		t.Errorf("%d bits do what others do", alike)
	}
}

func TestDiffLaidOverMakesTheOther(t *testing.T) {
	rnd := rand.New(rand.NewPCG(5, 12))
	for range 5000 {
		a := anyOne(rnd)
		b := a
		switch rnd.IntN(3) {
		case 0:
			b = anyOne(rnd)
		case 1:
			b, _, _ = page.Insert(page.Seal(a, rnd.Uint64()), anyItem(rnd, 20))
		default:
			for range rnd.IntN(4) {
				turn(&b, rnd.IntN(8*api.PageSize))
			}
		}
		at, d := page.Diff(a, b)
		if len(d) > 0 && (at < 12 || a[at] == b[at] || a[at+len(d)-1] == b[at+len(d)-1]) {
			t.Fatal("it is longer than what differs", at, len(d))
		}
		c := a
		copy(c[at:], d)
		if string(c[12:]) != string(b[12:]) || string(c[:12]) != string(a[:12]) {
			t.Fatal("not the other one", at, len(d))
		}
	}
}
