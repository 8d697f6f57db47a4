package page_test

import (
	"bytes"
	"math"
	"strings"
	"testing"

	"understudy/api"
	"understudy/page"
)

// Promise P5.2.

func TestInsertByBytes(t *testing.T) {
	p := insert(t, page.Init(7), 0, "one", "two", "three")
	want := lay(1013, slot{1021, 3}, slot{1018, 3}, slot{1013, 5})
	want[12] = 7
	copy(want[1013:], "threetwoone")
	same(t, p, want)
	has(t, p, "one", "two", "three")
}

func TestInsertTakesTheFirstEmptySlot(t *testing.T) {
	p := insert(t, page.Init(1), 0, "a", "b", "c", "d", "e")
	p = dropped(t, p, 3, 1)
	has(t, p, "a", "-", "c", "-", "e")
	p = insert(t, p, 1, "B")
	p = insert(t, p, 3, "D")
	p = insert(t, p, 5, "f", "g")
	has(t, p, "a", "B", "c", "D", "e", "f", "g")
	// Items stand where they were, each ahead of those that were there, be they dropped since or not.
	if string(p[1015:]) != "gfDBedcba" {
		t.Errorf("%q", p[1015:])
	}
	p = insert(t, dropped(t, p, 0), 0, "A")
	has(t, p, "A", "B", "c", "D", "e", "f", "g")
}

func TestTheChaptersExample(t *testing.T) {
	p := insert(t, page.Init(3), 0, "ab", "c")
	p = insert(t, dropped(t, p, 0), 0, "xyz")
	if page.Room(p) != 988 {
		t.Error(page.Room(p))
	}
	p = dropped(t, p, 0)
	has(t, p, "-", "c")
	q, e := page.Set(p, 1, []byte("d"))
	is(t, e, api.OK)
	has(t, q, "-", "d")
	is(t, calls(t, 1, []byte("de"))["Set"](p), api.ErrArg)
	has(t, p, "-", "c")
}

func TestInsertOfEachSize(t *testing.T) {
	for _, size := range []int{1, 2, 255, 256, 257, 999, 1000} {
		item := bytes.Repeat([]byte{byte(size), 9}, 500)[:size]
		p, n, e := page.Insert(page.Init(1), item)
		if n != 0 || e != api.OK {
			t.Fatal(size, n, e)
		}
		has(t, p, string(item))
		if !bytes.Equal(p[1024-size:], item) || page.Room(p) != max(0, 1002-size-4) {
			t.Error(size, page.Room(p))
		}
	}
	for _, size := range []int{0, 1001, 1002, 1003, 1024, 65536, 65537, 1 << 20} {
		for _, p := range []api.Page{page.Init(1), insert(t, page.Init(1), 0, "x"), lay(18)} {
			is(t, calls(t, 0, make([]byte, size))["Insert"](p), api.ErrArg)
		}
	}
	is(t, calls(t, 0, nil)["Insert"](page.Init(1)), api.ErrArg)
}

// TestInsertOfAsMuchAsThereIsRoom, and of one byte more, with an empty slot and with none.
func TestInsertOfAsMuchAsThereIsRoom(t *testing.T) {
	for _, size := range []int{1, 2, 3, 7, 200, 500, 990, 995, 996, 997} {
		none := insert(t, page.Init(1), 0, strings.Repeat("x", size))
		two := insert(t, page.Init(1), 0, "y", strings.Repeat("x", size-min(size-1, 4)))
		for i, p := range []api.Page{none, dropped(t, two, 0)} {
			room := page.Room(p)
			if want := 998 - size; i == 0 && room != want {
				t.Errorf("%d bytes: room %d, want %d", size, room, want)
			}
			is(t, calls(t, 0, make([]byte, room+1))["Insert"](p), api.ErrFull)
			q, n, e := page.Insert(p, bytes.Repeat([]byte{'z'}, room))
			if n != 1-i || e != api.OK || page.Room(q) != 0 || !page.Right(q) {
				t.Errorf("%d bytes: slot %d, %d, room %d", room, n, e, page.Room(q))
			}
			is(t, calls(t, 0, []byte("q"))["Insert"](q), api.ErrFull)
		}
	}
}

func TestInsertWhereRoomWouldBeBelowNought(t *testing.T) {
	for gap := range 9 {
		full := lay(22+gap, slot{1023, 1})
		want := api.ErrFull
		if gap > 4 {
			want = api.OK
		}
		is(t, calls(t, 0, []byte("q"))["Insert"](full), want)
		want = api.ErrFull
		if gap > 0 {
			want = api.OK
		}
		is(t, calls(t, 0, []byte("q"))["Insert"](lay(26+gap, empty, slot{1023, 1})), want)
		is(t, calls(t, 0, make([]byte, gap+1))["Insert"](lay(26+gap, empty, slot{1023, 1})), api.ErrFull)
	}
	// Too long an item is told ahead of too little room.
	is(t, calls(t, 0, make([]byte, 1001))["Insert"](lay(22, slot{1023, 1})), api.ErrArg)
	is(t, calls(t, 0, nil)["Insert"](lay(22, slot{1023, 1})), api.ErrArg)
}

func TestAsManyItemsAsThereMayBe(t *testing.T) {
	p := page.Init(1)
	var want []string
	for i := range 201 {
		want = append(want, string([]byte{byte('A' + i%50)}))
		p = insert(t, p, i, want[i])
	}
	has(t, p, want...)
	if page.Room(p) != 0 {
		t.Error(page.Room(p))
	}
	is(t, calls(t, 0, []byte("q"))["Insert"](p), api.ErrFull)
	// There is a byte between the slots and the items: enough where a slot is empty.
	p = insert(t, dropped(t, p, 100), 100, "!")
	want[100] = "!"
	has(t, p, want...)
	is(t, calls(t, 0, []byte("q"))["Insert"](dropped(t, p, 0)), api.ErrFull)
}

func TestSlotsThatThereAreNot(t *testing.T) {
	p := dropped(t, insert(t, page.Init(1), 0, "a", "b", "c", "d"), 1)
	for _, n := range wrongSlots {
		for _, call := range []string{"Item", "Set", "Drop"} {
			is(t, calls(t, n, []byte("x"))[call](p), api.ErrArg)
			is(t, calls(t, n, []byte("x"))[call](page.Init(1)), api.ErrArg)
		}
	}
	for _, n := range append([]int{1, 4, 5}, farSlots...) {
		for _, call := range []string{"Item", "Set", "Drop"} {
			is(t, calls(t, n, []byte("x"))[call](p), api.ErrNone)
			is(t, calls(t, n, []byte("x"))[call](page.Init(1)), api.ErrNone)
		}
		is(t, calls(t, n, nil)["Set"](p), api.ErrArg)
		is(t, calls(t, n, make([]byte, 1001))["Set"](p), api.ErrArg)
		is(t, calls(t, n, make([]byte, 1000))["Set"](p), api.ErrNone)
	}
	for _, n := range []int{0, 2, 3} {
		for _, call := range []string{"Item", "Set", "Drop"} {
			is(t, calls(t, n, []byte("x"))[call](p), api.OK)
		}
	}
}

func TestItem(t *testing.T) {
	p := insert(t, page.Init(1), 0, "one", "two")
	b, _ := page.Item(p, 0)
	b[0] = '?'
	_ = append(b, "??"...)
	has(t, p, "one", "two")
	whole := lay(24, slot{24, 1000})
	for i := range 1000 {
		whole[24+i] = byte(i)
	}
	b, e := page.Item(whole, 0)
	if e != api.OK || !bytes.Equal(b, whole[24:]) {
		t.Error(len(b), e)
	}
}

func TestSet(t *testing.T) {
	p := insert(t, page.Init(5), 0, "one", "three", "two", "x")
	p = dropped(t, p, 2)
	q, e := page.Set(p, 1, []byte("seven"))
	is(t, e, api.OK)
	want := p
	copy(want[1016:], "seven")
	same(t, q, want)
	has(t, q, "one", "seven", "-", "x")
	q, e = page.Set(q, 0, []byte("uno"))
	is(t, e, api.OK)
	q, e = page.Set(q, 3, []byte{0})
	is(t, e, api.OK)
	has(t, q, "uno", "seven", "-", "\x00")
	has(t, p, "one", "three", "-", "x")
	for n, size := range []int{3, 5, 0, 1} {
		for wrong := range 8 {
			want := api.ErrArg
			switch {
			case n == 2 && wrong > 0:
				want = api.ErrNone
			case wrong == size && n != 2:
				want = api.OK
			}
			if e := calls(t, n, make([]byte, wrong))["Set"](p); e != want {
				t.Errorf("Set(%d, %d bytes): %d, want %d", n, wrong, e, want)
			}
		}
		is(t, calls(t, n, make([]byte, 1001))["Set"](p), api.ErrArg)
		is(t, calls(t, n, make([]byte, 65536+size))["Set"](p), api.ErrArg)
	}
	long := bytes.Repeat([]byte("ab"), 500)
	q, e = page.Set(insert(t, page.Init(1), 0, strings.Repeat("-", 1000)), 0, long)
	is(t, e, api.OK)
	has(t, q, string(long))
}

func TestDropByBytes(t *testing.T) {
	p := insert(t, page.Init(7), 0, "one", "two", "three")
	want := lay(1013, slot{1021, 3}, empty, slot{1013, 5})
	want[12] = 7
	copy(want[1013:], "threetwoone")
	same(t, dropped(t, p, 1), want)
	has(t, dropped(t, p, 1), "one", "-", "three")
	want = lay(1013, empty, slot{1018, 3})
	want[12] = 7
	copy(want[1013:], "threetwoone")
	same(t, dropped(t, p, 2, 0), want)
	has(t, dropped(t, p, 2, 0), "-", "two")
	want = lay(1024)
	want[12] = 7
	copy(want[1013:], "threetwoone")
	for _, order := range [][]int{{0, 1, 2}, {2, 1, 0}, {1, 0, 2}, {1, 2, 0}} {
		q := dropped(t, p, order...)
		same(t, q, want)
		has(t, q)
		if page.Room(q) != 1002 {
			t.Error(page.Room(q))
		}
	}
}

func TestDropOfTheLastSlots(t *testing.T) {
	p := insert(t, page.Init(1), 0, "a", "b", "c", "d", "e", "f")
	p = dropped(t, p, 1, 3, 4)
	has(t, p, "a", "-", "c", "-", "-", "f")
	p = dropped(t, p, 5)
	has(t, p, "a", "-", "c")
	if page.Room(p) != 1018-30 {
		t.Error(page.Room(p))
	}
	has(t, dropped(t, p, 0), "-", "-", "c")
	has(t, dropped(t, p, 0, 2))
	p = dropped(t, p, 2)
	has(t, p, "a")
	if page.Room(p) != 1018-22-4 {
		t.Error("items begin where they did", page.Room(p))
	}
	for n := range 7 {
		if n > 0 {
			is(t, calls(t, n, nil)["Drop"](p), api.ErrNone)
		}
	}
	p = insert(t, p, 1, "b")
	has(t, p, "a", "b")
	// Slots that are none any more are noughts.
	if !bytes.Equal(p[26:1000], make([]byte, 974)) {
		t.Error(p[:50])
	}
}

func TestDropOfTwo(t *testing.T) {
	p := insert(t, page.Init(1), 0, "a", "b")
	q := dropped(t, p, 0)
	for n, want := range []api.Errno{api.ErrNone, api.OK, api.ErrNone} {
		is(t, calls(t, n, []byte("z"))["Drop"](q), want)
		is(t, calls(t, n, []byte("z"))["Set"](q), want)
		is(t, calls(t, n, []byte("z"))["Item"](q), want)
	}
	has(t, p, "a", "b")
}

// TestOrderOfErrors: each call would meet a later error too.
func TestOrderOfErrors(t *testing.T) {
	right, full := insert(t, page.Init(1), 0, "abc"), lay(22, slot{22, 1})
	for i, x := range []struct {
		call string
		p    api.Page
		n    int
		size int
		want api.Errno
	}{
		{"Insert", api.Page{}, 0, 0, api.ErrBytes},
		{"Insert", api.Page{}, 0, 1001, api.ErrBytes},
		{"Insert", api.Page{}, 0, 1000, api.ErrBytes},
		{"Insert", full, 0, 0, api.ErrArg},
		{"Insert", full, 0, 1001, api.ErrArg},
		{"Insert", full, 0, 1000, api.ErrFull},
		{"Item", api.Page{}, -1, 0, api.ErrBytes},
		{"Item", api.Page{}, 1, 0, api.ErrBytes},
		{"Item", right, math.MinInt, 0, api.ErrArg},
		{"Drop", api.Page{}, -1, 0, api.ErrBytes},
		{"Drop", api.Page{}, 1, 0, api.ErrBytes},
		{"Drop", right, math.MinInt, 0, api.ErrArg},
		{"Set", api.Page{}, -1, 0, api.ErrBytes},
		{"Set", api.Page{}, 1, 3, api.ErrBytes},
		{"Set", right, -1, 3, api.ErrArg},
		{"Set", right, -1, 2, api.ErrArg},
		{"Set", right, 1, 0, api.ErrArg},
		{"Set", right, 1, 1001, api.ErrArg},
		{"Set", right, 1, 3, api.ErrNone},
		{"Set", right, 0, 4, api.ErrArg},
		{"Pack", lay(17), 0, 0, api.ErrBytes},
	} {
		if e := calls(t, x.n, make([]byte, x.size))[x.call](x.p); e != x.want {
			t.Errorf("%d: %s: %d, want %d", i, x.call, e, x.want)
		}
	}
}

func TestWhatIsHandedInStays(t *testing.T) {
	p := insert(t, page.Init(1), 0, "abc", "xyz")
	was := p
	item := []byte("1234567")[:3]
	q, _, _ := page.Insert(p, item)
	r, _ := page.Set(p, 0, item)
	page.Drop(p, 1)
	page.Pack(p)
	page.Seal(p, 1)
	same(t, p, was)
	if string(item[:7]) != "1234567" {
		t.Errorf("%q", item[:7])
	}
	item[0] = '?'
	has(t, q, "abc", "xyz", "123")
	has(t, r, "123", "xyz")
}
