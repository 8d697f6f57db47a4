package page_test

import (
	"math/rand/v2"
	"strings"
	"testing"

	"understudy/api"
	"understudy/page"
)

// Promise P5.3.

func TestPackByBytes(t *testing.T) {
	p := insert(t, page.Init(7), 0, "one", "two", "three", "four")
	p = page.Seal(dropped(t, p, 1, 3), 0x0102030405060708)
	p[13] = 77
	p[500] = 5
	want := p
	copy(want[14:], []byte{0, 3, 3, 248, 3, 253, 0, 3, 0, 0, 0, 0, 3, 248, 0, 5})
	clear(want[30:])
	copy(want[1016:], "threeone")
	q := packed(t, p)
	same(t, q, want)
	has(t, q, "one", "-", "three")
	if page.LSN(q) != 0x0102030405060708 || page.Kind(q) != 7 || page.Room(q) != 1016-30 {
		t.Error(q[:18], page.Room(q))
	}
	same(t, packed(t, q), q)
}

func TestPackOfItemsInAnyOrder(t *testing.T) {
	p := lay(900, slot{950, 2}, empty, slot{1000, 3}, slot{900, 1}, slot{1003, 4}, slot{952, 5})
	for i := range 124 {
		p[900+i] = byte(i)
	}
	text := func(at, size int) string { return string(p[at : at+size]) }
	q := packed(t, p)
	want := lay(1009, slot{1022, 2}, empty, slot{1019, 3}, slot{1018, 1}, slot{1014, 4}, slot{1009, 5})
	copy(want[1009:], text(952, 5)+text(1003, 4)+text(900, 1)+text(1000, 3)+text(950, 2))
	same(t, q, want)
	has(t, q, text(950, 2), "-", text(1000, 3), text(900, 1), text(1003, 4), text(952, 5))
}

func TestPackOfPagesWithoutHoles(t *testing.T) {
	p := insert(t, page.Init(3), 0, "one", "two", "three")
	same(t, packed(t, p), p)
	p = page.Init(9)
	same(t, packed(t, p), p)
	for i := range 201 {
		p = insert(t, p, i, "x")
	}
	same(t, packed(t, p), p)
	p = insert(t, page.Init(3), 0, strings.Repeat("y", 1000))
	same(t, packed(t, p), p)
}

func TestPackOfPagesWithoutItems(t *testing.T) {
	for _, begin := range []int{18, 19, 500, 1023, 1024} {
		p := lay(begin)
		p[12] = 4
		for i := 18; i < 1024; i++ {
			p[i] = 1
		}
		same(t, packed(t, p), page.Init(4))
	}
	p := dropped(t, insert(t, page.Init(4), 0, "a", "b"), 0, 1)
	same(t, packed(t, p), page.Init(4))
}

func TestPackMakesRoom(t *testing.T) {
	p := page.Init(1)
	for i := range 10 {
		p = insert(t, p, i, strings.Repeat("x", 90))
	}
	p = dropped(t, p, 2, 5)
	is(t, calls(t, 0, make([]byte, 150))["Insert"](p), api.ErrFull)
	q := packed(t, p)
	if page.Room(q) != 1002-8*90-36-4+4 {
		t.Error(page.Room(q))
	}
	insert(t, q, 2, strings.Repeat("y", 150))
}

func TestItems(t *testing.T) {
	p := insert(t, page.Init(1), 0, "a", "bb", "ccc", "d", "e")
	if s := items(p); s != "0a 1bb 2ccc 3d 4e" {
		t.Error(s)
	}
	if s := items(dropped(t, p, 0, 2)); s != "1bb 3d 4e" {
		t.Error(s)
	}
	if s := items(dropped(t, p, 4, 3)); s != "0a 1bb 2ccc" {
		t.Error(s)
	}
	if s := items(page.Init(1)) + items(lay(500)) + items(api.Page{}) + items(lay(1000, slot{1000, 1}, empty)); s != "" {
		t.Error(s)
	}
}

func TestItemsAreLeftAndGoneThroughAgain(t *testing.T) {
	p := dropped(t, insert(t, page.Init(1), 0, "a", "b", "c", "d"), 1)
	look := page.Items(p)
	for last := range 4 {
		seen := ""
		for n, b := range look {
			seen += string(b)
			if n >= last {
				break
			}
		}
		if want := []string{"a", "ac", "ac", "acd"}[last]; seen != want {
			t.Errorf("left at %d: %q, want %q", last, seen, want)
		}
	}
	nested := ""
	for _, b := range look {
		nested += string(b)
		for n, c := range look {
			if n > 2 {
				break
			}
			nested += string(c)
		}
	}
	if nested != "aaccacdac" {
		t.Error(nested)
	}
	told := 0
	look(func(int, []byte) bool { told++; return false })
	if told != 1 {
		t.Error("it goes on as it is left", told)
	}
	look(nil)
	page.Items(api.Page{})(nil)
	page.Items(page.Init(1))(nil)
}

// TestItemsAreTheCallers: whatever becomes of them, and of the page, the look is the same.
func TestItemsAreTheCallers(t *testing.T) {
	p := insert(t, page.Init(1), 0, "abc", "def")
	look := page.Items(p)
	for range 2 {
		seen := ""
		for _, b := range look {
			seen += string(b)
			clear(b)
			_ = append(b, "??????"...)
			clear(p[:])
		}
		if seen != "abcdef" {
			t.Error(seen)
		}
	}
}

// TestPackOfAnyPage: what is packed has the same slots and items, is packed as said, and stays when it is packed again.
func TestPackOfAnyPage(t *testing.T) {
	rnd := rand.New(rand.NewPCG(5, 3))
	for range 2000 {
		p := anyRight(rnd)
		q := packed(t, p)
		if items(p) != items(q) || page.Slots(p) != page.Slots(q) || string(p[:14]) != string(q[:14]) {
			t.Fatal("another page", p)
		}
		end := 1024
		for n, b := range page.Items(q) {
			end -= len(b)
			if string(q[end:end+len(b)]) != string(b) {
				t.Fatalf("item %d does not stand at %d", n, end)
			}
		}
		for at := 18 + 4*page.Slots(q); at < end; at++ {
			if q[at] != 0 {
				t.Fatalf("byte %d: %d", at, q[at])
			}
		}
		if page.Room(q) < page.Room(p) {
			t.Fatal(page.Room(q), page.Room(p))
		}
		same(t, packed(t, q), q)
	}
}
