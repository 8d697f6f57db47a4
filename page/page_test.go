package page_test

import (
	"encoding/binary"
	"math"
	"math/rand/v2"
	"strconv"
	"strings"
	"testing"

	"understudy/api"
	"understudy/page"
)

// slot is where an item stands, and how many bytes it has.
type slot struct{ at, size int }

var empty slot

// short writes a number in the page's two bytes there.
func short(p *api.Page, at, n int) {
	binary.BigEndian.PutUint16(p[at:], uint16(n))
}

// laid is a page by hand: so many slots, items that begin there, and those slots, as many as are given.
func laid(count, items int, l ...slot) api.Page {
	var p api.Page
	short(&p, 14, count)
	short(&p, 16, items)
	for i, s := range l {
		short(&p, 18+4*i, s.at)
		short(&p, 20+4*i, s.size)
	}
	return p
}

// lay is laid with as many slots as are given.
func lay(items int, l ...slot) api.Page {
	return laid(len(l), items, l...)
}

func anyPage(rnd *rand.Rand) (p api.Page) {
	for i := range p {
		p[i] = byte(rnd.Uint32())
	}
	return p
}

func is(t *testing.T, got, want api.Errno) {
	t.Helper()
	if got != want {
		t.Errorf("%d, want %d", got, want)
	}
}

// insert inserts texts, and wants them in these slots.
func insert(t *testing.T, p api.Page, first int, l ...string) api.Page {
	t.Helper()
	for i, s := range l {
		q, n, e := page.Insert(p, []byte(s))
		if n != first+i || e != api.OK {
			t.Fatalf("Insert(%q): %d, %d, want slot %d", s, n, e, first+i)
		}
		p = q
	}
	return p
}

// dropped is the page without the items of these slots.
func dropped(t *testing.T, p api.Page, l ...int) api.Page {
	t.Helper()
	for _, n := range l {
		q, e := page.Drop(p, n)
		if e != api.OK {
			t.Fatalf("Drop(%d): %d", n, e)
		}
		p = q
	}
	return p
}

func packed(t *testing.T, p api.Page) api.Page {
	t.Helper()
	q, e := page.Pack(p)
	is(t, e, api.OK)
	return q
}

// items is what Items goes over: "0a 2c".
func items(p api.Page) string {
	var l []string
	for n, b := range page.Items(p) {
		l = append(l, strconv.Itoa(n)+string(b))
	}
	return strings.Join(l, " ")
}

// has wants these texts in the slots, "-" where one is empty.
func has(t *testing.T, p api.Page, l ...string) {
	t.Helper()
	var want []string
	for n, s := range l {
		b, e := page.Item(p, n)
		if s == "-" {
			is(t, e, api.ErrNone)
			continue
		}
		is(t, e, api.OK)
		if string(b) != s {
			t.Errorf("slot %d: %q, want %q", n, b, s)
		}
		want = append(want, strconv.Itoa(n)+s)
	}
	if got := items(p); got != strings.Join(want, " ") {
		t.Errorf("items %q, want %q", got, want)
	}
	if !page.Right(p) || page.Slots(p) != len(l) {
		t.Errorf("right %v, slots %d, want %d", page.Right(p), page.Slots(p), len(l))
	}
}

// same wants one page, byte by byte.
func same(t *testing.T, got, want api.Page) {
	t.Helper()
	for i := range got {
		if got[i] != want[i] {
			t.Errorf("byte %d: %d, want %d", i, got[i], want[i])
			return
		}
	}
}

// calls are those that may be refused. Beside an error they want that all else is zero.
func calls(t *testing.T, n int, item []byte) map[string]func(p api.Page) api.Errno {
	changed := func(p api.Page, e api.Errno) api.Errno {
		t.Helper()
		if e != api.OK && p != (api.Page{}) {
			t.Errorf("a page beside error %d", e)
		}
		return e
	}
	return map[string]func(api.Page) api.Errno{
		"Insert": func(p api.Page) api.Errno {
			q, n, e := page.Insert(p, item)
			if e != api.OK && n != 0 {
				t.Errorf("slot %d beside error %d", n, e)
			}
			return changed(q, e)
		},
		"Item": func(p api.Page) api.Errno {
			b, e := page.Item(p, n)
			if e != api.OK && len(b) != 0 {
				t.Errorf("%q beside error %d", b, e)
			}
			return e
		},
		"Set":  func(p api.Page) api.Errno { return changed(page.Set(p, n, item)) },
		"Drop": func(p api.Page) api.Errno { return changed(page.Drop(p, n)) },
		"Pack": func(p api.Page) api.Errno { return changed(page.Pack(p)) },
	}
}

// wrongSlots are below 0, farSlots behind those that any page has.
var (
	wrongSlots = []int{-1, -2, -256, math.MinInt, math.MinInt32, -1 << 62}
	farSlots   = []int{252, 256, 65535, 65536, math.MaxInt32, math.MaxInt, 1 << 62, 1 << 32}
)

// Promise P5.1.

func TestInit(t *testing.T) {
	for kind := range 256 {
		p := page.Init(byte(kind))
		var want api.Page
		want[12], want[16] = byte(kind), 4
		same(t, p, want)
		has(t, p)
		if page.Kind(p) != byte(kind) || page.Room(p) != 1002 || page.LSN(p) != 0 {
			t.Error(kind, page.Kind(p), page.Room(p), page.LSN(p))
		}
	}
}

func TestKindOfAnyPage(t *testing.T) {
	rnd := rand.New(rand.NewPCG(5, 1))
	if page.Kind(api.Page{}) != 0 {
		t.Error("of noughts")
	}
	for range 500 {
		if p := anyPage(rnd); page.Kind(p) != p[12] {
			t.Error(page.Kind(p), p[12])
		}
	}
	p := insert(t, page.Init(200), 0, "a", "b")
	if page.Kind(p) != 200 || page.Kind(dropped(t, p, 0, 1)) != 200 || page.Kind(packed(t, p)) != 200 || page.Kind(page.Seal(p, 9)) != 200 {
		t.Error("the kind does not stay")
	}
}

func TestSlots(t *testing.T) {
	p := page.Init(1)
	for n := range 201 {
		p = insert(t, p, n, "x")
		if page.Slots(p) != n+1 {
			t.Fatal(n, page.Slots(p))
		}
	}
	if page.Slots(dropped(t, p, 7)) != 201 {
		t.Error("empty ones count")
	}
	var l [251]slot
	l[250] = slot{1022, 2}
	if n := page.Slots(lay(1022, l[:]...)); n != 251 {
		t.Error("as many as there may be", n)
	}
}

func TestRight(t *testing.T) {
	one := slot{1023, 1}
	for i, p := range []api.Page{
		lay(1024),
		lay(18),
		lay(500),
		lay(1023, one),
		lay(22, one),
		lay(22, slot{22, 1}),
		lay(22, slot{22, 1000}),
		lay(24, slot{24, 1000}),
		lay(1000, slot{1000, 24}),
		lay(1000, empty, one),
		lay(1000, empty, empty, slot{1000, 1}),
		lay(1000, slot{1000, 4}, slot{1004, 4}, slot{1008, 16}),
		lay(1000, slot{1008, 16}, slot{1004, 4}, slot{1000, 4}),
		lay(1000, slot{1004, 4}, empty, slot{1012, 12}, slot{1000, 4}),
		lay(900, slot{1000, 4}, slot{950, 3}),
		lay(30, slot{30, 1}, slot{1023, 1}, slot{31, 992}),
	} {
		if !page.Right(p) {
			t.Errorf("page %d is right", i)
		}
		is(t, calls(t, 0, nil)["Pack"](p), api.OK)
	}
}

func TestRightLooksAtNothingElse(t *testing.T) {
	rnd := rand.New(rand.NewPCG(5, 2))
	p := insert(t, page.Init(1), 0, "one", "two", "three")
	p = dropped(t, p, 1)
	for range 500 {
		q := anyPage(rnd)
		copy(q[14:30], p[14:30])
		if !page.Right(q) || page.Slots(q) != 3 || page.Room(q) != 1013-30 {
			t.Fatal(q[:30])
		}
	}
}

// wrongPages are pages that are not right, by what is wrong with them.
func wrongPages() map[string]api.Page {
	one, ten := slot{1023, 1}, slot{1014, 10}
	var most [252]slot
	for i := range most {
		most[i] = slot{1023, 1}
	}
	return map[string]api.Page{
		"noughts":                                {},
		"items ahead of the head's end":          lay(17),
		"items at 0":                             lay(0),
		"items behind the page's end":            lay(1025),
		"items far behind the page's end":        lay(65535),
		"items and a slot behind the page's end": lay(1025, slot{1025, 1}),
		"items ahead of the slots' end":          lay(21, one),
		"items ahead of two slots' end":          lay(25, empty, one),
		"items where the slots begin":            lay(18, one),
		"a slot that does not fit":               laid(252, 1024, most[:251]...),
		"as many slots as can be told":           laid(65535, 1024, most[:251]...),
		"as many slots, items behind the end":    laid(65535, 65535, most[:251]...),
		"slots that are multiples of the page":   laid(16384, 1024, most[:251]...),
		"an empty last slot":                     lay(1024, empty),
		"an empty last slot behind an item":      lay(1023, one, empty),
		"empty last slots":                       lay(1000, empty, one, empty, empty),
		"an item ahead of the items":             lay(1000, slot{999, 25}),
		"an item in the head":                    lay(1000, slot{0, 24}),
		"an item in the slots":                   lay(22, slot{18, 4}),
		"an item that begins ahead, by one":      lay(1000, slot{999, 1}),
		"an item that ends behind the page":      lay(1000, slot{1000, 25}),
		"an item that begins at the page's end":  lay(1000, slot{1024, 1}),
		"an item far behind the page's end":      lay(1000, slot{65535, 1}),
		"an item whose end is 2 to the 16th":     lay(1000, slot{65000, 536}),
		"an item as great as can be told":        lay(1000, slot{65535, 65535}),
		"an item as long as can be told":         lay(1000, slot{1000, 65535}),
		"a place without bytes":                  lay(1000, slot{1000, 0}),
		"a place without bytes, the end":         lay(1000, slot{1024, 0}),
		"a place without bytes ahead of an item": lay(1000, slot{1010, 0}, one),
		"bytes without a place":                  lay(1000, slot{0, 1}),
		"bytes without a place ahead of an item": lay(1000, slot{0, 10}, one),
		"an item too long":                       lay(22, slot{22, 1001}),
		"an item too long, to the end":           lay(22, slot{22, 1002}),
		"an item too long behind a gap":          lay(22, slot{23, 1001}),
		"two of one item":                        lay(1000, one, one),
		"items that overlap by one":              lay(1000, slot{1000, 4}, slot{1003, 4}),
		"items that overlap by one, turned":      lay(1000, slot{1003, 4}, slot{1000, 4}),
		"an item in another one":                 lay(1000, ten, slot{1018, 2}),
		"an item around another one":             lay(1000, slot{1018, 2}, ten),
		"items with the same beginning":          lay(1000, slot{1000, 4}, slot{1000, 5}),
		"items with the same end":                lay(1000, slot{1020, 4}, slot{1021, 3}),
		"overlaps with slots between":            lay(1000, slot{1000, 4}, empty, slot{1010, 1}, slot{1002, 4}),
		"a wrong slot between right ones":        lay(1000, slot{1000, 4}, slot{990, 4}, slot{1010, 4}),
	}
}

func TestNotRight(t *testing.T) {
	for name, p := range wrongPages() {
		for range 2 {
			if page.Right(p) || page.Slots(p) != 0 || page.Room(p) != 0 || page.Kind(p) != p[12] {
				t.Errorf("%s: %v, %d, %d", name, page.Right(p), page.Slots(p), page.Room(p))
			}
			p = page.Seal(p, 9)
			p[12], p[13] = 7, 1
		}
		for n, b := range page.Items(p) {
			t.Errorf("%s: item %d, %q", name, n, b)
		}
		for _, n := range []int{0, 1, -1, math.MaxInt} {
			for _, size := range []int{0, 1, 10, 1000, 1001, 5000} {
				for call, do := range calls(t, n, make([]byte, size)) {
					if e := do(p); e != api.ErrBytes {
						t.Errorf("%s: %s(%d, %d bytes): %d", name, call, n, size, e)
					}
				}
			}
		}
	}
}

func TestRoom(t *testing.T) {
	one, two := slot{1023, 1}, slot{1022, 1}
	for i, x := range []struct {
		p    api.Page
		room int
	}{
		{lay(1024), 1002},
		{lay(23), 1},
		{lay(22), 0},
		{lay(21), 0},
		{lay(18), 0},
		{lay(1023, one), 1023 - 22 - 4},
		{lay(1000, one), 1000 - 22 - 4},
		{lay(28, one), 2},
		{lay(27, one), 1},
		{lay(26, one), 0},
		{lay(25, one), 0},
		{lay(24, one), 0},
		{lay(23, one), 0},
		{lay(22, one), 0},
		{lay(28, empty, one), 2},
		{lay(27, empty, one), 1},
		{lay(26, empty, one), 0},
		{lay(1022, one, empty, two), 1022 - 30},
		{lay(1022, empty, empty, two), 1022 - 30},
		{lay(1022, one, two), 1022 - 26 - 4},
	} {
		if room := page.Room(x.p); room != x.room || !page.Right(x.p) {
			t.Errorf("page %d: room %d, want %d", i, room, x.room)
		}
	}
}
