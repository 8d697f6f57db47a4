package net_test

import (
	"math"
	"testing"

	"understudy/api"
	"understudy/net"
)

// Promise P4.3.

func TestAllInOrder(t *testing.T) {
	n := made(t, 5)
	send(t, n, "54z", "12a", "15b", "51c", "21d", "45e", "12f", "32g", "31h", "13i", "23j", "12a")
	for range 3 {
		has(t, n, "12a 12f 12a 13i 15b 21d 23j 31h 32g 45e 51c 54z")
	}
	has(t, made(t, 1), "")
}

func TestAllIsLeftAndGoneThroughAgain(t *testing.T) {
	n := made(t, 3)
	send(t, n, "12a", "12b", "31c")
	all := n.All()
	for range 3 {
		for place, f := range all {
			if place == 1 {
				break
			}
			if place != 0 || text(f) != "12a" {
				t.Error(place, text(f))
			}
		}
		count := 0
		for range all {
			count++
		}
		if count != 3 {
			t.Error(count)
		}
	}
	outer := ""
	for place, f := range all {
		outer += string(f.Bytes)
		for inner, g := range all {
			if inner > place {
				break
			}
			outer += string(g.Bytes)
		}
	}
	if outer != "aabab"+"cabc" {
		t.Error(outer)
	}
	told := 0
	all(func(int, api.Flight) bool { told++; return false })
	if told != 1 {
		t.Error("it goes on as it is left", told)
	}
	all(nil)
	n.All()(nil)
}

// TestAllWhileTheNetChanges: it is as the net was as All was called.
func TestAllWhileTheNetChanges(t *testing.T) {
	n := made(t, 3)
	send(t, n, "12a", "12b", "13c", "31d")
	all := n.All()
	none := made(t, 2)
	empty := none.All()
	is(t, n.Drop(0), api.OK)
	send(t, n, "12x", "21y")
	send(t, none, "12z")
	n.Clear(1)
	wanted := func() {
		t.Helper()
		got := ""
		for place, f := range all {
			got += text(f) + string(rune('0'+place))
		}
		if got != "12a012b113c231d3" {
			t.Error(got)
		}
		for _, f := range empty {
			t.Error(text(f))
		}
	}
	wanted()
	is(t, n.Double(0), api.OK)
	wanted()
	has(t, n, "12b 12x 12b 13c")
	for _, f := range n.All() {
		is(t, n.Drop(0), api.OK)
		send(t, n, "23"+string(f.Bytes))
	}
	has(t, n, "23b 23x 23b 23c")
	for range n.All() {
		n.Clear(3)
	}
	has(t, n, "")
	wanted()
}

func TestLenAndLine(t *testing.T) {
	n := made(t, 3)
	for i, x := range []struct {
		do        func()
		len, line int
	}{
		{func() {}, 0, 0},
		{func() { send(t, n, "21a") }, 1, 1},
		{func() { send(t, n, "12b") }, 2, 1},
		{func() { send(t, n, "21c") }, 3, 2},
		{func() { n.Double(2) }, 4, 3},
		{func() { n.Take(0) }, 3, 3},
		{func() { n.Drop(1) }, 2, 2},
		{func() { n.At(1); n.Copy().Clear(1); n.Send(2, 2, nil) }, 2, 2},
		{func() { send(t, n, "31d") }, 3, 2},
		{func() { n.Clear(1) }, 0, 0},
		{func() { send(t, n, "21a") }, 1, 1},
	} {
		x.do()
		if n.Len() != x.len || n.Line(2, 1) != x.line {
			t.Errorf("behind call %d: %d, %d", i, n.Len(), n.Line(2, 1))
		}
	}
	if n.Line(1, 2) != 0 || n.Line(2, 3) != 0 {
		t.Error("another line", n.Line(1, 2), n.Line(2, 3))
	}
}

func TestLineOfEndsThatThereAreNot(t *testing.T) {
	for ends := 1; ends <= api.MaxNodes; ends++ {
		n := filled(t, ends)
		for _, bad := range []int{0, -1, ends + 1, api.MaxNodes + 1, math.MaxInt, math.MinInt, 1<<32 + 1} {
			for end := 1; end <= ends; end++ {
				if n.Line(bad, end) != 0 || n.Line(end, bad) != 0 || n.Line(bad, bad) != 0 || n.Line(end, end) != 0 {
					t.Error(ends, bad, end)
				}
			}
			// Whoever sends there is refused, and nothing of it stays.
			n.Send(bad, 1, nil)
			n.Send(1, bad, nil)
			if n.Line(bad, 1) != 0 || n.Line(1, bad) != 0 {
				t.Error(ends, bad)
			}
		}
	}
}

func TestLost(t *testing.T) {
	n := filled(t, 3)
	for lost := range 70 {
		if n.Lost() != lost {
			t.Fatal(lost, n.Lost())
		}
		is(t, n.Send(1+lost%3, 1+(lost+1)%3, nil), api.ErrFull)
	}
	n.Send(1, 1, nil)
	n.Send(1, 4, nil)
	n.Send(1, 2, make([]byte, api.MaxBytes+1))
	n.Double(0)
	n.Double(-1)
	n.Double(999)
	n.Drop(0)
	n.Take(0)
	n.Clear(3)
	send(t, n, "12a", "12b", "13c")
	if n.Lost() != 70 {
		t.Error("others lose nothing", n.Lost())
	}
}

func TestClear(t *testing.T) {
	n := made(t, 4)
	send(t, n, "12a", "12b", "13c", "21d", "32e", "24f", "42g", "23h", "12i")
	for _, bad := range []int{0, -1, 5, 6, math.MaxInt, math.MinInt, 1<<32 + 2} {
		if gone := n.Clear(bad); gone != 0 {
			t.Error(bad, gone)
		}
	}
	has(t, n, "12a 12b 12i 13c 21d 23h 24f 32e 42g")
	for _, x := range []struct {
		end, gone int
		left      string
	}{{2, 5, "13c 21d 23h 24f"}, {2, 0, "13c 21d 23h 24f"}, {3, 2, "21d 24f"}, {1, 1, "24f"}, {4, 1, ""}, {4, 0, ""}} {
		if gone := n.Clear(x.end); gone != x.gone {
			t.Error(x.end, gone)
		}
		has(t, n, x.left)
	}
	send(t, n, "12x")
	has(t, n, "12x")
}

func TestClearOfFullLines(t *testing.T) {
	n := filled(t, api.MaxNodes)
	if gone := n.Clear(3); gone != 4*api.MaxFlight || n.Len() != 16*api.MaxFlight {
		t.Error(gone, n.Len())
	}
	for from := 1; from <= api.MaxNodes; from++ {
		if from != 3 {
			is(t, n.Send(from, 3, nil), api.OK)
		}
	}
	if n.Len() != 16*api.MaxFlight+4 || n.Lost() != 0 {
		t.Error(n.Len(), n.Lost())
	}
}

func TestCopyGoesOnApart(t *testing.T) {
	n := made(t, 3)
	for range api.MaxFlight + 2 {
		n.Send(3, 1, []byte("q"))
	}
	send(t, n, "12a", "12b", "12c", "21d")
	n.Clear(1)
	c := n.Copy()
	if c.Lost() != 2 || n.Lost() != 2 {
		t.Error(c.Lost(), n.Lost())
	}
	has(t, c, "12a 12b 12c")
	send(t, n, "12x", "23y")
	send(t, c, "12z", "31w")
	has(t, n, "12a 12b 12c 12x 23y")
	has(t, c, "12a 12b 12c 12z 31w")
	is(t, n.Drop(1), api.OK)
	is(t, n.Double(0), api.OK)
	has(t, c, "12a 12b 12c 12z 31w")
	if c.Clear(2) != 4 || n.Line(1, 2) != 4 {
		t.Error("Clear", n.Line(1, 2))
	}
	has(t, n, "12a 12c 12x 12a 23y")
	for range api.MaxFlight + 1 {
		c.Send(1, 2, nil)
	}
	if n.Lost() != 2 || c.Lost() != 3 {
		t.Error(n.Lost(), c.Lost())
	}
	is(t, c.Send(1, 4, nil), api.ErrArg)
	has(t, n, "12a 12c 12x 12a 23y")
}

// Promises P4.1 to P4.3, P0.6, of nets that are none.
func TestNilAndZero(t *testing.T) {
	var zero net.Net
	long := make([]byte, api.MaxBytes+1)
	for _, n := range []*net.Net{nil, &zero, new(net.Net)} {
		for range 2 {
			is(t, n.Send(1, 2, nil), api.ErrNil)
			is(t, n.Send(1, 1, long), api.ErrNil)
			is(t, n.Send(0, -1, nil), api.ErrNil)
			for _, call := range calls(t, n) {
				for _, place := range []int{-1, 0, 1, math.MaxInt, math.MinInt} {
					is(t, call(place), api.ErrNil)
				}
			}
			has(t, n, "")
			n.All()(nil)
			if n.Len() != 0 || n.Line(1, 2) != 0 || n.Line(0, 0) != 0 || n.Lost() != 0 || n.Clear(0) != 0 || n.Clear(1) != 0 {
				t.Error("a look")
			}
			if n.Copy() != nil {
				t.Error("a net of none")
			}
		}
	}
}
