package net_test

import (
	"bytes"
	"math"
	"strconv"
	"strings"
	"testing"

	"understudy/api"
	"understudy/net"
)

func made(t *testing.T, ends int) *net.Net {
	t.Helper()
	n, e := net.New(ends)
	if e != api.OK {
		t.Fatal(e)
	}
	return n
}

func is(t *testing.T, got, want api.Errno) {
	t.Helper()
	if got != want {
		t.Errorf("%d, want %d", got, want)
	}
}

// send sends texts like "12a": from 1 to 2 the bytes a.
func send(t *testing.T, n *net.Net, l ...string) {
	t.Helper()
	for _, s := range l {
		if e := n.Send(int(s[0]-'0'), int(s[1]-'0'), []byte(s[2:])); e != api.OK {
			t.Errorf("%s: %d", s, e)
		}
	}
}

// text is a flight as send takes it.
func text(f api.Flight) string {
	return strconv.Itoa(f.From) + strconv.Itoa(f.To) + string(f.Bytes)
}

// flights are the net's, as texts, by their places.
func flights(t *testing.T, n *net.Net) string {
	t.Helper()
	var l []string
	for place, f := range n.All() {
		if place != len(l) {
			t.Errorf("place %d behind %d flights", place, len(l))
		}
		l = append(l, text(f))
	}
	return strings.Join(l, " ")
}

func has(t *testing.T, n *net.Net, want string) {
	t.Helper()
	if got := flights(t, n); got != want {
		t.Errorf("%q, want %q", got, want)
	}
	if count := len(strings.Fields(want)); n.Len() != count {
		t.Errorf("Len: %d, want %d", n.Len(), count)
	}
}

// refused wants that error of a call, and that it changes nothing.
func refused(t *testing.T, n *net.Net, want api.Errno, call func() api.Errno) {
	t.Helper()
	was, lost := flights(t, n), n.Lost()
	is(t, call(), want)
	has(t, n, was)
	if n.Lost() != lost {
		t.Errorf("what is refused is lost: %d, %d", lost, n.Lost())
	}
}

// calls are those of a place. Of a flight beside an error they want that it is zero.
func calls(t *testing.T, n *net.Net) map[string]func(place int) api.Errno {
	flight := func(f api.Flight, e api.Errno) api.Errno {
		t.Helper()
		if e != api.OK && (f.From != 0 || f.To != 0 || f.Bytes != nil) {
			t.Errorf("a flight beside error %d: %s", e, text(f))
		}
		return e
	}
	return map[string]func(int) api.Errno{
		"Take":   func(place int) api.Errno { return flight(n.Take(place)) },
		"At":     func(place int) api.Errno { return flight(n.At(place)) },
		"Drop":   n.Drop,
		"Double": n.Double,
	}
}

// filled is a net of that many ends whose lines are all full.
func filled(t *testing.T, ends int) *net.Net {
	t.Helper()
	n := made(t, ends)
	for from := 1; from <= ends; from++ {
		for to := 1; to <= ends; to++ {
			for i := 0; i < api.MaxFlight && from != to; i++ {
				is(t, n.Send(from, to, []byte{byte('A' + i)}), api.OK)
			}
		}
	}
	return n
}

// Promise P4.1.

func TestNew(t *testing.T) {
	for ends := 1; ends <= api.MaxNodes; ends++ {
		n, e := net.New(ends)
		if n == nil || e != api.OK {
			t.Fatalf("New(%d): %d", ends, e)
		}
		has(t, n, "")
		if n.Lost() != 0 || n.Line(1, ends) != 0 || n.Clear(1) != 0 {
			t.Errorf("New(%d): %d", ends, n.Lost())
		}
		is(t, n.Send(1, ends+1, nil), api.ErrArg)
		is(t, n.Send(ends+1, 1, nil), api.ErrArg)
		if ends > 1 {
			send(t, n, "1"+strconv.Itoa(ends)+"a", strconv.Itoa(ends)+"1b")
		}
	}
	for _, ends := range []int{0, -1, api.MaxNodes + 1, math.MaxInt, math.MinInt, 1<<32 + 1} {
		if n, e := net.New(ends); n != nil || e != api.ErrArg {
			t.Errorf("New(%d): %v, %d", ends, n, e)
		}
	}
}

func TestSend(t *testing.T) {
	n := made(t, 3)
	send(t, n, "31a", "12b", "12", "21c", "13d", "32e", "12f", "23g", "31h")
	has(t, n, "12b 12 12f 13d 21c 23g 31a 31h 32e")
	if n.Lost() != 0 {
		t.Error(n.Lost())
	}
}

func TestSendRefused(t *testing.T) {
	long := make([]byte, api.MaxBytes+1)
	for ends := 1; ends <= api.MaxNodes; ends++ {
		n := filled(t, ends)
		for _, bad := range []int{0, -1, ends + 1, api.MaxNodes + 1, math.MaxInt, math.MinInt, 1<<32 + 1} {
			for good := 1; good <= ends; good++ {
				refused(t, n, api.ErrArg, func() api.Errno { return n.Send(bad, good, nil) })
				refused(t, n, api.ErrArg, func() api.Errno { return n.Send(good, bad, nil) })
				refused(t, n, api.ErrArg, func() api.Errno { return n.Send(good, good, nil) })
			}
			refused(t, n, api.ErrArg, func() api.Errno { return n.Send(bad, bad, long) })
		}
		// One of too many bytes, on a line that is full.
		refused(t, n, api.ErrArg, func() api.Errno { return n.Send(1, 2, long) })
	}
}

func TestSendOfManyBytes(t *testing.T) {
	n := made(t, 2)
	b := bytes.Repeat([]byte("abcd"), api.MaxBytes/4)
	b[0], b[api.MaxBytes-1] = 1, 2
	is(t, n.Send(1, 2, b), api.OK)
	f, e := n.At(0)
	if !bytes.Equal(f.Bytes, b) || e != api.OK {
		t.Error(len(f.Bytes), e)
	}
	for _, size := range []int{1, 2, 1000, api.MaxBytes} {
		refused(t, n, api.ErrArg, func() api.Errno { return n.Send(1, 2, make([]byte, api.MaxBytes+size)) })
	}
	is(t, n.Send(1, 2, b[1:]), api.OK)
}

// TestSendNothing: nil and no bytes are one.
func TestSendNothing(t *testing.T) {
	n := made(t, 2)
	for i, b := range [][]byte{nil, {}} {
		is(t, n.Send(2, 1, b), api.OK)
		if f, e := n.At(i); text(f) != "21" || e != api.OK {
			t.Error(text(f), e)
		}
	}
	if n.Len() != 2 || n.Line(2, 1) != 2 {
		t.Error(n.Len(), n.Line(2, 1))
	}
}

func TestSendOnAFullLine(t *testing.T) {
	n := made(t, 3)
	for i := range api.MaxFlight {
		is(t, n.Send(2, 3, []byte{byte(i)}), api.OK)
		if n.Line(2, 3) != i+1 || n.Lost() != 0 {
			t.Error(i, n.Line(2, 3), n.Lost())
		}
	}
	was := flights(t, n)
	for lost := 1; lost <= 3; lost++ {
		is(t, n.Send(2, 3, []byte("x")), api.ErrFull)
		has(t, n, was)
		if n.Lost() != lost || n.Line(2, 3) != api.MaxFlight {
			t.Error(lost, n.Lost(), n.Line(2, 3))
		}
	}
	send(t, n, "32a", "21b", "12c")
	is(t, n.Drop(2), api.OK) // the line's first one
	send(t, n, "23y")
	is(t, n.Send(2, 3, nil), api.ErrFull)
	if f, e := n.At(33); text(f) != "23y" || e != api.OK {
		t.Error(text(f), e)
	}
	if n.Lost() != 4 || n.Len() != 35 {
		t.Error(n.Lost(), n.Len())
	}
}

// TestSentBytesStayTheCallers: and the net has its own ones.
func TestSentBytesStayTheCallers(t *testing.T) {
	n := made(t, 2)
	b := []byte("abc...")
	is(t, n.Send(1, 2, b[:3]), api.OK)
	if string(b) != "abc..." {
		t.Error(string(b))
	}
	b[0] = 'x'
	is(t, n.Send(1, 2, b[:2]), api.OK)
	clear(b)
	has(t, n, "12abc 12xb")
}

// Promise P4.2.

func TestTake(t *testing.T) {
	n := made(t, 3)
	send(t, n, "21a", "12b", "13c", "12d", "12e")
	for _, x := range []struct {
		place      int
		want, left string
	}{{1, "12d", "12b 12e 13c 21a"}, {3, "21a", "12b 12e 13c"}, {0, "12b", "12e 13c"}, {1, "13c", "12e"}, {0, "12e", ""}} {
		f, e := n.Take(x.place)
		if text(f) != x.want || e != api.OK {
			t.Error(text(f), e)
		}
		has(t, n, x.left)
	}
	refused(t, n, api.ErrNone, func() api.Errno { _, e := n.Take(0); return e })
}

func TestDrop(t *testing.T) {
	n := made(t, 3)
	send(t, n, "32a", "23b", "32c", "32d", "31e")
	for _, x := range []struct {
		place int
		left  string
	}{{3, "23b 31e 32a 32d"}, {0, "31e 32a 32d"}, {2, "31e 32a"}, {0, "32a"}, {0, ""}} {
		is(t, n.Drop(x.place), api.OK)
		has(t, n, x.left)
	}
	if n.Lost() != 0 {
		t.Error("what is dropped is none of Lost", n.Lost())
	}
}

func TestDouble(t *testing.T) {
	n := made(t, 3)
	send(t, n, "12a", "12b", "13c", "31d")
	for _, x := range []struct {
		place int
		has   string
	}{{0, "12a 12b 12a 13c 31d"}, {1, "12a 12b 12a 12b 13c 31d"}, {4, "12a 12b 12a 12b 13c 13c 31d"}, {6, "12a 12b 12a 12b 13c 13c 31d 31d"}} {
		is(t, n.Double(x.place), api.OK)
		has(t, n, x.has)
	}
	is(t, n.Drop(0), api.OK)
	f, e := n.Take(1)
	if text(f) != "12a" || e != api.OK {
		t.Error("the other one stays", text(f), e)
	}
	has(t, n, "12b 12b 13c 13c 31d 31d")
}

func TestDoubleOnAFullLine(t *testing.T) {
	n := made(t, 2)
	send(t, n, "12a", "21b")
	for i := 1; i < api.MaxFlight; i++ {
		is(t, n.Double(0), api.OK)
		if n.Line(1, 2) != i+1 {
			t.Error(i, n.Line(1, 2))
		}
	}
	for place := range api.MaxFlight {
		refused(t, n, api.ErrFull, func() api.Errno { return n.Double(place) })
	}
	is(t, n.Send(1, 2, nil), api.ErrFull)
	refused(t, n, api.ErrFull, func() api.Errno { return n.Double(5) })
	if n.Lost() != 1 {
		t.Error(n.Lost())
	}
	is(t, n.Double(api.MaxFlight), api.OK)
	is(t, n.Drop(api.MaxFlight-1), api.OK)
	is(t, n.Double(0), api.OK)
	if n.Line(1, 2) != api.MaxFlight || n.Line(2, 1) != 2 {
		t.Error(n.Line(1, 2), n.Line(2, 1))
	}
}

func TestAt(t *testing.T) {
	n := made(t, 4)
	send(t, n, "43a", "12b", "34c", "12d", "21e")
	was := flights(t, n)
	for range 2 {
		for place, want := range strings.Fields(was) {
			f, e := n.At(place)
			if text(f) != want || e != api.OK {
				t.Error(place, text(f), e)
			}
		}
	}
	has(t, n, was)
}

// TestPlacesRefused: what comes first of several is told, on full lines, too.
func TestPlacesRefused(t *testing.T) {
	one := made(t, 3)
	send(t, one, "23a")
	for _, n := range []*net.Net{made(t, 1), made(t, api.MaxNodes), one, filled(t, 2), filled(t, api.MaxNodes)} {
		for name, call := range calls(t, n) {
			for _, place := range []int{-1, -2, math.MinInt, math.MinInt32} {
				refused(t, n, api.ErrArg, func() api.Errno { return call(place) })
			}
			for _, place := range []int{n.Len(), n.Len() + 1, 641, math.MaxInt, 1 << 32} {
				refused(t, n, api.ErrNone, func() api.Errno { return call(place) })
			}
			if t.Failed() {
				t.Fatal(name)
			}
		}
	}
}

// TestFirstAndLastPlace, of one flight, and of as many as there may be.
func TestFirstAndLastPlace(t *testing.T) {
	n := made(t, api.MaxNodes)
	send(t, n, "54a")
	f, e := n.Take(0)
	if text(f) != "54a" || e != api.OK {
		t.Error(text(f), e)
	}
	n = filled(t, api.MaxNodes)
	for want := 640; want > 0; want-- {
		if n.Len() != want {
			t.Fatal(n.Len(), want)
		}
		last := want - 1
		line := last / api.MaxFlight
		from, to := 1+line/4, 1+line%4
		if to >= from {
			to++
		}
		f, e := n.Take(last)
		if f.From != from || f.To != to || string(f.Bytes) != string([]byte{byte('A' + last%api.MaxFlight)}) || e != api.OK {
			t.Fatal(last, text(f), e)
		}
	}
}

// TestToldBytesAreTheCallers: whatever he does to them, nothing else changes.
func TestToldBytesAreTheCallers(t *testing.T) {
	n := made(t, 2)
	send(t, n, "12abc")
	is(t, n.Double(0), api.OK)
	c := n.Copy()
	all := n.All()
	at, _ := n.At(0)
	clear(at.Bytes)
	for _, f := range n.All() {
		clear(f.Bytes)
	}
	for _, f := range all {
		clear(f.Bytes)
		_ = append(f.Bytes, 'x')
	}
	taken, _ := n.Take(0)
	again, _ := n.At(0)
	clear(taken.Bytes)
	if text(again) != "12abc" {
		t.Error("a doubled flight shares its bytes", text(again))
	}
	has(t, n, "12abc")
	has(t, c, "12abc 12abc")
	for _, f := range all {
		if text(f) != "12abc" {
			t.Error("what All goes over is changed by who is told it", text(f))
		}
	}
}

func TestExamples(t *testing.T) {
	n := made(t, 3)
	send(t, n, "21a", "12b", "13c")
	f, e := n.At(0)
	if text(f) != "12b" || e != api.OK {
		t.Error(text(f), e)
	}
	f, e = n.Take(2)
	if text(f) != "21a" || e != api.OK || n.Len() != 2 {
		t.Error(text(f), e, n.Len())
	}
	is(t, n.Double(0), api.OK)
	f, e = n.Take(1)
	if text(f) != "12b" || e != api.OK {
		t.Error(text(f), e)
	}
	is(t, n.Drop(9), api.ErrNone)
	is(t, n.Send(1, 1, []byte("x")), api.ErrArg)
}
