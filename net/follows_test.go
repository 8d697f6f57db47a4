package net_test

import (
	"math/rand/v2"
	"slices"
	"strings"
	"testing"

	"understudy/api"
	"understudy/net"
)

// Promise P4.4.

// plain is a net in the plainest way: all that is in flight, in the order in which it was sent or doubled.
type plain struct {
	ends, lost int
	flights    []string // as send takes them
}

func (p *plain) copy() *plain {
	return &plain{p.ends, p.lost, slices.Clone(p.flights)}
}

// order is the flights by their places.
func (p *plain) order() []string {
	l := slices.Clone(p.flights)
	slices.SortStableFunc(l, func(a, b string) int { return strings.Compare(a[:2], b[:2]) })
	return l
}

func (p *plain) count(line string) (n int) {
	for _, f := range p.flights {
		if f[:2] == line {
			n++
		}
	}
	return n
}

func (p *plain) send(f string) api.Errno {
	from, to := int(f[0]-'0'), int(f[1]-'0')
	if from < 1 || to < 1 || from > p.ends || to > p.ends || from == to {
		return api.ErrArg
	}
	if p.count(f[:2]) == api.MaxFlight {
		p.lost++
		return api.ErrFull
	}
	p.flights = append(p.flights, f)
	return api.OK
}

func (p *plain) at(place int) (string, api.Errno) {
	switch l := p.order(); {
	case place < 0:
		return "00", api.ErrArg
	case place >= len(l):
		return "00", api.ErrNone
	default:
		return l[place], api.OK
	}
}

// drop takes the one at that place: of its line the one that has as many of it ahead.
func (p *plain) drop(place int) api.Errno {
	f, e := p.at(place)
	if e != api.OK {
		return e
	}
	ahead := 0
	for _, g := range p.order()[:place] {
		if g[:2] == f[:2] {
			ahead++
		}
	}
	for i, g := range p.flights {
		if g[:2] != f[:2] {
			continue
		}
		if ahead == 0 {
			p.flights = slices.Delete(p.flights, i, i+1)
			break
		}
		ahead--
	}
	return api.OK
}

func (p *plain) double(place int) api.Errno {
	f, e := p.at(place)
	if e != api.OK {
		return e
	}
	if p.count(f[:2]) == api.MaxFlight {
		return api.ErrFull
	}
	p.flights = append(p.flights, f)
	return api.OK
}

func (p *plain) clear(end int) (gone int) {
	var left []string
	for _, f := range p.flights {
		if int(f[1]-'0') == end {
			gone++
		} else {
			left = append(left, f)
		}
	}
	p.flights = left
	return gone
}

// alike wants that n is what p is, as far as looks tell.
func alike(t *testing.T, n *net.Net, p *plain) {
	t.Helper()
	has(t, n, strings.Join(p.order(), " "))
	if n.Lost() != p.lost {
		t.Errorf("Lost: %d, want %d", n.Lost(), p.lost)
	}
	for from := range p.ends + 2 {
		for to := range p.ends + 2 {
			if got, want := n.Line(from, to), p.count(string([]byte{byte('0' + from), byte('0' + to)})); got != want {
				t.Errorf("Line(%d, %d): %d, want %d", from, to, got, want)
			}
		}
	}
}

// call does any call to both, and wants the same answer of them.
func call(t *testing.T, rnd *rand.Rand, n *net.Net, p *plain) {
	t.Helper()
	place := rnd.IntN(len(p.flights)+3) - 1
	end := rnd.IntN(p.ends + 2)
	switch kind := rnd.IntN(40); {
	case kind < 20:
		f := string([]byte{byte('0' + end), byte('0' + rnd.IntN(p.ends+2)), byte('a' + rnd.IntN(26))})
		is(t, n.Send(int(f[0]-'0'), int(f[1]-'0'), []byte(f[2:])), p.send(f))
	case kind < 28:
		is(t, n.Double(place), p.double(place))
	case kind < 32:
		is(t, n.Drop(place), p.drop(place))
	case kind < 36:
		want, _ := p.at(place)
		f, e := n.Take(place)
		is(t, e, p.drop(place))
		if text(f) != want {
			t.Errorf("Take(%d): %s, want %s", place, text(f), want)
		}
	case kind < 39:
		want, we := p.at(place)
		f, e := n.At(place)
		is(t, e, we)
		if text(f) != want {
			t.Errorf("At(%d): %s, want %s", place, text(f), want)
		}
	case rnd.IntN(4) == 0:
		if gone, want := n.Clear(end), p.clear(end); gone != want {
			t.Errorf("Clear(%d): %d, want %d", end, gone, want)
		}
	}
}

// TestAnyCalls: also on copies, each of which goes on apart.
func TestAnyCalls(t *testing.T) {
	for seed := range uint64(50) {
		rnd := rand.New(rand.NewPCG(seed, 4))
		p := &plain{ends: 1 + rnd.IntN(api.MaxNodes)}
		n := made(t, p.ends)
		for range 400 {
			call(t, rnd, n, p)
			if rnd.IntN(50) == 0 {
				c, q := n.Copy(), p.copy()
				for range 20 {
					call(t, rnd, n, p)
					call(t, rnd, c, q)
				}
				alike(t, c, q)
			}
			alike(t, n, p)
			if t.Failed() {
				t.Fatalf("seed %d", seed)
			}
		}
	}
}

// TestLinesInOrder: of lines of which always the first one is taken, nothing doubled, all that was not lost comes, in order.
func TestLinesInOrder(t *testing.T) {
	for seed := range uint64(30) {
		rnd := rand.New(rand.NewPCG(seed, 5))
		ends := 2 + rnd.IntN(api.MaxNodes-1)
		n := made(t, ends)
		sent, taken := map[[2]int]string{}, map[[2]int]string{}
		take := func(from, to int) {
			for place, f := range n.All() {
				if f.From == from && f.To == to {
					got, e := n.Take(place)
					is(t, e, api.OK)
					taken[[2]int{got.From, got.To}] += string(got.Bytes)
					return
				}
			}
		}
		for i := range 900 {
			from, to := 1+rnd.IntN(ends), 1+rnd.IntN(ends)
			if rnd.IntN(3) == 0 {
				take(from, to)
			} else if b := []byte{byte(i), byte(i >> 8)}; n.Send(from, to, b) == api.OK {
				sent[[2]int{from, to}] += string(b)
			}
		}
		for n.Len() > 0 {
			f, _ := n.At(rnd.IntN(n.Len()))
			take(f.From, f.To)
		}
		for from := 1; from <= ends; from++ {
			for to := 1; to <= ends; to++ {
				if l := [2]int{from, to}; sent[l] != taken[l] {
					t.Fatalf("seed %d, line %d: %x, taken %x", seed, l, sent[l], taken[l])
				}
			}
		}
	}
}

// TestGreatNet: as many flights as there may be, of as many bytes as one may have, in good time.
func TestGreatNet(t *testing.T) {
	n := made(t, api.MaxNodes)
	b := make([]byte, api.MaxBytes)
	for from := 1; from <= api.MaxNodes; from++ {
		is(t, n.Send(from, 1+from%api.MaxNodes, b), api.OK)
	}
	for line := range api.MaxNodes {
		for range api.MaxFlight - 1 {
			is(t, n.Double(line*api.MaxFlight), api.OK)
		}
	}
	for want := api.MaxNodes * api.MaxFlight; want > 0; want-- {
		if n.Len() != want {
			t.Fatal(n.Len(), want)
		}
		f, e := n.Take(want - 1)
		if len(f.Bytes) != api.MaxBytes || e != api.OK {
			t.Fatal(want, len(f.Bytes), e)
		}
	}
}
