package net

import (
	"bytes"
	"iter"

	"understudy/api"
)

// All goes over the flights with their places. It stays at what was there as it was called.
func (n *Net) All() iter.Seq2[int, api.Flight] {
	c := n.Copy()
	return func(yield func(int, api.Flight) bool) {
		for place, f := range c.all() {
			if yield == nil || !yield(place, told(f)) {
				return
			}
		}
	}
}

// Len is how many flights there are.
func (n *Net) Len() int {
	count := 0
	for range n.all() {
		count++
	}
	return count
}

// Line is how many flights that line has.
func (n *Net) Line(from, to int) int {
	if n.none() {
		return 0
	}
	return len(n.lines[line{from, to}])
}

// Lost is how many Sends found their line full.
func (n *Net) Lost() int {
	if n.none() {
		return 0
	}
	return n.lost
}

// all is All, but of the net as it is, with its own bytes: who looks for a place, or counts, is not to copy what he passes by.
func (n *Net) all() iter.Seq2[int, api.Flight] {
	return func(yield func(int, api.Flight) bool) {
		place := 0
		for _, l := range n.order() {
			for _, b := range n.lines[l] {
				if !yield(place, api.Flight{From: l.from, To: l.to, Bytes: b}) {
					return
				}
				place++
			}
		}
	}
}

// order is the lines by rising From, then To.
func (n *Net) order() (l []line) {
	if n.none() {
		return nil
	}
	for from := 1; from <= n.ends; from++ {
		for to := 1; to <= n.ends; to++ {
			l = append(l, line{from, to})
		}
	}
	return l
}

// told is the flight with bytes that are the caller's.
func told(f api.Flight) api.Flight {
	f.Bytes = bytes.Clone(f.Bytes)
	return f
}
