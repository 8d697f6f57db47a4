package log_test

import (
	"math"
	"math/rand/v2"
	"slices"
	"testing"

	"understudy/api"
	"understudy/log"
)

// longPath is a path of so many forks, of which each begins 10 behind the one ahead of it.
func longPath(n int) (p []api.Fork) {
	for i := range n {
		p = append(p, api.Fork{Timeline: uint64(i + 1), From: uint64(i * 10)})
	}
	return p
}

func TestMayPath(t *testing.T) {
	for i, x := range []struct {
		p    []api.Fork
		want bool
	}{
		{nil, false},
		{[]api.Fork{}, false},
		{path(1, 0), true},
		{path(1, 1), false},
		{path(2, 0), false},
		{path(0, 0), false},
		{longPath(16), true},
		{longPath(17), false},
		{longPath(40), false},
		{path(1, 0, 2, 0), true},
		{path(1, 0, 1, 0), false},
		{path(1, 0, 1, 5), false},
		{path(2, 0, 1, 0), false},
		{path(1, 0, 3, 5, 2, 5), true},
		{path(1, 0, 3, 5, 2, 4), false},
		{path(1, 0, 3, 5, 2, 6, 3, 7), false},
		{path(1, 0, 3, 5, 2, 6, 2, 7), false},
		{path(1, 0, 0, 5), false},
		{path(1, 0, math.MaxInt32, 5), true},
		{path(1, 0, math.MaxInt32+1, 5), false},
		{path(1, 0, 1<<32+2, 5), false},
		{path(1, 0, math.MaxUint64, 5), false},
		{path(1, 0, 2, 1<<62), true},
		{path(1, 0, 2, 1<<62, 3, 1<<62), true},
		{path(1, 0, 2, 1<<62+1), false},
		{path(1, 0, 2, 1<<63), false},
		{path(1, 0, 2, math.MaxUint64), false},
		{path(1, 0, 2, 1<<62, 3, 0), false},
	} {
		was := slices.Clone(x.p)
		if log.MayPath(x.p) != x.want {
			t.Error(i, x.p)
		}
		if !slices.Equal(x.p, was) {
			t.Error("it is changed", i)
		}
	}
}

// Promise P7.5.

func TestShared(t *testing.T) {
	own := path(1, 0, 2, 100, 4, 200)
	for i, x := range []struct {
		a, b []api.Fork
		want uint64
	}{
		{path(1, 0), path(1, 0), 1 << 62},
		{own, slices.Clone(own), 1 << 62},
		{longPath(16), longPath(16), 1 << 62},
		{own, path(1, 0), 100},
		{own, path(1, 0, 2, 100), 200},
		{longPath(16), longPath(15), 150},
		{own, path(1, 0, 3, 70), 70},
		{own, path(1, 0, 3, 100), 100},
		{own, path(1, 0, 3, 170), 100},
		{own, path(1, 0, 2, 90), 90},
		{own, path(1, 0, 2, 110, 4, 200), 100},
		{own, path(1, 0, 2, 100, 4, 199), 199},
		{own, path(1, 0, 2, 100, 5, 201), 200},
		{own, path(1, 0, 4, 200), 100},
		{own, path(1, 0, 2, 100, 4, 200, 9, 200), 200},
		{path(1, 0), path(1, 0, 2, 1<<62), 1 << 62},
		// Lists that are no paths.
		{nil, nil, 1 << 62},
		{nil, []api.Fork{}, 1 << 62},
		{nil, own, 0},
		{nil, path(7, 30), 30},
		{path(7, 40), path(7, 30), 30},
		{path(8, 30), path(7, 30), 30},
		{path(1, 0, 1, 0), path(1, 0), 0},
		{path(1, 0, 2, 9, 3, 5), path(1, 0, 2, 9, 4, 7), 5},
		{path(1, 0, 2, 1<<63), path(1, 0, 2, 1<<63), 1 << 62},
		{path(1, 0, 2, 1<<63), path(1, 0), 1 << 63},
		{path(1, 0, 2, 1<<63), path(1, 0, 3, math.MaxUint64), 1 << 63},
		{path(math.MaxUint64, math.MaxUint64), nil, math.MaxUint64},
		{longPath(40), longPath(50), 400},
	} {
		if got := log.Shared(x.a, x.b); got != x.want {
			t.Errorf("%d: %d, want %d", i, got, x.want)
		}
		if got := log.Shared(x.b, x.a); got != x.want {
			t.Errorf("%d turned round: %d, want %d", i, got, x.want)
		}
	}
}

func TestOn(t *testing.T) {
	own := path(1, 0, 2, 100, 4, 200)
	for i, x := range []struct {
		p            []api.Fork
		timeline, at uint64
		want         bool
	}{
		{own, 1, 0, true},
		{own, 1, 100, true},
		{own, 1, 101, false},
		{own, 2, 99, false},
		{own, 2, 100, true},
		{own, 2, 150, true},
		{own, 2, 200, true},
		{own, 2, 201, false},
		{own, 4, 199, false},
		{own, 4, 200, true},
		{own, 4, 1 << 62, true},
		{own, 4, math.MaxUint64, true},
		{own, 3, 150, false},
		{own, 0, 0, false},
		{own, math.MaxUint64, 150, false},
		{path(1, 0, 2, 100, 3, 100), 2, 100, true},
		{path(1, 0, 2, 100, 3, 100), 2, 101, false},
		{path(1, 0, 2, 100, 3, 100), 2, 99, false},
		// Lists that are no paths.
		{nil, 1, 0, false},
		{path(0, 0), 0, 5, true},
		{path(2, 9), 2, 8, false},
		{path(1, 0, 2, 10, 1, 20), 1, 15, false},
		{path(1, 0, 2, 10, 1, 20), 1, 25, false},
		{path(1, 0, 2, 10, 1, 20), 1, 5, true},
		{path(1, 30, 2, 10), 1, 30, false},
		{path(1, 30, 2, 10), 1, 20, false},
		{path(1, 30, 2, 10), 2, 20, true},
		{path(math.MaxUint64, math.MaxUint64), math.MaxUint64, math.MaxUint64, true},
	} {
		if log.On(x.p, x.timeline, x.at) != x.want {
			t.Error(i, x)
		}
	}
}

// TestSharedByPlaces: two paths are one up to a place, if each place ahead of it lies on one timeline of both, in one order of timelines.
func TestSharedByPlaces(t *testing.T) {
	rnd := rand.New(rand.NewPCG(7, 5))
	anyPath := func() []api.Fork {
		p := path(1, 0)
		for range rnd.IntN(4) {
			p = append(p, api.Fork{Timeline: 2 + rnd.Uint64N(4), From: p[len(p)-1].From + rnd.Uint64N(3)})
		}
		return p
	}
	upTo := func(p []api.Fork, place uint64) (l []api.Fork) {
		for _, f := range p {
			if f.From < place {
				l = append(l, f)
			}
		}
		return l
	}
	for range 20000 {
		a, b := anyPath(), anyPath()
		if !log.MayPath(a) || !log.MayPath(b) {
			continue
		}
		n := log.Shared(a, b)
		if slices.Equal(a, b) != (n == 1<<62) {
			t.Fatal(a, b, n)
		}
		if n < 1<<62 && (!slices.Equal(upTo(a, n), upTo(b, n)) && n > 0 || slices.Equal(upTo(a, n+1), upTo(b, n+1))) {
			t.Fatal(a, b, n)
		}
	}
}
