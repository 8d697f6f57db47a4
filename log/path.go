package log

import (
	"math"
	"slices"

	"understudy/api"
)

const firstTimeline = 1

// MayPath tells whether there may be such a path.
func MayPath(p []api.Fork) bool {
	if len(p) < 1 || len(p) > api.MaxForks || p[0] != (api.Fork{Timeline: firstTimeline}) {
		return false
	}
	for i, f := range p[1:] {
		ahead := p[:i+1]
		if !mayTimeline(f.Timeline) || has(ahead, f.Timeline) || f.From < p[i].From || f.From > api.MaxPlace {
			return false
		}
	}
	return true
}

// Shared is the place up to which two paths are one.
func Shared(a, b []api.Fork) uint64 {
	n := 0
	for n < min(len(a), len(b)) && a[n] == b[n] {
		n++
	}
	a, b = a[n:], b[n:]
	switch {
	case len(a) > 0 && len(b) > 0:
		return min(a[0].From, b[0].From)
	case len(a) > 0:
		return a[0].From
	case len(b) > 0:
		return b[0].From
	}
	return api.MaxPlace
}

// On tells whether a place of a timeline lies on a path.
func On(path []api.Fork, timeline, at uint64) bool {
	i := indexOf(path, timeline)
	if i < 0 || at < path[i].From {
		return false
	}
	return i+1 == len(path) || at <= path[i+1].From
}

func mayTimeline(n uint64) bool {
	return n >= firstTimeline && n <= math.MaxInt32
}

// indexOf is which of the forks is the first one of that timeline, or below 0.
func indexOf(path []api.Fork, timeline uint64) int {
	return slices.IndexFunc(path, func(f api.Fork) bool { return f.Timeline == timeline })
}

func has(path []api.Fork, timeline uint64) bool {
	return indexOf(path, timeline) >= 0
}
